package perm

import (
	"slices"

	"commodatum/api"
)

// Rank returns the number of permutations of the same number of points that precede p lexicographically.
func Rank(p api.Perm) (int, api.Errno) {
	if !Valid(p) {
		return 0, api.ErrForm
	}
	rank := 0
	for i := range p {
		rank = rank*(len(p)-i) + countLess(p[i+1:], p[i])
	}
	return rank, api.OK
}

// countLess returns how many of the points are less than the bound.
func countLess(points []int, bound int) int {
	count := 0
	for _, point := range points {
		if point < bound {
			count++
		}
	}
	return count
}

// Unrank returns the permutation of n points with this rank.
func Unrank(n, rank int) (api.Perm, api.Errno) {
	if n < 1 || n > api.MaxPoints || rank < 0 || rank >= factorial(n) {
		return nil, api.ErrArg
	}
	rest := identity(n)
	p := make(api.Perm, 0, n)
	for len(rest) > 0 {
		// As many permutations begin with each of the points of rest.
		each := factorial(len(rest) - 1)
		at := rank / each
		rank %= each
		p = append(p, rest[at])
		rest = slices.Delete(rest, at, at+1)
	}
	return p, api.OK
}

func factorial(n int) int {
	product := 1
	for i := 2; i <= n; i++ {
		product *= i
	}
	return product
}
