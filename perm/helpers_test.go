package perm

import (
	"slices"
	"testing"

	"commodatum/api"
)

// invalid lists lists of numbers that are no permutations.
func invalid() []api.Perm {
	return []api.Perm{
		nil,
		{},
		{1},
		{-1},
		{0, 0},
		{1, 2},
		{0, 2},
		{0, -1},
		{2, 1, 3},
		{0, 1, 1},
		{0, 1, 2, 3, 4, 5, 7},
		{0, 1, 2, 3, 4, 5, 6, 7},
		{7, 6, 5, 4, 3, 2, 1, 0},
	}
}

// all returns all permutations of n points in lexicographic order, without any function of the package.
func all(n int) []api.Perm {
	var list []api.Perm
	var extend func(begin api.Perm)
	extend = func(begin api.Perm) {
		if len(begin) == n {
			list = append(list, slices.Clone(begin))
			return
		}
		for point := range n {
			if !slices.Contains(begin, point) {
				extend(append(slices.Clone(begin), point))
			}
		}
	}
	extend(nil)
	return list
}

// some returns every step-th permutation of n points.
func some(n, step int) []api.Perm {
	var list []api.Perm
	for i, p := range all(n) {
		if i%step == 0 {
			list = append(list, p)
		}
	}
	return list
}

// then maps each point by p and its image by q.
func then(p, q api.Perm) api.Perm {
	r := make(api.Perm, len(p))
	for i := range p {
		r[i] = q[p[i]]
	}
	return r
}

func isIdentity(p api.Perm) bool {
	for i, image := range p {
		if i != image {
			return false
		}
	}
	return true
}

// sure fails the test unless e is OK, and returns p.
func sure(t *testing.T, p api.Perm, e api.Errno) api.Perm {
	t.Helper()
	if e != api.OK {
		t.Fatalf("error %v", e)
	}
	return p
}

// wantPerm fails the test unless e is OK and p the wanted permutation.
func wantPerm(t *testing.T, what string, p api.Perm, e api.Errno, want api.Perm) {
	t.Helper()
	if e != api.OK || !slices.Equal(p, want) {
		t.Fatalf("%s = %v, %v, want %v", what, p, e, want)
	}
}

// wantError fails the test unless e is the wanted error and p is zero.
func wantError(t *testing.T, what string, p api.Perm, e, want api.Errno) {
	t.Helper()
	if e != want || len(p) != 0 {
		t.Errorf("%s = %v, %v, want the error %v", what, p, e, want)
	}
}
