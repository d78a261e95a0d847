package perm

import (
	"iter"

	"commodatum/api"
)

// cycles yields all cycles of the valid permutation p, also those of one point, rising by their least points, with which they begin.
func cycles(p api.Perm) iter.Seq[[]int] {
	return func(yield func([]int) bool) {
		var met marks
		for first := range p {
			if met[first] {
				continue
			}
			cycle := cycleFrom(p, first)
			for _, point := range cycle {
				met[point] = true
			}
			if !yield(cycle) {
				return
			}
		}
	}
}

// cycleFrom returns the cycle of p that begins with the point first.
func cycleFrom(p api.Perm, first int) []int {
	cycle := []int{first}
	for point := p[first]; point != first; point = p[point] {
		cycle = append(cycle, point)
	}
	return cycle
}

// Cycles returns the cycles of at least two points, rising by their least points, with which they begin; nil if p is not valid.
func Cycles(p api.Perm) [][]int {
	if !Valid(p) {
		return nil
	}
	var long [][]int
	for cycle := range cycles(p) {
		if len(cycle) > 1 {
			long = append(long, cycle)
		}
	}
	return long
}

// Order returns the least positive k for which the power k of p is the identity; 0 if p is not valid.
func Order(p api.Perm) int {
	if !Valid(p) {
		return 0
	}
	order := 1
	for cycle := range cycles(p) {
		order = leastMultiple(order, len(cycle))
	}
	return order
}

// Parity returns 0 if p is a product of an even number of exchanges of two points, 1 if of an odd number, and -1 if p is not valid.
func Parity(p api.Perm) int {
	if !Valid(p) {
		return -1
	}
	exchanges := 0
	for cycle := range cycles(p) {
		exchanges += len(cycle) - 1
	}
	return exchanges % 2
}

// Conjugator returns the lexicographically first c for which the product of the inverse of c, p and c is q.
func Conjugator(p, q api.Perm) (api.Perm, api.Errno) {
	if e := checkPair(p, q); e != api.OK {
		return nil, e
	}
	// Such a c maps each cycle of p, in its order, to a cycle of q. The image of a cycle's first point determines those of the others, and every choice of it can be continued; so the least one that is free is right.
	c := make(api.Perm, len(p))
	var used marks
	for from := range cycles(p) {
		to := firstFree(q, len(from), used)
		if to == nil {
			return nil, api.ErrNone
		}
		for i, point := range from {
			c[point] = to[i]
			used[to[i]] = true
		}
	}
	return c, api.OK
}

// firstFree returns the first cycle of q that has the length and is not used; nil if there is none.
func firstFree(q api.Perm, length int, used marks) []int {
	for cycle := range cycles(q) {
		if len(cycle) == length && !used[cycle[0]] {
			return cycle
		}
	}
	return nil
}

// leastMultiple returns the least common multiple of the positive numbers a and b.
func leastMultiple(a, b int) int {
	multiple := a
	for multiple%b != 0 {
		multiple += a
	}
	return multiple
}
