package group

import (
	"fmt"
	"slices"
	"testing"

	"commodatum/api"
)

// The functions of this file compute by the definitions, without any function of the package.

// then maps each point by p and its image by q.
func then(p, q api.Perm) api.Perm {
	r := make(api.Perm, len(p))
	for i := range p {
		r[i] = q[p[i]]
	}
	return r
}

func back(p api.Perm) api.Perm {
	r := make(api.Perm, len(p))
	for i := range p {
		r[p[i]] = i
	}
	return r
}

// bracket is the commutator of p and q.
func bracket(p, q api.Perm) api.Perm {
	return then(then(back(p), back(q)), then(p, q))
}

func isOne(p api.Perm) bool {
	for i := range p {
		if p[i] != i {
			return false
		}
	}
	return true
}

func rising(set map[string]api.Perm) []api.Perm {
	var list []api.Perm
	for _, p := range set {
		list = append(list, p)
	}
	slices.SortFunc(list, func(a, b api.Perm) int { return slices.Compare(a, b) })
	return list
}

// setOf keys permutations by their text.
func setOf(list []api.Perm) map[string]api.Perm {
	set := map[string]api.Perm{}
	for _, p := range list {
		set[fmt.Sprint(p)] = p
	}
	return set
}

func in(set map[string]api.Perm, p api.Perm) bool {
	_, found := set[fmt.Sprint(p)]
	return found
}

// span adds products of elements and generators until there are no new ones.
func span(gens []api.Perm) []api.Perm {
	set := setOf(gens)
	work := rising(set)
	for len(work) > 0 {
		p := work[0]
		work = work[1:]
		for _, q := range gens {
			r := then(p, q)
			if !in(set, r) {
				set[fmt.Sprint(r)] = r
				work = append(work, r)
			}
		}
	}
	return rising(set)
}

// isGroup multiplies all pairs.
func isGroup(list []api.Perm) bool {
	set := setOf(list)
	one := false
	for _, p := range list {
		one = one || isOne(p)
		for _, q := range list {
			if !in(set, then(p, q)) {
				return false
			}
		}
	}
	return one && slices.EqualFunc(list, rising(set), equal)
}

// brackets returns the commutators of all pairs, rising.
func brackets(list []api.Perm) []api.Perm {
	set := map[string]api.Perm{}
	for _, p := range list {
		for _, q := range list {
			r := bracket(p, q)
			set[fmt.Sprint(r)] = r
		}
	}
	return rising(set)
}

func equal(p, q api.Perm) bool {
	return slices.Equal(p, q)
}

func same(a, b []api.Perm) bool {
	return slices.EqualFunc(a, b, equal)
}

// all returns all permutations of n points in lexicographic order.
func all(n int) []api.Perm {
	var list []api.Perm
	var extend func(begin api.Perm)
	extend = func(begin api.Perm) {
		if len(begin) == n {
			list = append(list, slices.Clone(begin))
			return
		}
		for point := range n {
			if !slices.Contains(begin, point) {
				extend(append(slices.Clone(begin), point))
			}
		}
	}
	extend(nil)
	return list
}

// subgroups returns all groups of permutations of n points, at most 5, by Close:
// up to that number, two permutations generate each of them.
func subgroups(t *testing.T, n int) [][]api.Perm {
	t.Helper()
	var list [][]api.Perm
	met := map[string]bool{}
	for _, p := range all(n) {
		for _, q := range all(n) {
			if slices.Compare(p, q) > 0 {
				continue
			}
			g := closed1(t, p, q)
			if key := fmt.Sprint(g); !met[key] {
				met[key] = true
				list = append(list, g)
			}
		}
	}
	return list
}

// closed1 is Close without an error.
func closed1(t *testing.T, gens ...api.Perm) []api.Perm {
	t.Helper()
	g, e := Close(gens)
	if e != api.OK {
		t.Fatalf("Close(%v) = %v", gens, e)
	}
	return g
}

// samples returns groups of all numbers of points: all of those with at most 4 points, and some larger ones.
func samples(t *testing.T) [][]api.Perm {
	t.Helper()
	var list [][]api.Perm
	for n := 1; n <= 4; n++ {
		list = append(list, subgroups(t, n)...)
	}
	return append(list,
		closed1(t, api.Perm{1, 2, 3, 4, 0}),
		closed1(t, api.Perm{1, 2, 3, 4, 0}, api.Perm{0, 4, 3, 2, 1}),
		closed1(t, api.Perm{1, 2, 3, 4, 0}, api.Perm{0, 2, 4, 1, 3}),
		closed1(t, api.Perm{1, 2, 3, 4, 0}, api.Perm{1, 2, 0, 3, 4}),
		closed1(t, api.Perm{1, 2, 3, 4, 0}, api.Perm{1, 0, 2, 3, 4}),
		closed1(t, api.Perm{1, 0, 3, 2, 4, 5}, api.Perm{2, 3, 0, 1, 5, 4}),
		closed1(t, api.Perm{1, 0, 2, 3, 4, 5}, api.Perm{2, 3, 4, 5, 0, 1}),
		closed1(t, api.Perm{1, 2, 3, 4, 5, 6, 0}, api.Perm{0, 3, 6, 2, 5, 1, 4}),
		closed1(t, api.Perm{1, 2, 3, 4, 5, 6, 0}, api.Perm{1, 0, 5, 3, 4, 2, 6}),
		closed1(t, api.Perm{1, 2, 3, 0, 4, 5, 6}, api.Perm{1, 0, 2, 3, 5, 6, 4}, api.Perm{0, 1, 2, 3, 5, 4, 6}),
	)
}

// notGroups lists lists of permutations that are no groups.
func notGroups() map[string][]api.Perm {
	return map[string][]api.Perm{
		"nil":                 nil,
		"empty":               {},
		"no identity":         {{1, 0}},
		"not closed":          {{0, 1, 2}, {1, 2, 0}},
		"not closed, two":     {{0, 1, 2}, {0, 2, 1}, {1, 0, 2}},
		"twice":               {{0, 1}, {0, 1}},
		"falling":             {{1, 0}, {0, 1}},
		"nearly rising":       {{0, 1, 2}, {2, 0, 1}, {1, 2, 0}},
		"other points":        {{0, 1}, {0, 1, 2}},
		"invalid":             {{0, 1}, {1, 1}},
		"invalid alone":       {{1}},
		"no points":           {{}},
		"eight points":        {{0, 1, 2, 3, 4, 5, 6, 7}},
		"one more than twice": {{0, 1}, {1, 0}, {1, 0}},
	}
}
