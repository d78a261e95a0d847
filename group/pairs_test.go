package group

import (
	"slices"
	"testing"

	"commodatum/api"
)

// P2.5: there is a list for exactly the elements of the derived group; its product is the element, and it is a shortest one.
func TestPairs(t *testing.T) {
	for _, g := range samples(t) {
		lengths := productLengths(g)
		for _, x := range g {
			checkPairs(t, g, x, lengths)
		}
	}
}

// productLengths returns for each product of commutators the least number of factors.
func productLengths(g []api.Perm) map[string]int {
	factors := brackets(g)
	lengths := map[string]int{}
	level := []api.Perm{g[0]}
	for length := 0; len(level) > 0; length++ {
		var next []api.Perm
		for _, p := range level {
			if _, met := lengths[key(p)]; met {
				continue
			}
			lengths[key(p)] = length
			for _, q := range factors {
				next = append(next, then(p, q))
			}
		}
		level = next
	}
	return lengths
}

func key(p api.Perm) string {
	s := ""
	for _, x := range p {
		s += string(rune('0' + x))
	}
	return s
}

func checkPairs(t *testing.T, g []api.Perm, x api.Perm, lengths map[string]int) {
	t.Helper()
	pairs, e := Pairs(g, x)
	length, derived := lengths[key(x)]
	if !derived {
		if e != api.ErrNone || pairs != nil {
			t.Fatalf("Pairs(%v, %v) = %v, %v, want ErrNone", g, x, pairs, e)
		}
		return
	}
	set := setOf(g)
	product := g[0]
	for _, p := range pairs {
		if !in(set, p[0]) || !in(set, p[1]) {
			t.Fatalf("Pairs(%v, %v) = %v: not elements", g, x, pairs)
		}
		product = then(product, bracket(p[0], p[1]))
	}
	if e != api.OK || len(pairs) != length || !equal(product, x) {
		t.Fatalf("Pairs(%v, %v) = %v, %v: product %v, want %d pairs", g, x, pairs, e, product, length)
	}
}

// Every even permutation of seven points is a commutator, no other one is a product of them.
func TestPairsOfSeven(t *testing.T) {
	g := all(7)
	for i := 0; i < len(g); i += 97 {
		odd := false
		for a := range 7 {
			for b := range a {
				odd = odd != (g[i][b] > g[i][a])
			}
		}
		pairs, e := Pairs(g, g[i])
		if odd {
			if e != api.ErrNone || pairs != nil {
				t.Fatalf("Pairs of %v: %v, %v", g[i], pairs, e)
			}
			continue
		}
		if i > 0 && (e != api.OK || len(pairs) != 1 || !equal(bracket(pairs[0][0], pairs[0][1]), g[i])) {
			t.Fatalf("Pairs of %v: %v, %v", g[i], pairs, e)
		}
		if i == 0 && (e != api.OK || len(pairs) != 0) {
			t.Fatalf("Pairs of the identity: %v, %v", pairs, e)
		}
	}
}

// In a group of at most seven points no element needs two commutators. Longer products are tested with three pairs only,
// whose commutators turn three points each.
func TestShortest(t *testing.T) {
	turns := []api.Perm{{1, 2, 0, 3, 4, 5, 6}, {0, 1, 3, 4, 2, 5, 6}, {0, 1, 2, 3, 5, 6, 4}}
	var pairs []pair
	for i, turn := range turns {
		swap := pack(api.Perm{0, 1, 2, 3, 4, 5, 6})
		swap[2*i], swap[2*i+1] = swap[2*i+1], swap[2*i]
		// A commutator with an exchange of two of the three points is a turn again.
		pairs = append(pairs, pair{pack(turn), swap})
	}
	lengths := productLengths7(pairs)
	if len(lengths) != 2520 {
		t.Fatalf("%d products", len(lengths))
	}
	longest := 0
	for goal, length := range lengths {
		list := shortest(pairs, goal)
		product := neutral()
		for _, p := range list {
			if !slices.Contains(pairs, p) {
				t.Fatalf("%v is not a pair", p)
			}
			product = product.times(commutator(p.a, p.b))
		}
		if len(list) != length || product != goal {
			t.Fatalf("%v: %v with the product %v, want %d pairs", goal, list, product, length)
		}
		longest = max(longest, length)
	}
	if longest < 3 {
		t.Errorf("no product of more than %d pairs", longest)
	}
}

// productLengths7 returns the least numbers of factors of the products of the pairs' commutators.
func productLengths7(pairs []pair) map[element]int {
	lengths := map[element]int{neutral(): 0}
	level := []element{neutral()}
	for length := 1; len(level) > 0; length++ {
		var next []element
		for _, e := range level {
			for _, p := range pairs {
				product := e.times(p.a.inverse().times(p.b.inverse()).times(p.a).times(p.b))
				if _, met := lengths[product]; !met {
					lengths[product] = length
					next = append(next, product)
				}
			}
		}
		level = next
	}
	return lengths
}

func TestPairsErrors(t *testing.T) {
	three := all(3)
	for _, x := range []struct {
		what string
		l    []api.Perm
		g    api.Perm
		want api.Errno
	}{
		{"invalid element", three, api.Perm{0, 0, 1}, api.ErrForm},
		{"no element", three, nil, api.ErrForm},
		{"eight points", three, api.Perm{0, 1, 2, 3, 4, 5, 6, 7}, api.ErrForm},
		{"no group, invalid element", three[1:], api.Perm{1, 1, 1}, api.ErrForm},
		{"no group, not an element", three[1:], api.Perm{0, 1}, api.ErrForm},
		{"identity of fewer points", three, api.Perm{0, 1}, api.ErrArg},
		{"fewer points", three, api.Perm{1, 0}, api.ErrArg},
		{"more points", three, api.Perm{1, 2, 0, 3}, api.ErrArg},
		{"not an element", closed1(t, api.Perm{1, 2, 0}), api.Perm{1, 0, 2}, api.ErrArg},
		{"not derived", three, api.Perm{1, 0, 2}, api.ErrNone},
		{"commutative", closed1(t, api.Perm{1, 2, 0}), api.Perm{1, 2, 0}, api.ErrNone},
	} {
		if got, e := Pairs(x.l, x.g); e != x.want || got != nil {
			t.Errorf("%s: %v, %v, want %v", x.what, got, e, x.want)
		}
	}
}

func TestPairsMemory(t *testing.T) {
	g := all(5)
	x := api.Perm{1, 2, 0, 3, 4}
	pairs, e := Pairs(g, x)
	if e != api.OK || len(pairs) != 1 {
		t.Fatal(pairs, e)
	}
	for _, p := range pairs {
		p[0][0], p[1][0] = -1, -2
		if p[0][0] != -1 {
			t.Error("the elements of a pair share memory")
		}
	}
	if !same(g, all(5)) || !equal(x, api.Perm{1, 2, 0, 3, 4}) {
		t.Error("a result shares memory with an argument")
	}
}
