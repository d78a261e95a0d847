package perm

import (
	"math"
	"slices"
	"testing"

	"commodatum/api"
)

func TestValid(t *testing.T) {
	for n := 1; n <= api.MaxPoints; n++ {
		for _, p := range all(n) {
			if !Valid(p) {
				t.Fatalf("Valid(%v) is false", p)
			}
		}
	}
	for _, p := range invalid() {
		if Valid(p) {
			t.Errorf("Valid(%v) is true", p)
		}
	}
}

func TestIdentity(t *testing.T) {
	for n := 1; n <= api.MaxPoints; n++ {
		p, e := Identity(n)
		if e != api.OK || len(p) != n || !isIdentity(p) {
			t.Errorf("Identity(%d) = %v, %v", n, p, e)
		}
	}
	for _, n := range []int{0, -1, api.MaxPoints + 1, math.MaxInt, math.MinInt} {
		p, e := Identity(n)
		wantError(t, "Identity", p, e, api.ErrArg)
	}
}

// P1.1: Mul is the product, first p and then q, which is associative.
func TestGroupProducts(t *testing.T) {
	for n := 1; n <= 4; n++ {
		list := all(n)
		for _, p := range list {
			for _, q := range list {
				pq, e := Mul(p, q)
				wantPerm(t, "Mul", pq, e, then(p, q))
				for _, r := range list {
					qr, _ := Mul(q, r)
					left, _ := Mul(pq, r)
					right, e := Mul(p, qr)
					wantPerm(t, "Mul", right, e, left)
				}
			}
		}
	}
	wide := some(7, 53)
	for _, p := range wide {
		for _, q := range wide {
			pq, e := Mul(p, q)
			wantPerm(t, "Mul", pq, e, then(p, q))
		}
	}
}

// P1.1: the identity is neutral, and a permutation times its inverse is the identity.
func TestGroupNeutralAndInverse(t *testing.T) {
	for n := 1; n <= api.MaxPoints; n++ {
		one, _ := Identity(n)
		for _, p := range all(n) {
			left, e := Mul(one, p)
			wantPerm(t, "Mul by the identity", left, e, p)
			right, e := Mul(p, one)
			wantPerm(t, "Mul by the identity", right, e, p)
			back, e := Inverse(p)
			sure(t, back, e)
			left, e = Mul(back, p)
			wantPerm(t, "Mul by the inverse", left, e, one)
			right, e = Mul(p, back)
			wantPerm(t, "Mul by the inverse", right, e, one)
		}
	}
}

func TestCommutatorIsTheProduct(t *testing.T) {
	for n := 1; n <= 5; n++ {
		for _, p := range all(n) {
			back, _ := Inverse(p)
			for _, q := range all(n) {
				undo, _ := Inverse(q)
				c, e := Commutator(p, q)
				wantPerm(t, "Commutator", c, e, then(then(then(back, undo), p), q))
			}
		}
	}
}

func TestProductExamples(t *testing.T) {
	p, e := Mul(api.Perm{1, 0, 2}, api.Perm{0, 2, 1})
	wantPerm(t, "Mul", p, e, api.Perm{2, 0, 1})
	if s, _ := Text(p); s != "(0 2 1)" {
		t.Errorf("Mul of (0 1) and (1 2) = %q", s)
	}
	a, _ := Parse("(0 1 2 3 4)", 5)
	b, _ := Parse("(0 2 4 3 1)", 5)
	c, e := Commutator(a, b)
	if e != api.OK || Order(c) != 5 {
		t.Errorf("Commutator = %v, %v", c, e)
	}
}

func TestErrorsOfPairs(t *testing.T) {
	calls := map[string]func(p, q api.Perm) (api.Perm, api.Errno){"Mul": Mul, "Commutator": Commutator, "Conjugator": Conjugator}
	for name, call := range calls {
		for _, bad := range invalid() {
			for _, other := range []api.Perm{{0}, {1, 0}, {2, 0, 1}, nil} {
				p, e := call(bad, other)
				wantError(t, name, p, e, api.ErrForm)
				p, e = call(other, bad)
				wantError(t, name, p, e, api.ErrForm)
			}
		}
		p, e := call(api.Perm{0}, api.Perm{0, 1})
		wantError(t, name, p, e, api.ErrArg)
		p, e = call(api.Perm{0, 1, 2, 3, 4, 5, 6}, api.Perm{0, 1, 2, 3, 4, 5})
		wantError(t, name, p, e, api.ErrArg)
	}
}

func TestErrorsOfOne(t *testing.T) {
	for _, bad := range invalid() {
		p, e := Inverse(bad)
		wantError(t, "Inverse", p, e, api.ErrForm)
		p, e = Power(bad, 2)
		wantError(t, "Power", p, e, api.ErrForm)
		if Order(bad) != 0 || Parity(bad) != -1 || Cycles(bad) != nil {
			t.Errorf("%v has the order %d, the parity %d and the cycles %v", bad, Order(bad), Parity(bad), Cycles(bad))
		}
	}
}

// Results are new memory, and arguments are not changed (R5).
func TestResultsAreNew(t *testing.T) {
	p, q := api.Perm{1, 2, 0, 4, 3}, api.Perm{0, 1, 2, 3, 4}
	oldP, oldQ := slices.Clone(p), slices.Clone(q)
	spoil := func(r api.Perm, e api.Errno) {
		sure(t, r, e)
		for i := range r {
			r[i] = -7
		}
		if !slices.Equal(p, oldP) || !slices.Equal(q, oldQ) {
			t.Fatalf("arguments became %v and %v", p, q)
		}
	}
	spoil(Mul(p, q))
	spoil(Mul(q, p))
	spoil(Commutator(p, q))
	spoil(Commutator(p, p))
	spoil(Inverse(p))
	spoil(Inverse(q))
	spoil(Power(p, 1))
	spoil(Power(p, 7))
	spoil(Power(q, 0))
	spoil(Conjugator(p, p))
	cycles := Cycles(p)
	_ = append(cycles[0], -7)
	if cycles[1][0] != 3 {
		t.Errorf("cycles share memory: %v", cycles)
	}
}
