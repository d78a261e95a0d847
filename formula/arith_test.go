package formula

import (
	"slices"
	"testing"

	"commodatum/api"
	"commodatum/poly"
)

// wantArith fails unless Arith has the values of the formula at the given indexes of its table, and is as flat and uses the inputs as it must.
func wantArith(t *testing.T, f api.Field, g api.Formula, indexes []int) api.Expr {
	t.Helper()
	a, e := Arith(f, g)
	if e != api.OK || !ValidExpr(f, a) {
		t.Fatalf("%v: %s: %v", f, brief(written(g)), e)
	}
	_, _, depth := counted(g)
	if _, _, d := countedExpr(a); d > 4*depth+2 {
		t.Fatalf("%v: %s: depth %d", f, brief(written(g)), d)
	}
	known := inputsOf(g)
	for n := range inputsOfExpr(a) {
		if !known[n] {
			t.Fatalf("%v: %s: input %d", f, brief(written(g)), n)
		}
	}
	for _, index := range indexes {
		x, value := make([]int, 16), 0
		for i := range x {
			x[i] = index >> i & 1
		}
		if valueOf(g, index) {
			value = 1
		}
		if v := valueOfExpr(f, a, x); v != value {
			t.Fatalf("%v: %s at %d: %d", f, brief(written(g)), index, v)
		}
	}
	return a
}

func upTo(n int) []int {
	list := make([]int, n)
	for i := range list {
		list[i] = i
	}
	return list
}

// P5.4: Arith has the values of the formula, over every field.
func TestArith(t *testing.T) {
	small := smallFormulas(5, input(0), input(1), truth(0), truth(1))
	for _, f := range fields {
		for _, g := range small {
			wantArith(t, f, g, upTo(4))
		}
	}
}

func TestArithOfLargerFormulas(t *testing.T) {
	r := numbers(8)
	for _, f := range fields {
		for size := 1; size < 60; size++ {
			wantArith(t, f, r.some(size, 5), upTo(32))
		}
	}
	wantArith(t, two, input(15), []int{0, 1 << 15, 1<<15 - 1, 1<<16 - 1})
}

// P5.4: the polynomial of Arith is, for Boolean inputs, the multilinear one of the table.
func TestArithOfTable(t *testing.T) {
	r := numbers(9)
	for _, f := range []api.Field{two, three, four, seven, large} {
		for range 40 {
			g := r.some(1+r.below(10), 4)
			a, e := Arith(f, g)
			if e != api.OK {
				t.Fatal(e)
			}
			p, e := PolyOf(f, a, 4)
			if e != api.OK {
				t.Fatal(e)
			}
			table, _ := Table(g, 4)
			q, e := poly.Multilinear(f, table)
			want(t, withoutPowers(p, f), e, q)
		}
	}
}

// withoutPowers replaces exponents by 1, which changes no value at 0 and at 1.
func withoutPowers(p api.Poly, f api.Field) api.Poly {
	sum := api.Poly{}
	for _, term := range p {
		e := slices.Clone(term.E)
		for i := range e {
			e[i] = min(e[i], 1)
		}
		sum, _ = poly.Add(f, len(e), sum, api.Poly{{C: term.C, E: e}})
	}
	return sum
}

// P5.4: no ErrSize for a depth of at most 6, however many negations there are.
func TestArithOfDepthSix(t *testing.T) {
	r := numbers(10)
	negated := func(f api.Formula) api.Formula {
		for range r.below(60) {
			f = not(f)
		}
		return f
	}
	var flat func(depth int) api.Formula
	flat = func(depth int) api.Formula {
		if depth < 1 {
			return negated(input(r.below(6)))
		}
		kind := api.FAnd + r.below(3)
		if depth == 1 {
			kind = api.FAnd + r.below(2)
		}
		below := depth - 1
		if kind == api.FXor {
			below--
		}
		left := flat(below)
		return negated(gate(kind, left, flat(below)))
	}
	for _, f := range fields {
		for range 10 {
			wantArith(t, f, flat(6), upTo(64))
		}
		wantArith(t, f, full(api.FXor, 8, input16), upTo(256))
		wantArith(t, f, full(api.FOr, 64, func(i int) api.Formula { return not(input(i % 8)) }), upTo(256))
		wantArith(t, f, chain(1000, not), upTo(2))
	}
}

// P5.4: no ErrSize without FXor for 1000 nodes that are nested 300 deep.
func TestArithWithoutXor(t *testing.T) {
	r := numbers(11)
	indexes := make([]int, 20)
	for i := range indexes {
		indexes[i] = r.below(1 << 16)
	}
	turn := 0
	chains := []func(f api.Formula) api.Formula{
		func(f api.Formula) api.Formula { return or(f, input(r.below(16))) },
		func(f api.Formula) api.Formula { return and(not(input(r.below(16))), f) },
		func(f api.Formula) api.Formula {
			turn++
			return gate(api.FAnd+turn%2, f, input(r.below(16)))
		},
	}
	for _, f := range fields {
		for _, next := range chains {
			wantArith(t, f, chain(300, next), indexes)
		}
		wantArith(t, f, chain(300, not), indexes)
		wantArith(t, f, chain(150, func(f api.Formula) api.Formula { return not(or(f, not(input(r.below(16))))) }), indexes)
		wantArith(t, f, full(api.FOr, 500, input16), indexes)
		wantArith(t, f, full(api.FAnd, 333, func(i int) api.Formula { return not(input(i % 16)) }), indexes)
	}
}

// An expression that keeps no limit is not returned, and nothing in its place.
func TestArithErrSize(t *testing.T) {
	failed := 0
	for _, f := range fields {
		for _, g := range []api.Formula{
			chain(1000, func(f api.Formula) api.Formula { return or(f, input(1)) }),
			chain(1000, func(f api.Formula) api.Formula { return xor(input(1), f) }),
			chain(1000, func(f api.Formula) api.Formula { return and(input(1), f) }),
			full(api.FOr, 10000, input16),
			full(api.FXor, 10000, input16),
			full(api.FAnd, 10000, input16),
		} {
			a, e := Arith(f, g)
			if e == api.OK {
				wantArith(t, f, g, []int{0, 1, 2, 3, 1<<16 - 1})
				continue
			}
			wantError(t, a, e, api.ErrSize)
			failed++
		}
	}
	if failed == 0 {
		t.Error("all expressions are small")
	}
}

func TestArithMemory(t *testing.T) {
	for _, f := range []api.Field{two, seven} {
		for _, text := range []string{"xor(and(x0, not(x1)), or(1, not(xor(x1, x2))))", "x3", "0", "not(x0)", "not(or(x1, 1))"} {
			g := parsed(t, text)
			a, e := Arith(f, g)
			want(t, g, e, parsed(t, text))
			apart(t, g, a)
		}
	}
}
