package balance_test

import (
	"math"
	"reflect"
	"testing"

	"commodatum/api"
	"commodatum/balance"
	"commodatum/formula"
)

// wantBalanced fails unless Balance has the same function and the depth for the size.
func wantBalanced(t *testing.T, f api.Formula) api.Formula {
	t.Helper()
	g, e := balance.Balance(f)
	wantSame(t, f, g, e)
	size := measured(f).size
	if d := measured(g).depth; d > allowed(size) {
		t.Fatalf("%s, size %d: depth %d: %s", brief(f), size, d, brief(g))
	}
	return g
}

// P6.1, P6.2: Balance has the same function and the depth, and no ErrSize up to the size 60.
func TestBalance(t *testing.T) {
	for _, f := range small() {
		wantBalanced(t, f)
	}
	for _, f := range samples(60) {
		wantBalanced(t, f)
	}
}

// P6.2: the chains are the deepest formulas of a size.
func TestBalanceOfChains(t *testing.T) {
	r := numbers(5)
	for size := 1; size <= 60; size++ {
		for _, kinds := range manyKinds {
			for _, h := range manyHalves[:3] {
				for _, inputs := range []int{6, 16} {
					wantBalanced(t, r.plain(size, kinds, h, inputs))
				}
			}
		}
	}
	f := parsed(t, "x15")
	for i := 14; i >= 0; i-- {
		f = and(input(i), f)
	}
	wantBalanced(t, f)
}

// The kinds of a chain and the places of its negations in every order.
func TestBalanceOfAllChains(t *testing.T) {
	t.Parallel()
	const size = 33
	for pattern := range 6 * 6 * 6 * 6 {
		f, code := input(0), pattern
		for i := 1; i < size; i++ {
			digit := code % 6
			code = code/6 + digit*216
			f = gate(api.FAnd+digit%3, f, input(i%6))
			if digit >= 3 {
				f = not(f)
			}
		}
		wantBalanced(t, f)
	}
}

// tower returns a formula of the size 2^k: around an exclusive or, of such a formula of half the size and an input, there are sides of the kinds, in turn.
func tower(k, sides int, kinds []int) api.Formula {
	if k == 0 {
		return input(0)
	}
	f := xor(tower(k-1, sides, kinds), input(k))
	left := 1<<(k-1) - 1
	for i := 0; left > 0; i++ {
		size := max(1, left/max(1, sides-i))
		f = gate(kinds[i%len(kinds)], full(api.FAnd, size, func(j int) api.Formula { return input((i + j) % 16) }), f)
		left -= size
	}
	return f
}

// P6.2: in a tower each half of the size can cost the whole of the depth that is allowed for it.
func TestBalanceOfTowers(t *testing.T) {
	for k := range 13 {
		for sides := 2; sides < 70; sides += 1 + sides/3 {
			for _, kinds := range [][]int{{api.FAnd, api.FXor}, {api.FXor, api.FOr}, {api.FAnd, api.FOr, api.FXor}} {
				f := tower(k, sides, kinds)
				g, e := balance.Balance(f)
				if e == api.OK || k < 7 {
					wantBalanced(t, f)
					continue
				}
				wantError(t, g, e, api.ErrSize)
			}
		}
	}
}

// Larger formulas are balanced, or the result is too large.
func TestBalanceOfLargerFormulas(t *testing.T) {
	t.Parallel()
	r := numbers(6)
	for _, size := range []int{61, 64, 65, 128, 129, 200, 256, 257, 500, 512, 513, 900, 1500, 3000, 6000} {
		for _, kinds := range manyKinds {
			for _, h := range manyHalves {
				f := r.some(size, kinds, h, 16)
				if measured(f).nested > 1000 {
					continue
				}
				g, e := balance.Balance(f)
				if e == api.OK || size <= 200 {
					wantBalanced(t, f)
					continue
				}
				wantError(t, g, e, api.ErrSize)
			}
		}
	}
}

// A long chain with thick sides is not balanced within the limits: whatever is not returned at half its size is there several times.
func TestBalanceErrSize(t *testing.T) {
	for _, kinds := range [][]int{{api.FAnd, api.FOr}, {api.FAnd, api.FXor}, {api.FOr, api.FXor}, {api.FXor, api.FAnd, api.FOr}} {
		f := input(0)
		for i := range 990 {
			f = gate(kinds[i%len(kinds)], full(kinds[(i+1)%len(kinds)], 9, func(k int) api.Formula { return input((i + k) % 16) }), f)
		}
		g, e := balance.Balance(f)
		if e == api.OK {
			wantBalanced(t, f)
			continue
		}
		wantError(t, g, e, api.ErrSize)
	}
}

// Formulas at the limits are flat already, or chains of one kind, which need no more nodes than they have.
func TestBalanceAtLimits(t *testing.T) {
	for _, f := range largest() {
		wantBalanced(t, f)
	}
	for _, kind := range []int{api.FAnd, api.FOr, api.FXor} {
		f := chain(1000, func(f api.Formula) api.Formula { return gate(kind, input(1), f) })
		if n := measured(wantBalanced(t, f)).size; n > 1000 {
			t.Errorf("kind %d: size %d", kind, n)
		}
	}
}

// The bound holds for the size of the argument, constants included.
func TestBalanceOfConstants(t *testing.T) {
	for _, s := range []string{"0", "1", "not(0)", "and(x0, 0)", "xor(1, x3)", "or(and(x1, 1), not(1))"} {
		wantBalanced(t, parsed(t, s))
	}
	wantBalanced(t, chain(50, func(f api.Formula) api.Formula { return xor(truth(1), xor(f, truth(0))) }))
}

var fields = []api.Field{{P: 2, M: 1}, {P: 3, M: 1}, {P: 2, M: 2}, {P: 7, M: 1}, {P: 3, M: 1}, {P: 65521, M: 1}, {P: 2, M: 16}}

// wantBalancedExpr fails unless BalanceExpr has the same values at some points, no other inputs, and the depth for the size.
func wantBalancedExpr(t *testing.T, f api.Field, x api.Expr) api.Expr {
	t.Helper()
	y, e := balance.BalanceExpr(f, x)
	if e != api.OK || !formula.ValidExpr(f, y) {
		t.Fatalf("%v: %s: %v", f, brief(x), e)
	}
	size := measuredExpr(x).size
	if d := measuredExpr(y).depth; d > allowed(size) {
		t.Fatalf("%v: %s, size %d: depth %d", f, brief(x), size, d)
	}
	if !within(inputsOfExpr(y), inputsOfExpr(x)) {
		t.Fatalf("%v: %s: %s", f, brief(x), brief(y))
	}
	order := 1
	for range f.M {
		order *= f.P
	}
	r := numbers(7)
	for range 8 {
		point := make([]int, 16)
		for i := range point {
			point[i] = r.below(order)
		}
		if valueOfExpr(f, x, point) != valueOfExpr(f, y, point) {
			t.Fatalf("%v: %s became %s", f, brief(x), brief(y))
		}
	}
	return y
}

// wantSamePoly fails unless the polynomials in n variables are the same.
func wantSamePoly(t *testing.T, f api.Field, x, y api.Expr, n int) {
	t.Helper()
	p, e := formula.PolyOf(f, x, n)
	q, e2 := formula.PolyOf(f, y, n)
	if e != api.OK || e2 != api.OK || len(p) != len(q) || len(p) > 0 && !reflect.DeepEqual(p, q) {
		t.Fatalf("%v: %s: %v, %v", f, brief(x), e, e2)
	}
}

// P6.1, P6.2: BalanceExpr has the same polynomial and the depth.
func TestBalanceExpr(t *testing.T) {
	for _, f := range fields {
		for _, x := range smallExprs(3, place(0), place(1), number(0), number(1), number(f.P-1)) {
			wantSamePoly(t, f, x, wantBalancedExpr(t, f, x), 2)
		}
	}
}

// P6.1, P6.2: and no ErrSize up to the size 60.
func TestBalanceExprOfSizeSixty(t *testing.T) {
	t.Parallel()
	r := numbers(8)
	for _, f := range fields {
		for size := 1; size <= 60; size++ {
			for _, h := range manyHalves {
				wantBalancedExpr(t, f, r.someExpr(f, size, h, 16, 10))
				wantBalancedExpr(t, f, r.someExpr(f, size, h, 3, 3))
			}
		}
	}
}

// P6.1: the polynomial is the same, not only its values.
func TestBalanceExprPolynomial(t *testing.T) {
	t.Parallel()
	r := numbers(9)
	for _, f := range []api.Field{{P: 2, M: 1}, {P: 3, M: 1}, {P: 2, M: 3}} {
		for size := 10; size <= 45; size += 5 {
			for _, h := range manyHalves[:5] {
				x := r.someExpr(f, size, h, 2, 10)
				wantSamePoly(t, f, x, wantBalancedExpr(t, f, x), 2)
			}
		}
	}
}

// The kinds of a chain in every order.
func TestBalanceExprOfAllChains(t *testing.T) {
	t.Parallel()
	f := api.Field{P: 65521, M: 1}
	for pattern := range 1 << 8 {
		x, code := place(0), pattern
		for i := 1; i < 60; i++ {
			x = api.Expr{Kind: api.EAdd + code&1, Kids: []api.Expr{x, place(i % 16)}}
			code = code>>1 | code&1<<7
		}
		wantBalancedExpr(t, f, x)
	}
}

func TestBalanceExprOfLargerExpressions(t *testing.T) {
	t.Parallel()
	f := api.Field{P: 65521, M: 1}
	r := numbers(10)
	for _, size := range []int{61, 64, 65, 128, 129, 256, 500, 900, 1500, 3000, 6000} {
		for _, h := range manyHalves {
			x := r.someExpr(f, size, h, 16, 20)
			if measuredExpr(x).nested > 1000 {
				continue
			}
			y, e := balance.BalanceExpr(f, x)
			if e == api.OK || size <= 256 {
				wantBalancedExpr(t, f, x)
				continue
			}
			wantError(t, y, e, api.ErrSize)
		}
	}
	long := fullExpr(api.EMul, 9, place16)
	for i := range 900 {
		long = api.Expr{Kind: api.EAdd + i%2, Kids: []api.Expr{fullExpr(api.EMul-i%2, 9, place16), long}}
	}
	if y, e := balance.BalanceExpr(f, long); e == api.OK {
		wantBalancedExpr(t, f, long)
	} else {
		wantError(t, y, e, api.ErrSize)
	}
	for _, kind := range []int{api.EAdd, api.EMul} {
		wantBalancedExpr(t, f, fullExpr(kind, 10000, place16))
	}
}

func TestInvalidExpressions(t *testing.T) {
	for _, f := range fields {
		for _, x := range wrongExprs(f) {
			y, e := balance.BalanceExpr(f, x)
			wantError(t, y, e, api.ErrForm)
		}
	}
	for _, f := range []api.Field{{}, {P: 4, M: 1}, {P: 3, M: 2}, {P: 2, M: 17}, {P: 2, M: -1}, {P: math.MaxInt, M: 1}, {P: math.MinInt, M: math.MinInt}} {
		for _, x := range []api.Expr{place(0), number(0), add(place(0), number(1)), {Kind: -1}} {
			y, e := balance.BalanceExpr(f, x)
			wantError(t, y, e, api.ErrForm)
		}
	}
	// The constant 3 is in one of two fields.
	x := parsedExpr(t, api.Field{P: 5, M: 1}, "add(3, mul(x0, 1))")
	y, e := balance.BalanceExpr(api.Field{P: 3, M: 1}, x)
	wantError(t, y, e, api.ErrForm)
	wantBalancedExpr(t, api.Field{P: 2, M: 2}, x)
}

func TestMemoryOfExpressions(t *testing.T) {
	f := api.Field{P: 7, M: 1}
	r := numbers(11)
	leaf := api.Expr{Kind: api.EVar, N: 2, Kids: make([]api.Expr, 0, 4)}
	shared := add(leaf, number(3))
	list := []api.Expr{leaf, shared, mul(shared, shared), add(mul(shared, leaf), shared)}
	for _, h := range manyHalves {
		list = append(list, r.someExpr(f, 60, h, 16, 5), r.someExpr(f, 250, h, 16, 5))
	}
	for _, x := range list {
		before, _ := formula.TextExpr(f, x)
		y, e := balance.BalanceExpr(f, x)
		if after, _ := formula.TextExpr(f, x); after != before || e != api.OK {
			t.Errorf("%s became %s, %v", before, after, e)
		}
		apart(t, x, y)
	}
}
