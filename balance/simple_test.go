package balance_test

import (
	"math"
	"testing"

	"commodatum/api"
	"commodatum/balance"
	"commodatum/formula"
)

// small are all formulas of up to five nodes with two inputs.
func small() []api.Formula { return smallFormulas(5, input(0), input(1), truth(0), truth(1)) }

// samples are formulas of many shapes with up to six inputs.
func samples(most int) []api.Formula {
	r := numbers(1)
	var list []api.Formula
	for size := 1; size <= most; size++ {
		for _, kinds := range manyKinds {
			for _, h := range manyHalves {
				list = append(list, r.some(size, kinds, h, 6))
			}
		}
	}
	return list
}

// largest are valid formulas at the limits.
func largest() []api.Formula {
	return []api.Formula{
		chain(1000, not),
		chain(999, not),
		chain(1000, func(f api.Formula) api.Formula { return xor(truth(1), f) }),
		chain(1000, func(f api.Formula) api.Formula { return or(f, input(1)) }),
		chain(1000, func(f api.Formula) api.Formula { return xor(input(15), f) }),
		chain(999, func(f api.Formula) api.Formula { return and(not(input(3)), f) }),
		full(api.FAnd, 10000, input16),
		full(api.FOr, 10000, input16),
		full(api.FXor, 10000, input16),
		full(api.FXor, 6667, func(i int) api.Formula { return not(input(i % 16)) }),
		full(api.FXor, 10000, func(i int) api.Formula { return truth(i % 2) }),
	}
}

// wantSmaller fails unless g has at most the size, the depth and the nesting of f.
func wantSmaller(t *testing.T, f, g api.Formula) {
	t.Helper()
	a, b := measured(f), measured(g)
	if b.size > a.size || b.depth > a.depth || b.nested > a.nested {
		t.Fatalf("%s is larger than %s", brief(g), brief(f))
	}
}

// wantSame fails unless g is a valid formula with the values of f that uses no other inputs.
func wantSame(t *testing.T, f, g api.Formula, e api.Errno) {
	t.Helper()
	if e != api.OK || !formula.Valid(g) {
		t.Fatalf("%s: %v: %s", brief(f), e, brief(g))
	}
	if !sameFunction(f, g) || !within(inputsOf(g), inputsOf(f)) {
		t.Fatalf("%s became %s", brief(f), brief(g))
	}
}

func isConstant(f api.Formula) bool { return f.Kind == api.FConst }

func isDoubleNot(f api.Formula) bool { return f.Kind == api.FNot && f.Kids[0].Kind == api.FNot }

// P6.1, P6.2, P6.4: Simple has the same function and the stated form, and is not larger.
func TestSimple(t *testing.T) {
	for _, list := range [][]api.Formula{small(), samples(30), largest()} {
		for _, f := range list {
			g, e := balance.Simple(f)
			wantSame(t, f, g, e)
			wantSmaller(t, f, g)
			if !isConstant(g) && has(g, isConstant) || has(g, isDoubleNot) {
				t.Fatalf("%s: %s", brief(f), brief(g))
			}
		}
	}
}

func TestSimpleText(t *testing.T) {
	for _, c := range [][2]string{
		{"or(x0, 1)", "1"}, {"or(1, x0)", "1"}, {"or(x0, 0)", "x0"}, {"or(0, x0)", "x0"},
		{"and(x0, 1)", "x0"}, {"and(1, x0)", "x0"}, {"and(x0, 0)", "0"}, {"and(0, x0)", "0"},
		{"xor(x0, 0)", "x0"}, {"xor(0, x0)", "x0"}, {"xor(x0, 1)", "not(x0)"}, {"xor(1, not(x0))", "x0"},
		{"xor(1, 1)", "0"}, {"xor(0, 1)", "1"}, {"or(0, 0)", "0"}, {"and(1, 1)", "1"}, {"and(1, 0)", "0"},
		{"0", "0"}, {"1", "1"}, {"not(0)", "1"}, {"not(1)", "0"}, {"not(not(1))", "1"}, {"x15", "x15"},
		{"not(not(x1))", "x1"}, {"not(not(not(x1)))", "not(x1)"}, {"not(and(not(x1), 1))", "x1"},
		{"xor(and(x3, not(x2)), or(x1, x0))", "xor(and(x3, not(x2)), or(x1, x0))"},
	} {
		g, e := balance.Simple(parsed(t, c[0]))
		if s, _ := formula.Text(g); e != api.OK || s != c[1] {
			t.Errorf("%s: %s, %v", c[0], s, e)
		}
	}
}

// P6.1, P6.2: Fix has the values where the input has the value, does not read the input, and is not larger.
func TestFix(t *testing.T) {
	for _, list := range [][]api.Formula{small(), samples(20), largest()} {
		for _, f := range list {
			for _, i := range []int{0, 1, 5, 15} {
				wantFixed(t, f, i, false)
				wantFixed(t, f, i, true)
			}
		}
	}
}

func wantFixed(t *testing.T, f api.Formula, i int, value bool) api.Formula {
	t.Helper()
	g, e := balance.Fix(f, i, value)
	if e != api.OK || !formula.Valid(g) {
		t.Fatalf("Fix(%s, %d): %v", brief(f), i, e)
	}
	wantSmaller(t, f, g)
	known := inputsOf(f)
	delete(known, i)
	if !within(inputsOf(g), known) {
		t.Fatalf("Fix(%s, %d) reads another input: %s", brief(f), i, brief(g))
	}
	for _, x := range choices() {
		x[i] = 0
		if value {
			x[i] = math.MaxUint64
		}
		if valuesOf(f, x) != valuesOf(g, x) {
			t.Fatalf("Fix(%s, %d, %v): %s", brief(f), i, value, brief(g))
		}
	}
	return g
}

// P6.3: f is "input and the formula fixed at true, or not input and the formula fixed at false".
func TestShannon(t *testing.T) {
	for _, list := range [][]api.Formula{small(), samples(20)} {
		for _, f := range list {
			for i := range 6 {
				one, e := balance.Fix(f, i, true)
				zero, e2 := balance.Fix(f, i, false)
				g := or(and(input(i), one), and(not(input(i)), zero))
				if e != api.OK || e2 != api.OK || !sameFunction(f, g) {
					t.Fatalf("%s at %d: %s", brief(f), i, brief(g))
				}
			}
		}
	}
}

// Fix of all inputs is a constant, with the value of the formula.
func TestFixAll(t *testing.T) {
	for _, f := range samples(12) {
		table, e := formula.Table(f, 6)
		if e != api.OK {
			t.Fatal(e)
		}
		for index, value := range table {
			g := f
			for i := range 6 {
				g = wantFixed(t, g, i, index>>i&1 == 1)
			}
			if v, e := formula.Eval(g, nil); e != api.OK || v != value {
				t.Fatalf("%s at %d: %v", brief(f), index, v)
			}
		}
	}
}

func TestFixErrors(t *testing.T) {
	for _, i := range []int{-1, 16, 17, math.MaxInt, math.MinInt} {
		g, e := balance.Fix(input(0), i, true)
		wantError(t, g, e, api.ErrArg)
		g, e = balance.Fix(input(16), i, true)
		wantError(t, g, e, api.ErrForm)
	}
}

func TestInvalidFormulas(t *testing.T) {
	for _, f := range wrongFormulas() {
		g, e := balance.Push(f)
		wantError(t, g, e, api.ErrForm)
		g, e = balance.Balance(f)
		wantError(t, g, e, api.ErrForm)
		g, e = balance.Simple(f)
		wantError(t, g, e, api.ErrForm)
		g, e = balance.Fix(f, 0, true)
		wantError(t, g, e, api.ErrForm)
	}
}

// The argument is not changed, and the result is new memory in all its parts.
func TestMemory(t *testing.T) {
	calls := []func(f api.Formula) (api.Formula, api.Errno){
		balance.Push, balance.Balance, balance.Simple,
		func(f api.Formula) (api.Formula, api.Errno) { return balance.Fix(f, 1, true) },
	}
	r := numbers(2)
	for range 40 {
		for _, call := range calls {
			f := r.some(1+r.below(11), manyKinds[6], manyHalves[3], 5)
			wantMemory(t, f, call)
		}
		for _, h := range manyHalves {
			wantMemory(t, r.some(60, manyKinds[6], h, 16), balance.Balance)
			wantMemory(t, r.some(400, manyKinds[3], h, 16), balance.Balance)
		}
	}
	for _, call := range calls {
		// Lists of kids that are empty but not nil, and one list that two nodes have.
		leaf := api.Formula{Kind: api.FVar, N: 2, Kids: make([]api.Formula, 0, 4)}
		shared := or(leaf, input(0))
		for _, f := range []api.Formula{leaf, shared, and(shared, shared), xor(shared, not(shared)), not(and(leaf, shared))} {
			wantMemory(t, f, call)
		}
	}
}

func wantMemory(t *testing.T, f api.Formula, call func(f api.Formula) (api.Formula, api.Errno)) {
	t.Helper()
	before, _ := formula.Text(f)
	g, e := call(f)
	if after, _ := formula.Text(f); after != before || e != api.OK {
		t.Errorf("%s became %s, %v", before, after, e)
	}
	apart(t, f, g)
}
