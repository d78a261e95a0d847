package balance_test

import (
	"testing"

	"commodatum/api"
	"commodatum/balance"
	"commodatum/formula"
)

// wantPushed fails unless Push has the same function and the stated form, and is not deeper.
func wantPushed(t *testing.T, f api.Formula) api.Formula {
	t.Helper()
	g, e := balance.Push(f)
	wantSame(t, f, g, e)
	if measured(g).depth > measured(f).depth {
		t.Fatalf("%s is deeper than %s", brief(g), brief(f))
	}
	wrong := func(f api.Formula) bool {
		return f.Kind == api.FXor || f.Kind == api.FNot && f.Kids[0].Kind != api.FVar
	}
	if has(g, wrong) || !isConstant(g) && has(g, isConstant) {
		t.Fatalf("%s: %s", brief(f), brief(g))
	}
	return g
}

// P6.1, P6.2, P6.4: Push has the same function, is not deeper, and has the stated form.
func TestPush(t *testing.T) {
	for _, f := range small() {
		wantPushed(t, f)
	}
	for _, f := range samples(12) {
		wantPushed(t, f)
	}
}

func TestPushText(t *testing.T) {
	for _, c := range [][2]string{
		{"not(and(x0, x1))", "or(not(x0), not(x1))"}, {"not(or(x0, not(x1)))", "and(not(x0), x1)"},
		{"not(not(x3))", "x3"}, {"not(x3)", "not(x3)"}, {"not(and(x0, 0))", "1"}, {"xor(1, or(x0, 0))", "not(x0)"},
		{"0", "0"}, {"1", "1"}, {"not(1)", "0"},
	} {
		g := wantPushed(t, parsed(t, c[0]))
		if s, _ := formula.Text(g); s != c[1] {
			t.Errorf("%s: %s", c[0], s)
		}
	}
}

// P6.2: no ErrSize up to the size 12, whatever the formula contains.
func TestPushOfSizeTwelve(t *testing.T) {
	r := numbers(3)
	negated := func(f api.Formula) api.Formula {
		for range r.below(40) {
			f = not(f)
		}
		return f
	}
	for _, h := range manyHalves {
		for range 10 {
			var build func(size int) api.Formula
			build = func(size int) api.Formula {
				if size == 1 {
					return negated(input(r.below(16)))
				}
				first := h(&r, size)
				f := build(first)
				return negated(xor(f, build(size-first)))
			}
			wantPushed(t, build(12))
		}
	}
	chained := input(0)
	for i := 1; i < 12; i++ {
		chained = xor(input(i), chained)
	}
	wantPushed(t, chained)
	wantPushed(t, not(chained))
}

// P6.2: no ErrSize without FXor for a size of 6000 and a nesting of 400.
func TestPushWithoutXor(t *testing.T) {
	r := numbers(4)
	turns := func(f api.Formula) api.Formula { return not(gate(api.FAnd+r.below(2), f, input(r.below(16)))) }
	for _, f := range []api.Formula{
		full(api.FAnd, 6000, input16),
		not(full(api.FAnd, 6000, input16)),
		not(full(api.FOr, 6000, func(i int) api.Formula { return and(truth(1), input(i%16)) }).Kids[0]),
		chain(200, turns),
		not(chain(200, turns)),
		not(chain(399, func(f api.Formula) api.Formula { return and(f, input(1)) })),
		chain(400, not),
		not(chain(390, func(f api.Formula) api.Formula { return or(full(api.FAnd, 15, input16), f) })),
		chain(400, func(f api.Formula) api.Formula { return or(truth(0), f) }),
	} {
		if m := measured(f); m.size > 6000 || m.nested > 400 {
			t.Fatalf("not such a formula: %v", m)
		}
		wantPushed(t, f)
	}
}

// The limits are kept exactly where negations or exclusive ors make the result larger.
func TestPushErrSize(t *testing.T) {
	wantPushed(t, not(full(api.FAnd, 6667, input16)))
	deep := func(nested int) api.Formula {
		f := xor(input(0), input(1))
		for range nested - 2 {
			f = and(f, input(2))
		}
		return f
	}
	wantPushed(t, deep(998))
	chained := input(0)
	for i := range 600 {
		chained = xor(chained, input16(i))
	}
	for _, f := range []api.Formula{
		not(full(api.FAnd, 6668, input16)), not(full(api.FOr, 10000, input16).Kids[0]).Kids[0],
		deep(999), deep(1000), chained, full(api.FXor, 10000, input16), full(api.FXor, 256, input16),
	} {
		g, e := balance.Push(f)
		if e == api.OK {
			wantPushed(t, f)
			continue
		}
		wantError(t, g, e, api.ErrSize)
	}
	g, e := balance.Push(not(full(api.FAnd, 6668, input16)))
	wantError(t, g, e, api.ErrSize)
	g, e = balance.Push(full(api.FXor, 10000, input16))
	wantError(t, g, e, api.ErrSize)
	// Constants vanish before anything is counted.
	wantPushed(t, and(truth(0), full(api.FXor, 9999, input16)))
}
