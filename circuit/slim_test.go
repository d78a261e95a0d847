package circuit_test

import (
	"slices"
	"testing"

	"commodatum/api"
	"commodatum/circuit"
)

// wantSlim fails unless Slim has the properties that the chapter states.
func wantSlim(t *testing.T, c api.Circuit) api.Circuit {
	t.Helper()
	s, e := circuit.Slim(c)
	wantCircuit(t, s, e, c.Inputs)
	if len(s.Gates) > len(c.Gates) || depthOf(s) > depthOf(c) {
		t.Fatalf("%s: %d gates, depth %d", brief(c), len(s.Gates), depthOf(s))
	}
	for _, x := range choices() {
		if valuesOf(c, x) != valuesOf(s, x) {
			t.Fatalf("%s became %s", brief(c), brief(s))
		}
	}
	kids := isKid(s)
	if last := len(kids) - 1; slices.Contains(kids[:last], false) {
		t.Fatalf("not a kid: %v of %s", kids, brief(s))
	}
	wantDifferent(t, s)
	return s
}

// wantDifferent fails if two gates are equal.
func wantDifferent(t *testing.T, c api.Circuit) {
	t.Helper()
	type shape struct{ kind, n, first, second int }
	seen := map[shape]bool{}
	for _, g := range c.Gates {
		kids := append(slices.Clone(g.Kids), -1, -1)
		s := shape{g.Kind, g.N, kids[0], kids[1]}
		if seen[s] {
			t.Fatalf("equal gates: %v in %s", g, brief(c))
		}
		seen[s] = true
	}
}

// P7.2: Slim has the stated properties.
func TestSlim(t *testing.T) {
	smallCircuits(1, 4, func(c api.Circuit) { wantSlim(t, c) })
	smallCircuits(2, 3, func(c api.Circuit) { wantSlim(t, c) })
	for _, c := range samples() {
		s := wantSlim(t, c)
		again, e := circuit.Slim(s)
		if e != api.OK || len(again.Gates) != len(s.Gates) {
			t.Fatalf("%s became %s", brief(s), brief(again))
		}
	}
	r := numbers(21)
	for range 2000 {
		wantSlim(t, r.some(1+r.below(3), 1+r.below(40), 1+r.below(40)))
	}
}

// P7.2: gates vanish that are equal, also with their kids exchanged, become equal by that, or are not needed.
func TestSlimGates(t *testing.T) {
	for i, c := range []struct {
		c     api.Circuit
		gates int
	}{
		{circuitOf(2, read(0), read(0), read(1), gate(api.FAnd, 0, 2), gate(api.FAnd, 1, 2), truth(0), gate(api.FOr, 3, 4)), 4},
		{circuitOf(1, read(0), gate(api.FNot, 0), truth(0), gate(api.FOr, 1, 2), gate(api.FNot, 0)), 2},
		{circuitOf(1, read(0), gate(api.FNot, 0), gate(api.FNot, 1), read(0)), 1},
		{circuitOf(2, read(0), truth(0), truth(1), read(1)), 1},
		{circuitOf(2, read(0), truth(0), truth(1), truth(0), gate(api.FXor, 1, 3), gate(api.FXor, 3, 1), gate(api.FXor, 4, 5)), 3},
		{circuitOf(2, read(0), read(1), gate(api.FAnd, 0, 1), gate(api.FOr, 0, 1), gate(api.FXor, 0, 1), gate(api.FAnd, 2, 3), gate(api.FAnd, 4, 5)), 7},
		{circuitOf(2, read(0), read(1), gate(api.FAnd, 0, 1), gate(api.FAnd, 1, 0), gate(api.FOr, 2, 3)), 4},
		{negations(20000), 20000},
		{doublings(api.FAnd, 20000), 20000},
	} {
		s := wantSlim(t, c.c)
		if len(s.Gates) != c.gates {
			t.Errorf("%d: %s became %s", i, brief(c.c), brief(s))
		}
	}
	many := circuitOf(3)
	for i := range 10000 {
		many.Gates = append(many.Gates, read(i%3), truth(i%2))
	}
	many.Gates[19999] = gate(api.FOr, 19998, 17)
	if s := wantSlim(t, many); len(s.Gates) != 3 {
		t.Error(brief(s))
	}
}
