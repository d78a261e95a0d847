package circuit_test

import (
	"math"
	"testing"

	"commodatum/api"
	"commodatum/circuit"
	"commodatum/formula"
)

// largest are valid formulas at the limits.
func largest() []api.Formula {
	deep := api.Formula{Kind: api.FConst, N: 1}
	for range 999 {
		deep = api.Formula{Kind: api.FNot, Kids: []api.Formula{deep}}
	}
	return []api.Formula{
		deep, nested(api.FAnd, 1000), nested(api.FXor, 1000), full(api.FOr, 10000, 0), full(api.FXor, 10000, 5),
		{Kind: api.FNot, Kids: []api.Formula{full(api.FAnd, 10000, 0)}},
		numbersFormula(3000, 16), numbersFormula(6000, 2),
	}
}

func numbersFormula(size, inputs int) api.Formula {
	r := numbers(size)
	return r.someFormula(size, inputs)
}

// wantFrom fails unless From has the value, and at most the depth and the nodes of f, and Formula leads back.
func wantFrom(t *testing.T, f api.Formula, inputs int) {
	t.Helper()
	c, e := circuit.From(f, inputs)
	wantCircuit(t, c, e, inputs)
	if len(c.Gates) > nodesOf(f) || depthOf(c) > depthOfFormula(f) {
		t.Fatalf("%s: %d gates, depth %d", brief(f), len(c.Gates), depthOf(c))
	}
	wantSame(t, c, f)
	g := wantFormula(t, c)
	if depthOfFormula(g) > depthOfFormula(f) {
		t.Fatalf("%s: depth %d", brief(f), depthOfFormula(g))
	}
}

// wantSame fails unless c and f have the same values wherever it looks: at all choices if there are at most six inputs.
func wantSame(t *testing.T, c api.Circuit, f api.Formula) {
	t.Helper()
	for _, x := range choices() {
		if valuesOf(c, x) != valuesOfFormula(f, x) {
			t.Fatalf("%s and %s", brief(c), brief(f))
		}
	}
}

// wantFormula fails unless Formula has the value of c, at most its depth, and only its inputs.
func wantFormula(t *testing.T, c api.Circuit) api.Formula {
	t.Helper()
	f, e := circuit.Formula(c)
	if e != api.OK || !formula.Valid(f) || depthOfFormula(f) > depthOf(c) || formula.Inputs(f) > c.Inputs {
		t.Fatalf("%s: %s, %v", brief(c), brief(f), e)
	}
	wantSame(t, c, f)
	return f
}

// P7.1: From and Formula have the same value.
func TestFrom(t *testing.T) {
	for _, f := range smallFormulas(5) {
		wantFrom(t, f, 2)
	}
	r := numbers(11)
	for size := 1; size < 80; size++ {
		for inputs := range api.MaxInputs + 1 {
			wantFrom(t, r.someFormula(size, inputs), inputs)
		}
	}
	for _, f := range largest() {
		wantFrom(t, f, 16)
	}
}

// Equal subformulas have one gate.
func TestFromShares(t *testing.T) {
	for text, gates := range map[string]int{
		"x2":               1,
		"and(x0, not(x0))": 3,
		"and(x0, x0)":      2,
		"xor(and(x0, x1), or(not(x0), and(x0, x1)))":              6,
		"or(and(x0, or(x1, 1)), not(and(x0, or(x1, 1))))":         7,
		"xor(xor(and(1, x1), and(1, x1)), and(and(1, x1), 0))":    7,
		"or(and(x0, x1), or(or(x0, x1), xor(xor(x0, x1), x0)))":   8,
		"and(not(not(not(x0))), or(not(not(x0)), not(x0)))":       6,
		"or(xor(x0, x1), or(xor(x0, x2), or(xor(0, x1), x15)))":   11,
		"and(and(not(x3), not(x4)), or(not(x3), not(not(x4))))":   8,
		"and(and(and(x1, x1), and(x1, x1)), and(and(x1, x1), 0))": 6,
	} {
		c, e := circuit.From(parsed(t, text), 16)
		if e != api.OK || len(c.Gates) != gates {
			t.Errorf("%s: %d gates, %v", text, len(c.Gates), e)
		}
	}
}

func TestFromErrors(t *testing.T) {
	for _, f := range wrongFormulas() {
		for _, inputs := range []int{-1, 0, 1, 16, 17} {
			c, e := circuit.From(f, inputs)
			wantError(t, c, e, api.ErrForm)
		}
	}
	for _, a := range []struct {
		text   string
		inputs int
	}{
		{"0", -1}, {"0", 17}, {"1", math.MaxInt}, {"1", math.MinInt}, {"x0", 0}, {"x0", -1}, {"x15", 15}, {"x15", 17}, {"x0", 17},
		{"and(x7, not(x3))", 7}, {"or(0, x2)", 2},
	} {
		c, e := circuit.From(parsed(t, a.text), a.inputs)
		wantError(t, c, e, api.ErrArg)
	}
	for _, a := range []struct {
		text   string
		inputs int
	}{{"0", 0}, {"0", 16}, {"x0", 1}, {"x0", 16}, {"x15", 16}, {"and(x7, not(x3))", 8}} {
		wantFrom(t, parsed(t, a.text), a.inputs)
	}
}

// unfoldedNodes counts the nodes of the formula with a formula in place of each kid, as far as 20001, and how deep they are nested.
func unfoldedNodes(c api.Circuit) (nodes, nested int) {
	counts, depths := make([]int, len(c.Gates)), make([]int, len(c.Gates))
	for i, g := range c.Gates {
		counts[i] = 1
		for _, kid := range g.Kids {
			counts[i] = min(counts[i]+counts[kid], 20001)
			depths[i] = max(depths[i], depths[kid])
		}
		depths[i]++
	}
	return counts[len(counts)-1], depths[len(depths)-1]
}

// deep returns a circuit each gate of which has the one before as a kid; another kid is at most reach gates before it.
func (r *numbers) deep(gates, reach int) api.Circuit {
	return chain(gates, func(before int) api.Gate {
		kind := api.FNot + r.below(4)
		if kind == api.FNot {
			return gate(kind, before)
		}
		return gate(kind, before-r.below(min(before+1, reach)), before)
	})
}

// P7.1: Formula has the value, and no ErrSize if the depth is at most 8 or the formula by replacing is valid.
func TestFormula(t *testing.T) {
	smallCircuits(2, 3, func(c api.Circuit) { wantFormula(t, c) })
	r := numbers(12)
	flat, short, failed := 0, 0, 0
	for i := range 3000 {
		c := r.some(r.below(17), 1+r.below(60), 1+r.below(12))
		if i%2 == 0 {
			c = r.deep(1+r.below(40), 1+r.below(20))
		}
		nodes, nested := unfoldedNodes(c)
		switch {
		case depthOf(c) <= 8:
			flat++
			wantFormula(t, c)
		case nodes <= 20000 && nested <= 1000:
			short++
			wantFormula(t, c)
		default:
			f, e := circuit.Formula(c)
			if e == api.OK {
				wantFormula(t, c)
				continue
			}
			wantError(t, f, e, api.ErrSize)
			failed++
		}
	}
	if flat < 100 || short < 100 || failed < 100 {
		t.Error(flat, short, failed)
	}
}

// negated returns c with between the gates as many negations, before each kid, as the function says.
func negated(c api.Circuit, count func() int) api.Circuit {
	result := api.Circuit{Inputs: c.Inputs}
	places := make([]int, len(c.Gates))
	put := func(g api.Gate) int {
		result.Gates = append(result.Gates, g)
		return len(result.Gates) - 1
	}
	for i, g := range c.Gates {
		var kids []int
		for _, kid := range g.Kids {
			kids = append(kids, places[kid])
		}
		places[i] = put(api.Gate{Kind: g.Kind, N: g.N, Kids: kids})
		for range count() {
			places[i] = put(gate(api.FNot, places[i]))
		}
	}
	return result
}

// P7.1: a depth of at most 8 is never too large, however many negations there are.
func TestFormulaOfDepthEight(t *testing.T) {
	for gates := 1; gates <= 5; gates++ {
		wantFormula(t, doublings(api.FXor, gates))
		wantFormula(t, negated(doublings(api.FXor, gates), func() int { return 1001 }))
	}
	for gates := 1; gates <= 9; gates++ {
		wantFormula(t, doublings(api.FAnd, gates))
		for count := 1995; count < 2005; count++ {
			wantFormula(t, negated(doublings(api.FOr, gates), func() int { return count }))
		}
	}
	for _, gates := range []int{1000, 1001, 1002, 1003, 19999, 20000} {
		wantFormula(t, negations(gates))
	}
	r := numbers(13)
	tried := 0
	for range 2000 {
		c := negated(r.some(6, 12, 4), func() int { return []int{0, 1, 2, 3, r.below(1500)}[r.below(5)] })
		if depthOf(c) <= 8 && len(c.Gates) <= api.MaxNodes {
			tried++
			wantFormula(t, c)
		}
	}
	if tried < 300 {
		t.Error(tried)
	}
}

// P7.1: what is valid by replacing is no ErrSize, and a formula beyond a limit is.
func TestFormulaAtTheLimits(t *testing.T) {
	stairs := func(nested int) api.Circuit {
		return chain(nested, func(before int) api.Gate { return gate(api.FAnd, before, 0) })
	}
	wantFormula(t, stairs(1000))
	// A tree of 2^14 - 1 nodes twelve times doubled, and rests of it, up to the given number of nodes.
	sized := func(nodes int) api.Circuit {
		c := doublings(api.FXor, 14)
		count := 1<<14 - 1
		for place := 12; place >= 0; place-- {
			if more := 1 << (place + 1); count+more <= nodes {
				c.Gates = append(c.Gates, gate(api.FOr, len(c.Gates)-1, place))
				count += more
			}
		}
		if count < nodes {
			c.Gates = append(c.Gates, gate(api.FNot, len(c.Gates)-1))
			count++
		}
		if got, _ := unfoldedNodes(c); got != nodes || count != nodes {
			t.Fatal(got, count, nodes)
		}
		return c
	}
	wantFormula(t, sized(19999))
	wantFormula(t, sized(20000))
	for _, c := range []api.Circuit{stairs(1001), stairs(20000), sized(20001), doublings(api.FXor, 15), doublings(api.FAnd, 63), doublings(api.FOr, 64), doublings(api.FXor, 65), doublings(api.FXor, 101), doublings(api.FAnd, 20000)} {
		f, e := circuit.Formula(c)
		wantError(t, f, e, api.ErrSize)
	}
}
