package formula

import (
	"math"
	"slices"
	"testing"

	"commodatum/api"
)

// largest are valid formulas at the limits.
func largest() []api.Formula {
	return []api.Formula{
		chain(1000, not),
		chain(1000, func(f api.Formula) api.Formula { return and(truth(1), f) }),
		chain(1000, func(f api.Formula) api.Formula { return xor(f, input(15)) }),
		not(full(api.FAnd, 10000, input16)),
		full(api.FXor, 10000, func(i int) api.Formula { return input(i % 12) }),
		chain(990, func(f api.Formula) api.Formula { return or(f, not(not(not(not(input(3)))))) }),
	}
}

// P5.1, P5.5: what is valid, and its measures.
func TestMeasures(t *testing.T) {
	list := smallFormulas(4, input(0), input(15), truth(0), truth(1))
	list = append(list, largest()...)
	r := numbers(1)
	for size := 1; size < 60; size++ {
		list = append(list, r.some(size, 16))
	}
	for _, f := range list {
		if !Valid(f) {
			t.Fatalf("not valid: %v", brief(written(f)))
		}
		inputs, size, depth := counted(f)
		wantNumber(t, Inputs(f), inputs)
		wantNumber(t, Size(f), size)
		wantNumber(t, Depth(f), depth)
	}
	empty := api.Formula{Kind: api.FVar, N: 4, Kids: []api.Formula{}}
	if !Valid(empty) || Inputs(empty) != 5 || Depth(not(empty)) != 0 {
		t.Error("an empty list of kids")
	}
}

func TestMeasuresOfExamples(t *testing.T) {
	for _, c := range []struct {
		text                string
		inputs, size, depth int
	}{
		{"or(x0, and(x1, not(x2)))", 3, 3, 2},
		{"0", 0, 1, 0},
		{"not(not(1))", 0, 1, 0},
		{"x7", 8, 1, 0},
		{"xor(x0, x1)", 2, 2, 2},
		{"xor(and(x0, x3), or(xor(0, 1), x1))", 4, 5, 5},
		{"and(xor(1, 0), not(xor(1, 0)))", 0, 4, 3},
		{"or(or(or(x0, x0), x0), x0)", 1, 4, 3},
	} {
		f := parsed(t, c.text)
		wantNumber(t, Inputs(f), c.inputs)
		wantNumber(t, Size(f), c.size)
		wantNumber(t, Depth(f), c.depth)
	}
}

func TestInvalidFormulas(t *testing.T) {
	for i, f := range wrongFormulas() {
		if Valid(f) {
			t.Errorf("formula %d is valid", i)
		}
		wantNumber(t, Inputs(f), -1)
		wantNumber(t, Size(f), -1)
		wantNumber(t, Depth(f), -1)
		value, e := Eval(f, make([]bool, 16))
		wantError(t, value, e, api.ErrForm)
		value, e = Eval(f, nil)
		wantError(t, value, e, api.ErrForm)
		for _, n := range []int{-1, 0, 12, 13} {
			table, e := Table(f, n)
			wantError(t, table, e, api.ErrForm)
		}
		text, e := Text(f)
		wantError(t, text, e, api.ErrForm)
		x, e := Arith(five, f)
		wantError(t, x, e, api.ErrForm)
	}
}

// P5.1: the laws of Boolean algebra.
func TestLaws(t *testing.T) {
	r := numbers(2)
	parts := smallFormulas(2, input(0), input(1), truth(0), truth(1))
	for range 30 {
		parts = append(parts, r.some(1+r.below(12), 5))
	}
	one, zero := truth(1), truth(0)
	for range 3000 {
		a, b, c := parts[r.below(len(parts))], parts[r.below(len(parts))], parts[r.below(len(parts))]
		for i, pair := range [][2]api.Formula{
			{not(and(a, b)), or(not(a), not(b))},
			{not(or(a, b)), and(not(a), not(b))},
			{not(not(a)), a},
			{and(a, b), and(b, a)},
			{or(a, b), or(b, a)},
			{xor(a, b), xor(b, a)},
			{and(a, and(b, c)), and(and(a, b), c)},
			{or(a, or(b, c)), or(or(a, b), c)},
			{xor(a, xor(b, c)), xor(xor(a, b), c)},
			{and(a, or(b, c)), or(and(a, b), and(a, c))},
			{or(a, and(b, c)), and(or(a, b), or(a, c))},
			{and(a, xor(b, c)), xor(and(a, b), and(a, c))},
			{and(a, or(a, b)), a},
			{or(a, and(a, b)), a},
			{and(a, a), a}, {or(a, a), a}, {xor(a, a), zero},
			{and(a, one), a}, {or(a, zero), a}, {xor(a, zero), a},
			{and(a, zero), zero}, {or(a, one), one}, {xor(a, one), not(a)},
			{and(a, not(a)), zero}, {or(a, not(a)), one},
			{xor(a, b), or(and(a, not(b)), and(not(a), b))},
			{not(one), zero}, {not(zero), one},
		} {
			wantEqual(t, i, pair[0], pair[1])
		}
	}
}

func wantEqual(t *testing.T, law int, f, g api.Formula) {
	t.Helper()
	one, e := Table(f, 5)
	other, e2 := Table(g, 5)
	if e != api.OK || e2 != api.OK || !slices.Equal(one, other) {
		t.Fatalf("law %d: %s and %s", law, written(f), written(g))
	}
}

// P5.1: the connectives have the values of their tables.
func TestConnectives(t *testing.T) {
	for _, c := range []struct {
		text  string
		table []bool
	}{
		{"x0", []bool{false, true, false, true}},
		{"x1", []bool{false, false, true, true}},
		{"0", []bool{false, false, false, false}},
		{"1", []bool{true, true, true, true}},
		{"not(x1)", []bool{true, true, false, false}},
		{"and(x0, x1)", []bool{false, false, false, true}},
		{"or(x0, x1)", []bool{false, true, true, true}},
		{"xor(x0, x1)", []bool{false, true, true, false}},
		{"and(not(x0), x1)", []bool{false, false, true, false}},
	} {
		table, e := Table(parsed(t, c.text), 2)
		want(t, table, e, c.table)
	}
}

func wantTable(t *testing.T, f api.Formula, n int) {
	t.Helper()
	table, e := Table(f, n)
	if e != api.OK || len(table) != 1<<n {
		t.Fatalf("%s, %d inputs: %d values, %v", brief(written(f)), n, len(table), e)
	}
	for i, got := range table {
		if got != valueOf(f, i) {
			t.Fatalf("%s: Table at %d", brief(written(f)), i)
		}
		value, e := Eval(f, bitsOf(i, n))
		if e != api.OK || value != got {
			t.Fatalf("%s: Eval at %d: %v, %v", brief(written(f)), i, value, e)
		}
	}
}

func bitsOf(index, n int) []bool {
	x := make([]bool, n)
	for i := range x {
		x[i] = index>>i&1 == 1
	}
	return x
}

// P5.5: Table has the value of Eval at every index.
func TestTable(t *testing.T) {
	for _, f := range smallFormulas(4, input(0), input(1), input(2), truth(0), truth(1)) {
		for n := counting(f); n <= 4; n++ {
			wantTable(t, f, n)
		}
	}
	r := numbers(3)
	for n := range api.MaxTable + 1 {
		for range 6 {
			f := r.some(1+r.below(40), n)
			wantTable(t, f, n)
			for more := n + 1; more <= min(n+2, api.MaxTable); more++ {
				wantTable(t, f, more)
			}
		}
	}
	for v := range api.MaxTable {
		wantTable(t, input(v), api.MaxTable)
	}
}

func counting(f api.Formula) int {
	inputs, _, _ := counted(f)
	return inputs
}

func TestTableErrors(t *testing.T) {
	for _, c := range []struct {
		f api.Formula
		n int
	}{
		{truth(0), -1}, {truth(0), 13}, {truth(0), math.MaxInt}, {truth(1), math.MinInt}, {truth(1), 64},
		{input(0), 0}, {input(3), 3}, {input(11), 11}, {input(11), 13}, {input(12), 12}, {input(12), 13}, {input(15), 16},
		{and(input(0), not(input(7))), 7},
	} {
		table, e := Table(c.f, c.n)
		wantError(t, table, e, api.ErrArg)
	}
}

func TestEvalErrors(t *testing.T) {
	for _, c := range []struct {
		f      api.Formula
		length int
	}{{input(0), 0}, {input(15), 15}, {or(input(3), truth(1)), 3}} {
		value, e := Eval(c.f, slices.Repeat([]bool{true}, c.length))
		wantError(t, value, e, api.ErrArg)
	}
	for _, x := range [][]bool{nil, {}, make([]bool, 100)} {
		value, e := Eval(truth(1), x)
		want(t, value, e, true)
	}
	value, e := Eval(input(2), []bool{false, false, true, false, false})
	want(t, value, e, true)
	value, e = Eval(input(15), append(make([]bool, 15), true, false))
	want(t, value, e, true)
}

func TestLargestFormulas(t *testing.T) {
	for _, f := range largest() {
		for _, x := range []int{0, 1, 1 << 15, 1<<16 - 1} {
			value, e := Eval(f, bitsOf(x, 16))
			want(t, value, e, valueOf(f, x))
		}
		if n := counting(f); n <= api.MaxTable {
			table, e := Table(f, 12)
			if e != api.OK || len(table) != 4096 {
				t.Fatal(len(table), e)
			}
			for _, i := range []int{0, 1, 2, 1001, 4095} {
				want(t, table[i], e, valueOf(f, i))
			}
		}
	}
}

// Arguments are neither changed nor retained.
func TestFormulaMemory(t *testing.T) {
	const text = "xor(and(x0, not(x1)), or(1, x2))"
	f := parsed(t, text)
	x := []bool{true, false, true}
	Eval(f, x)
	Text(f)
	table, e := Table(f, 3)
	want(t, f, e, parsed(t, text))
	want(t, x, e, []bool{true, false, true})
	before := slices.Clone(table)
	Table(not(f), 3)
	want(t, table, e, before)
}
