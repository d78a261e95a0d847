package circuit_test

import (
	"math"
	"slices"
	"testing"

	"commodatum/api"
	"commodatum/circuit"
)

// samples are circuits of many shapes with up to 16 inputs: some are narrow, and some have gates that are equal or not needed.
func samples() []api.Circuit {
	r := numbers(1)
	list := []api.Circuit{negations(20000), doublings(api.FXor, 20000), doublings(api.FAnd, 20000), doublings(api.FOr, 1000)}
	for gates := 1; gates < 50; gates++ {
		for inputs := 0; inputs <= api.MaxInputs; inputs += 1 + inputs/3 {
			for _, reach := range []int{2, 5, 100} {
				list = append(list, r.some(inputs, gates, reach))
			}
		}
	}
	return append(list, r.some(16, 2000, 2000), r.some(16, 20000, 40), r.some(3, 20000, 20000), r.some(0, 20000, 3))
}

func TestValid(t *testing.T) {
	for _, c := range samples() {
		if !circuit.Valid(c) {
			t.Fatalf("not valid: %s", brief(c))
		}
	}
	for _, c := range []api.Circuit{
		circuitOf(0, truth(0)), circuitOf(16, truth(1)), circuitOf(16, read(15)), circuitOf(1, read(0), truth(0)),
		circuitOf(1, api.Gate{Kind: api.FVar, Kids: []int{}}, gate(api.FAnd, 0, 0), gate(api.FOr, 1, 0), gate(api.FXor, 0, 2), gate(api.FNot, 1)),
	} {
		if !circuit.Valid(c) {
			t.Errorf("not valid: %s", brief(c))
		}
	}
}

// R2, R3: no function takes a circuit that is not valid, whatever the other arguments are.
func TestInvalid(t *testing.T) {
	good := circuitOf(2, read(0))
	for _, c := range wrongCircuits() {
		if circuit.Valid(c) {
			t.Errorf("valid: %s", brief(c))
		}
		if d := circuit.Depth(c); d != -1 {
			t.Errorf("%s: depth %d", brief(c), d)
		}
		for _, n := range []int{0, 1, 2, 3, 16} {
			value, e := circuit.Eval(c, make([]bool, n))
			wantError(t, value, e, api.ErrForm)
		}
		table, e := circuit.Table(c)
		wantError(t, table, e, api.ErrForm)
		f, e := circuit.Formula(c)
		wantError(t, f, e, api.ErrForm)
		s, e := circuit.Slim(c)
		wantError(t, s, e, api.ErrForm)
		for _, kind := range []int{api.FAnd, api.FNot, -1} {
			b, e := circuit.Both(kind, c, good)
			wantError(t, b, e, api.ErrForm)
			b, e = circuit.Both(kind, good, c)
			wantError(t, b, e, api.ErrForm)
			b, e = circuit.Both(kind, c, c)
			wantError(t, b, e, api.ErrForm)
		}
	}
}

func TestDepth(t *testing.T) {
	for _, c := range samples() {
		if d := circuit.Depth(c); d != depthOf(c) {
			t.Fatalf("%s: depth %d", brief(c), d)
		}
	}
	for _, c := range []struct {
		c     api.Circuit
		depth int
	}{
		{circuitOf(0, truth(1)), 0}, {negations(20000), 0}, {doublings(api.FXor, 101), 200}, {doublings(api.FOr, 101), 100}, {doublings(api.FAnd, 20000), 19999},
		{circuitOf(2, read(0), gate(api.FAnd, 0, 0), gate(api.FXor, 0, 1), gate(api.FNot, 2)), 3},
		{circuitOf(2, read(0), gate(api.FXor, 0, 0), gate(api.FOr, 1, 0), gate(api.FAnd, 0, 2)), 4},
		{circuitOf(2, read(0), gate(api.FXor, 0, 0), read(1)), 0},
	} {
		if d := circuit.Depth(c.c); d != c.depth {
			t.Errorf("%s: depth %d, want %d", brief(c.c), d, c.depth)
		}
	}
}

// wantTable fails unless Table, and Eval at every index, have the values of c.
func wantTable(t *testing.T, c api.Circuit) {
	t.Helper()
	table, e := circuit.Table(c)
	if e != api.OK || len(table) != 1<<c.Inputs {
		t.Fatalf("%s: %d values, %v", brief(c), len(table), e)
	}
	for i, got := range table {
		value, e := circuit.Eval(c, bitsOf(i, c.Inputs))
		if e != api.OK || value != got || got != valueAt(c, i) {
			t.Fatalf("%s at %d: Table %v, Eval %v, %v", brief(c), i, got, value, e)
		}
	}
}

// P7.3: Table has the value of Eval at every index, and both have that of the circuit.
func TestTable(t *testing.T) {
	smallCircuits(2, 3, func(c api.Circuit) { wantTable(t, c) })
	r := numbers(2)
	for inputs := range api.MaxTable + 1 {
		for gates := range 25 {
			wantTable(t, r.some(inputs, gates+1, 6))
		}
		for v := range inputs {
			wantTable(t, circuitOf(inputs, read(v)))
		}
	}
	table, e := circuit.Table(r.some(12, 20000, 30))
	if e != api.OK || len(table) != 4096 {
		t.Error(len(table), e)
	}
}

func TestTableErrors(t *testing.T) {
	for inputs := api.MaxTable + 1; inputs <= api.MaxInputs; inputs++ {
		for _, g := range []api.Gate{truth(1), read(0), read(inputs - 1)} {
			table, e := circuit.Table(circuitOf(inputs, g))
			wantError(t, table, e, api.ErrSize)
		}
	}
}

// The value is that of the last gate, for the kinds by their meaning.
func TestEval(t *testing.T) {
	for kind, table := range map[int][]bool{
		api.FAnd: {false, false, false, true},
		api.FOr:  {false, true, true, true},
		api.FXor: {false, true, true, false},
	} {
		for i, want := range table {
			value, e := circuit.Eval(circuitOf(2, read(0), read(1), gate(kind, 0, 1)), bitsOf(i, 2))
			if e != api.OK || value != want {
				t.Errorf("kind %d at %d: %v, %v", kind, i, value, e)
			}
		}
	}
	for _, c := range samples() {
		for i, x := range [][]bool{bitsOf(0, c.Inputs), bitsOf(-1, c.Inputs), bitsOf(0x5c39, c.Inputs), bitsOf(0x8421, c.Inputs)} {
			value, e := circuit.Eval(c, x)
			want := valueAt(c, []int{0, -1, 0x5c39, 0x8421}[i])
			if e != api.OK || value != want {
				t.Fatalf("%s at %v: %v, %v", brief(c), x, value, e)
			}
		}
	}
}

func TestEvalErrors(t *testing.T) {
	for _, inputs := range []int{0, 1, 2, 15, 16} {
		c := circuitOf(inputs, truth(1))
		for _, length := range []int{0, 1, 2, 3, 14, 15, 16, 17, 100} {
			value, e := circuit.Eval(c, make([]bool, length))
			if length != inputs {
				wantError(t, value, e, api.ErrArg)
			} else if e != api.OK || !value {
				t.Errorf("%d inputs: %v, %v", inputs, value, e)
			}
		}
	}
	value, e := circuit.Eval(circuitOf(0, truth(1)), nil)
	if e != api.OK || !value {
		t.Error(value, e)
	}
}

// wantBoth fails unless Both connects the values of c and d, for all three kinds.
func wantBoth(t *testing.T, c, d api.Circuit) {
	t.Helper()
	for kind := api.FAnd; kind <= api.FXor; kind++ {
		b, e := circuit.Both(kind, c, d)
		wantCircuit(t, b, e, c.Inputs)
		for _, x := range choices() {
			if valuesOf(b, x) != connected(kind, 0, nil, []uint64{valuesOf(c, x), valuesOf(d, x)}) {
				t.Fatalf("kind %d of %s and %s: %s", kind, brief(c), brief(d), brief(b))
			}
		}
	}
}

// P7.4: Both has the combined value.
func TestBoth(t *testing.T) {
	smallCircuits(1, 2, func(c api.Circuit) {
		smallCircuits(1, 2, func(d api.Circuit) { wantBoth(t, c, d) })
	})
	r := numbers(3)
	for inputs := range api.MaxInputs + 1 {
		for gates := range 30 {
			c := r.some(inputs, gates+1, 8)
			wantBoth(t, c, r.some(inputs, 1+r.below(40), 8))
			wantBoth(t, c, c)
		}
	}
}

func TestBothErrors(t *testing.T) {
	one, two, none := circuitOf(1, read(0)), circuitOf(2, read(0)), circuitOf(0, truth(0))
	for _, kind := range []int{api.FVar, api.FConst, api.FNot, api.FKinds, -1, math.MaxInt, math.MinInt} {
		b, e := circuit.Both(kind, one, one)
		wantError(t, b, e, api.ErrArg)
	}
	for _, pair := range [][2]api.Circuit{{one, two}, {two, one}, {none, one}, {two, none}, {negations(20000), two}} {
		b, e := circuit.Both(api.FAnd, pair[0], pair[1])
		wantError(t, b, e, api.ErrArg)
	}
}

// P7.4: ErrSize only if both together have MaxNodes gates or more.
func TestBothErrSize(t *testing.T) {
	r := numbers(4)
	for _, first := range []int{1, 2, 7, 10000, 19997, 19998} {
		wantBoth(t, r.some(1, first, 50), r.some(1, api.MaxNodes-1-first, 50))
		b, e := circuit.Both(api.FOr, r.some(1, first, 50), r.some(1, api.MaxNodes-first, 50))
		wantError(t, b, e, api.ErrSize)
	}
	b, e := circuit.Both(api.FOr, negations(20000), negations(20000))
	wantError(t, b, e, api.ErrSize)
	b, e = circuit.Both(api.FNot, negations(20000), negations(20000))
	wantError(t, b, e, api.ErrArg)
}

// R5: arguments are not changed, and results are new memory.
func TestMemory(t *testing.T) {
	r := numbers(5)
	for range 300 {
		c := r.some(3, 1+r.below(30), 6)
		d := r.some(3, 1+r.below(30), 6)
		gates := slices.Clone(c.Gates)
		for i := range gates {
			gates[i].Kids = slices.Clone(gates[i].Kids)
		}
		x := []bool{true, false, true}
		circuit.Eval(c, x)
		s, _ := circuit.Slim(c)
		b, _ := circuit.Both(api.FOr, c, d)
		same, _ := circuit.Both(api.FXor, c, c)
		f, _ := circuit.Formula(c)
		from, _ := circuit.From(f, 3)
		apart(t, []any{s, b, same, f, from}, c, d)
		equal := slices.EqualFunc(gates, c.Gates, func(a, b api.Gate) bool {
			return a.Kind == b.Kind && a.N == b.N && slices.Equal(a.Kids, b.Kids)
		})
		if !equal || !slices.Equal(x, []bool{true, false, true}) {
			t.Fatalf("changed: %v", gates)
		}
	}
}
