package circuit_test

import (
	"fmt"
	"math"
	"reflect"
	"slices"
	"testing"

	"commodatum/api"
	"commodatum/formula"
)

// The functions of this file compute by the definitions, without any function of the package.

func read(n int) api.Gate  { return api.Gate{Kind: api.FVar, N: n} }
func truth(n int) api.Gate { return api.Gate{Kind: api.FConst, N: n} }

func gate(kind int, kids ...int) api.Gate { return api.Gate{Kind: kind, Kids: kids} }

func circuitOf(inputs int, gates ...api.Gate) api.Circuit {
	return api.Circuit{Inputs: inputs, Gates: gates}
}

// chain returns a circuit with the input x0 and more gates, each of which is made from the number of the one before.
func chain(gates int, next func(before int) api.Gate) api.Circuit {
	c := circuitOf(1, read(0))
	for i := range gates - 1 {
		c.Gates = append(c.Gates, next(i))
	}
	return c
}

func negations(gates int) api.Circuit {
	return chain(gates, func(before int) api.Gate { return gate(api.FNot, before) })
}

// doublings has a formula with 2^(gates - 1) leaves.
func doublings(kind, gates int) api.Circuit {
	return chain(gates, func(before int) api.Gate { return gate(kind, before, before) })
}

// numbers is a sequence that looks arbitrary, and is always the same.
type numbers uint64

func (r *numbers) below(n int) int {
	*r = *r*6364136223846793005 + 1442695040888963407
	return int(uint64(*r)>>33) % n
}

func (r *numbers) word() uint64 {
	high := uint64(r.below(1 << 31))
	return high<<33 ^ uint64(r.below(1<<31))<<11 ^ uint64(r.below(1<<31))
}

// some returns a circuit with the inputs and gates, whose kids are at most reach gates before them.
func (r *numbers) some(inputs, gates, reach int) api.Circuit {
	c := api.Circuit{Inputs: inputs}
	for i := range gates {
		kind := r.below(api.FKinds)
		before := func() int { return i - 1 - r.below(min(i, reach)) }
		switch {
		case inputs > 0 && (kind == api.FVar || i < 2):
			c.Gates = append(c.Gates, read(r.below(inputs)))
		case kind < api.FNot || i == 0:
			c.Gates = append(c.Gates, truth(r.below(2)))
		case kind == api.FNot:
			c.Gates = append(c.Gates, gate(kind, before()))
		default:
			first := before()
			c.Gates = append(c.Gates, gate(kind, first, before()))
		}
	}
	return c
}

// someFormula returns a formula of the size with inputs below the given number, and negations and constants here and there.
func (r *numbers) someFormula(size, inputs int) api.Formula {
	if r.below(4) == 0 {
		return api.Formula{Kind: api.FNot, Kids: []api.Formula{r.someFormula(size, inputs)}}
	}
	if size == 1 {
		if n := r.below(inputs + 2); n < inputs {
			return api.Formula{Kind: api.FVar, N: n}
		}
		return api.Formula{Kind: api.FConst, N: r.below(2)}
	}
	first := 1 + r.below(size-1)
	kind := api.FAnd + r.below(3)
	f := r.someFormula(first, inputs)
	return api.Formula{Kind: kind, Kids: []api.Formula{f, r.someFormula(size-first, inputs)}}
}

// smallCircuits visits all circuits with the inputs and up to the given number of gates.
func smallCircuits(inputs, gates int, visit func(c api.Circuit)) {
	var extend func(list []api.Gate)
	extend = func(list []api.Gate) {
		if len(list) > 0 {
			visit(circuitOf(inputs, list...))
		}
		if len(list) == gates {
			return
		}
		for _, g := range nextGates(inputs, len(list)) {
			extend(append(slices.Clone(list), g))
		}
	}
	extend(nil)
}

// nextGates are the gates that may follow the given number of gates.
func nextGates(inputs, before int) []api.Gate {
	list := []api.Gate{truth(0), truth(1)}
	for n := range inputs {
		list = append(list, read(n))
	}
	for a := range before {
		list = append(list, gate(api.FNot, a))
		for b := range before {
			list = append(list, gate(api.FAnd, a, b), gate(api.FOr, a, b), gate(api.FXor, a, b))
		}
	}
	return list
}

// smallFormulas returns all formulas of at most the given number of nodes with the inputs x0 and x1.
func smallFormulas(nodes int) []api.Formula {
	by := make([][]api.Formula, nodes+1)
	by[1] = []api.Formula{{Kind: api.FVar}, {Kind: api.FVar, N: 1}, {Kind: api.FConst}, {Kind: api.FConst, N: 1}}
	for n := 2; n <= nodes; n++ {
		for _, f := range by[n-1] {
			by[n] = append(by[n], api.Formula{Kind: api.FNot, Kids: []api.Formula{f}})
		}
		for left := 1; left < n-1; left++ {
			for _, f := range by[left] {
				for _, g := range by[n-1-left] {
					for kind := api.FAnd; kind <= api.FXor; kind++ {
						by[n] = append(by[n], api.Formula{Kind: kind, Kids: []api.Formula{f, g}})
					}
				}
			}
		}
	}
	return slices.Concat(by...)
}

// nested is a formula of which each node has a leaf beside it, nested to the given depth.
func nested(kind, depth int) api.Formula {
	f := api.Formula{Kind: api.FVar, N: 1}
	for i := range depth - 1 {
		f = api.Formula{Kind: kind, Kids: []api.Formula{f, {Kind: api.FVar, N: i % 16}}}
	}
	return f
}

// full is a complete tree of a kind with the given number of leaves, which are 16 different inputs.
func full(kind, leaves, first int) api.Formula {
	if leaves == 1 {
		return api.Formula{Kind: api.FVar, N: first % 16}
	}
	half := leaves / 2
	return api.Formula{Kind: kind, Kids: []api.Formula{full(kind, half, first), full(kind, leaves-half, first+half)}}
}

// connected is the meaning of the kinds, for 64 values at once.
func connected(kind, n int, x, kids []uint64) uint64 {
	switch kind {
	case api.FVar:
		return x[n]
	case api.FConst:
		return -uint64(n)
	case api.FNot:
		return ^kids[0]
	case api.FAnd:
		return kids[0] & kids[1]
	case api.FOr:
		return kids[0] | kids[1]
	case api.FXor:
		return kids[0] ^ kids[1]
	}
	panic(kind)
}

// valuesOf returns the values of all gates of c at 64 choices of the inputs: input i has the values x[i].
func valuesOf(c api.Circuit, x []uint64) uint64 {
	list := make([]uint64, len(c.Gates))
	for i, g := range c.Gates {
		var kids []uint64
		for _, kid := range g.Kids {
			kids = append(kids, list[kid])
		}
		list[i] = connected(g.Kind, g.N, x, kids)
	}
	return list[len(list)-1]
}

func valuesOfFormula(f api.Formula, x []uint64) uint64 {
	var kids []uint64
	for _, kid := range f.Kids {
		kids = append(kids, valuesOfFormula(kid, x))
	}
	return connected(f.Kind, f.N, x, kids)
}

// choices returns, for 16 inputs, 64 choices each: all those of the first six inputs, with the other inputs constant, and others that look arbitrary, with few inputs that are 1, or many.
func choices() [][]uint64 {
	all := []uint64{0xaaaaaaaaaaaaaaaa, 0xcccccccccccccccc, 0xf0f0f0f0f0f0f0f0, 0xff00ff00ff00ff00, 0xffff0000ffff0000, 0xffffffff00000000}
	list := [][]uint64{slices.Concat(all, make([]uint64, 10)), slices.Concat(all, slices.Repeat([]uint64{math.MaxUint64}, 10))}
	r := numbers(99)
	for more := -3; more <= 3; more++ {
		x := make([]uint64, 16)
		for i := range x {
			x[i] = r.word()
			for range more {
				x[i] |= r.word()
			}
			for range -more {
				x[i] &= r.word()
			}
		}
		list = append(list, x)
	}
	return list
}

// valueAt returns the value of c at an index of its table.
func valueAt(c api.Circuit, index int) bool {
	x := make([]uint64, c.Inputs)
	for i := range x {
		x[i] = uint64(index >> i & 1)
	}
	return valuesOf(c, x)&1 == 1
}

func bitsOf(index, n int) []bool {
	x := make([]bool, n)
	for i := range x {
		x[i] = index>>i&1 == 1
	}
	return x
}

// deeper returns the depth of a node of the kind above nodes of the depths.
func deeper(kind int, kids []int) int {
	depth := 0
	for _, k := range kids {
		depth = max(depth, k)
	}
	switch kind {
	case api.FAnd, api.FOr:
		return depth + 1
	case api.FXor:
		return depth + 2
	}
	return depth
}

func depthOf(c api.Circuit) int {
	list := make([]int, len(c.Gates))
	for i, g := range c.Gates {
		var kids []int
		for _, kid := range g.Kids {
			kids = append(kids, list[kid])
		}
		list[i] = deeper(g.Kind, kids)
	}
	return list[len(list)-1]
}

func depthOfFormula(f api.Formula) int {
	var kids []int
	for _, kid := range f.Kids {
		kids = append(kids, depthOfFormula(kid))
	}
	return deeper(f.Kind, kids)
}

func nodesOf(f api.Formula) int {
	count := 1
	for _, kid := range f.Kids {
		count += nodesOf(kid)
	}
	return count
}

// isKid reports for each gate whether it is a kid of another one.
func isKid(c api.Circuit) []bool {
	list := make([]bool, len(c.Gates))
	for _, g := range c.Gates {
		for _, kid := range g.Kids {
			list[kid] = true
		}
	}
	return list
}

// wantCircuit fails unless c is a valid circuit with the inputs.
func wantCircuit(t *testing.T, c api.Circuit, e api.Errno, inputs int) {
	t.Helper()
	if e != api.OK || c.Inputs != inputs || len(c.Gates) < 1 || len(c.Gates) > api.MaxNodes {
		t.Fatalf("%v: %s", e, brief(c))
	}
	kids := []int{0, 0, 1, 2, 2, 2}
	less := []int{inputs, 2, 1, 1, 1, 1}
	for i, g := range c.Gates {
		if g.Kind < 0 || g.Kind >= api.FKinds || len(g.Kids) != kids[g.Kind] || g.N < 0 || g.N >= less[g.Kind] {
			t.Fatalf("gate %d: %s", i, brief(c))
		}
		for _, kid := range g.Kids {
			if kid < 0 || kid >= i {
				t.Fatalf("gate %d: %s", i, brief(c))
			}
		}
	}
}

// wrongCircuits are not valid.
func wrongCircuits() []api.Circuit {
	list := []api.Circuit{
		{}, {Inputs: 1}, {Inputs: 1, Gates: []api.Gate{}},
		circuitOf(-1, truth(0)), circuitOf(17, truth(0)), circuitOf(17, read(16)), circuitOf(math.MinInt, truth(0)), circuitOf(math.MaxInt, read(0)),
		circuitOf(0, read(0)), circuitOf(3, read(3)), circuitOf(3, read(-1)), circuitOf(16, read(16)), circuitOf(16, read(math.MinInt)),
		circuitOf(16, truth(2)), circuitOf(16, truth(-1)), circuitOf(3, read(3), truth(0)), circuitOf(3, truth(5), truth(0)),
		negations(20001), doublings(api.FAnd, 20001),
	}
	for _, g := range []api.Gate{
		gate(-1), gate(api.FKinds), gate(api.FKinds, 0), gate(api.FKinds, 0, 0), gate(math.MaxInt), gate(math.MinInt, 0, 0),
		gate(api.FVar, 0), gate(api.FVar, 0, 0), gate(api.FConst, 0), gate(api.FNot), gate(api.FNot, 0, 0), gate(api.FNot, 2), gate(api.FNot, -1), gate(api.FNot, math.MaxInt),
		{Kind: api.FNot, N: 1, Kids: []int{0}}, {Kind: api.FNot, N: -1, Kids: []int{0}},
	} {
		list = append(list, circuitOf(2, read(0), read(1), g), circuitOf(2, read(0), read(1), g, read(0)))
	}
	for _, kind := range []int{api.FAnd, api.FOr, api.FXor} {
		for _, g := range []api.Gate{
			gate(kind), gate(kind, 0), gate(kind, 0, 1, 0), gate(kind, 2, 0), gate(kind, 0, 2), gate(kind, 0, 3), gate(kind, -1, 0), gate(kind, 0, -1), gate(kind, math.MinInt, math.MaxInt),
			{Kind: kind, N: 1, Kids: []int{0, 1}}, {Kind: kind, N: -1, Kids: []int{0, 1}},
		} {
			list = append(list, circuitOf(2, read(0), read(1), g), circuitOf(2, read(0), read(1), g, read(0), read(0)))
		}
	}
	return list
}

// wrongFormulas are not valid.
func wrongFormulas() []api.Formula {
	variable := api.Formula{Kind: api.FVar}
	ring := make([]api.Formula, 2)
	ring[0] = api.Formula{Kind: api.FAnd, Kids: ring}
	ring[1] = ring[0]
	deep := variable
	for range 1000 {
		deep = api.Formula{Kind: api.FNot, Kids: []api.Formula{deep}}
	}
	return []api.Formula{
		{Kind: -1}, {Kind: api.FKinds}, {Kind: api.FVar, N: -1}, {Kind: api.FVar, N: 16}, {Kind: api.FConst, N: 2}, {Kind: api.FNot},
		{Kind: api.FVar, Kids: []api.Formula{variable}}, {Kind: api.FNot, Kids: []api.Formula{{Kind: api.FVar, N: 16}}},
		{Kind: api.FAnd, Kids: []api.Formula{variable}}, {Kind: api.FXor, N: 1, Kids: []api.Formula{variable, variable}},
		ring[0], deep, nested(api.FOr, 1001), full(api.FAnd, 10001, 0),
	}
}

// wantError fails unless the error is the given one and the result is zero.
func wantError(t *testing.T, got any, e, want api.Errno) {
	t.Helper()
	if e != want || !reflect.ValueOf(got).IsZero() {
		t.Errorf("got %s, %v, want error %v", brief(got), e, want)
	}
}

// apart fails if two lists of the results share memory, or if one shares memory with a list of an argument.
func apart(t *testing.T, results []any, given ...any) {
	t.Helper()
	seen := map[uintptr]bool{}
	for _, g := range given {
		visitLists(reflect.ValueOf(g), func(list uintptr) { seen[list] = true })
	}
	for _, result := range results {
		visitLists(reflect.ValueOf(result), func(list uintptr) {
			if seen[list] {
				t.Error("memory is shared")
			}
			seen[list] = true
		})
	}
}

// visitLists visits all slices with elements in v.
func visitLists(v reflect.Value, visit func(list uintptr)) {
	switch v.Kind() {
	case reflect.Struct:
		for i := range v.NumField() {
			visitLists(v.Field(i), visit)
		}
	case reflect.Slice:
		if v.Cap() == 0 {
			return
		}
		visit(v.Pointer())
		for i := range v.Len() {
			visitLists(v.Index(i), visit)
		}
	}
}

func parsed(t *testing.T, s string) api.Formula {
	t.Helper()
	f, e := formula.Parse(s)
	if e != api.OK {
		t.Fatalf("Parse(%q): %v", s, e)
	}
	return f
}

func brief(x any) string {
	if f, ok := x.(api.Formula); ok {
		if s, e := formula.Text(f); e == api.OK && len(s) <= 300 {
			return s
		}
	}
	s := fmt.Sprintf("%v", x)
	if len(s) > 300 {
		return fmt.Sprintf("%s .. (%d bytes)", s[:300], len(s))
	}
	return s
}
