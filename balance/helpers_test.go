package balance_test

import (
	"fmt"
	"math"
	"reflect"
	"slices"
	"testing"

	"commodatum/api"
	"commodatum/field"
	"commodatum/formula"
)

// The functions of this file compute by the definitions, without any function of the package.

func input(n int) api.Formula          { return api.Formula{Kind: api.FVar, N: n} }
func truth(n int) api.Formula          { return api.Formula{Kind: api.FConst, N: n} }
func not(f api.Formula) api.Formula    { return gate(api.FNot, f) }
func and(f, g api.Formula) api.Formula { return gate(api.FAnd, f, g) }
func or(f, g api.Formula) api.Formula  { return gate(api.FOr, f, g) }
func xor(f, g api.Formula) api.Formula { return gate(api.FXor, f, g) }

func gate(kind int, kids ...api.Formula) api.Formula { return api.Formula{Kind: kind, Kids: kids} }

func place(n int) api.Expr       { return api.Expr{Kind: api.EVar, N: n} }
func number(n int) api.Expr      { return api.Expr{Kind: api.EConst, N: n} }
func add(a, b api.Expr) api.Expr { return api.Expr{Kind: api.EAdd, Kids: []api.Expr{a, b}} }
func mul(a, b api.Expr) api.Expr { return api.Expr{Kind: api.EMul, Kids: []api.Expr{a, b}} }

// numbers is a sequence that looks arbitrary, and is always the same.
type numbers uint64

func (r *numbers) below(n int) int {
	*r = *r*6364136223846793005 + 1442695040888963407
	return int(uint64(*r)>>33) % n
}

func (r *numbers) word() uint64 {
	high := uint64(r.below(1 << 31))
	return high<<33 ^ uint64(r.below(1<<31))<<11 ^ uint64(r.below(1<<31))
}

// halves says how a formula of the size is parted: it returns the size of the first kid.
type halves func(r *numbers, size int) int

// manyHalves are chains, bushes and what lies between.
var manyHalves = []halves{
	func(r *numbers, size int) int { return 1 },
	func(r *numbers, size int) int { return size - 1 },
	func(r *numbers, size int) int { return []int{1, size - 1}[r.below(2)] },
	func(r *numbers, size int) int { return 1 + r.below(size-1) },
	func(r *numbers, size int) int { return min(size-1, 1+r.below(6)) },
	func(r *numbers, size int) int { return max(1, size/3) },
	func(r *numbers, size int) int { return max(1, size/8) },
	func(r *numbers, size int) int { return (size + 1) / 2 },
}

// manyKinds are lists of connectives: a formula has only those of one list.
var manyKinds = [][]int{{api.FAnd}, {api.FOr}, {api.FXor}, {api.FAnd, api.FOr}, {api.FAnd, api.FXor}, {api.FOr, api.FXor}, {api.FAnd, api.FOr, api.FXor}}

// some returns a formula of the size with connectives of the list and inputs below the given number. One node of five is negated; one leaf of ten is a constant.
func (r *numbers) some(size int, kinds []int, h halves, inputs int) api.Formula {
	if r.below(5) == 0 {
		return not(r.some(size, kinds, h, inputs))
	}
	if size > 1 {
		first := h(r, size)
		kind := kinds[r.below(len(kinds))]
		f := r.some(first, kinds, h, inputs)
		return gate(kind, f, r.some(size-first, kinds, h, inputs))
	}
	if r.below(10) == 0 {
		return truth(r.below(2))
	}
	return input(r.below(inputs))
}

// plain returns a formula as some does, without constants and negations.
func (r *numbers) plain(size int, kinds []int, h halves, inputs int) api.Formula {
	if size == 1 {
		return input(r.below(inputs))
	}
	first := h(r, size)
	kind := kinds[r.below(len(kinds))]
	f := r.plain(first, kinds, h, inputs)
	return gate(kind, f, r.plain(size-first, kinds, h, inputs))
}

// someExpr returns an expression over f of the size; one leaf of constants is a constant, 0 and 1 above all.
func (r *numbers) someExpr(f api.Field, size int, h halves, inputs, constants int) api.Expr {
	if size > 1 {
		first := h(r, size)
		kind := api.EAdd + r.below(2)
		a := r.someExpr(f, first, h, inputs, constants)
		return api.Expr{Kind: kind, Kids: []api.Expr{a, r.someExpr(f, size-first, h, inputs, constants)}}
	}
	if r.below(constants) > 0 {
		return place(r.below(inputs))
	}
	if r.below(3) == 0 {
		return number(r.below(field.Order(f)))
	}
	return number(r.below(2))
}

// smallFormulas returns all formulas of at most the given number of nodes with the given leaves.
func smallFormulas(nodes int, leaves ...api.Formula) []api.Formula {
	by := make([][]api.Formula, nodes+1)
	by[1] = leaves
	for n := 2; n <= nodes; n++ {
		for _, f := range by[n-1] {
			by[n] = append(by[n], not(f))
		}
		for left := 1; left < n-1; left++ {
			for _, f := range by[left] {
				for _, g := range by[n-1-left] {
					by[n] = append(by[n], and(f, g), or(f, g), xor(f, g))
				}
			}
		}
	}
	return slices.Concat(by...)
}

// smallExprs returns all expressions of at most the given number of leaves.
func smallExprs(size int, leaves ...api.Expr) []api.Expr {
	by := make([][]api.Expr, size+1)
	by[1] = leaves
	for n := 2; n <= size; n++ {
		for left := 1; left < n; left++ {
			for _, a := range by[left] {
				for _, b := range by[n-left] {
					by[n] = append(by[n], add(a, b), mul(a, b))
				}
			}
		}
	}
	return slices.Concat(by...)
}

// valuesOf returns the values of f at 64 choices of the inputs: input i has the values x[i].
func valuesOf(f api.Formula, x []uint64) uint64 {
	switch f.Kind {
	case api.FVar:
		return x[f.N]
	case api.FConst:
		return -uint64(f.N)
	case api.FNot:
		return ^valuesOf(f.Kids[0], x)
	}
	a, b := valuesOf(f.Kids[0], x), valuesOf(f.Kids[1], x)
	switch f.Kind {
	case api.FAnd:
		return a & b
	case api.FOr:
		return a | b
	}
	return a ^ b
}

// choices returns, for 16 inputs, 64 choices each: all those of the first six inputs, with the other inputs constant, and others that look arbitrary, with few inputs that are 1, or many.
func choices() [][]uint64 {
	all := []uint64{0xaaaaaaaaaaaaaaaa, 0xcccccccccccccccc, 0xf0f0f0f0f0f0f0f0, 0xff00ff00ff00ff00, 0xffff0000ffff0000, 0xffffffff00000000}
	list := [][]uint64{slices.Concat(all, make([]uint64, 10)), slices.Concat(all, slices.Repeat([]uint64{math.MaxUint64}, 10))}
	r := numbers(99)
	for more := -3; more <= 3; more++ {
		x := make([]uint64, 16)
		for i := range x {
			x[i] = r.word()
			for range more {
				x[i] |= r.word()
			}
			for range -more {
				x[i] &= r.word()
			}
		}
		list = append(list, x)
	}
	return list
}

// sameFunction reports whether f and g have the same values wherever it looks: at all choices if there are at most six inputs.
func sameFunction(f, g api.Formula) bool {
	for _, x := range choices() {
		if valuesOf(f, x) != valuesOf(g, x) {
			return false
		}
	}
	return true
}

func valueOfExpr(f api.Field, e api.Expr, x []int) int {
	switch e.Kind {
	case api.EVar:
		return x[e.N]
	case api.EConst:
		return e.N
	}
	operation := field.Add
	if e.Kind == api.EMul {
		operation = field.Mul
	}
	v, errno := operation(f, valueOfExpr(f, e.Kids[0], x), valueOfExpr(f, e.Kids[1], x))
	if errno != api.OK {
		panic(errno)
	}
	return v
}

// measure are the numbers of leaves and of nodes, the depth and the nesting.
type measure struct{ size, nodes, depth, nested int }

func measured(f api.Formula) measure {
	m := measure{nodes: 1, nested: 1}
	for _, kid := range f.Kids {
		k := measured(kid)
		m = measure{m.size + k.size, m.nodes + k.nodes, max(m.depth, k.depth), max(m.nested, k.nested+1)}
	}
	switch f.Kind {
	case api.FVar, api.FConst:
		m.size = 1
	case api.FAnd, api.FOr:
		m.depth++
	case api.FXor:
		m.depth += 2
	}
	return m
}

func measuredExpr(e api.Expr) measure {
	if len(e.Kids) == 0 {
		return measure{1, 1, 0, 1}
	}
	a, b := measuredExpr(e.Kids[0]), measuredExpr(e.Kids[1])
	return measure{a.size + b.size, 1 + a.nodes + b.nodes, 1 + max(a.depth, b.depth), 1 + max(a.nested, b.nested)}
}

// allowed is the depth of a balanced formula of the size: 4 b + 2.
func allowed(size int) int {
	b := 0
	for 1<<b < size {
		b++
	}
	return 4*b + 2
}

// has reports whether a node of f is such.
func has(f api.Formula, such func(f api.Formula) bool) bool {
	return such(f) || slices.ContainsFunc(f.Kids, func(kid api.Formula) bool { return has(kid, such) })
}

// inputsOf is the set of the inputs that occur.
func inputsOf(f api.Formula) map[int]bool {
	set := map[int]bool{}
	has(f, func(f api.Formula) bool {
		if f.Kind == api.FVar {
			set[f.N] = true
		}
		return false
	})
	return set
}

func inputsOfExpr(e api.Expr) map[int]bool {
	set := map[int]bool{}
	if e.Kind == api.EVar {
		set[e.N] = true
	}
	for _, kid := range e.Kids {
		for n := range inputsOfExpr(kid) {
			set[n] = true
		}
	}
	return set
}

// within reports whether all of the first set are in the second one.
func within(a, b map[int]bool) bool {
	for n := range a {
		if !b[n] {
			return false
		}
	}
	return true
}

// chain nests a formula: it has depth nodes one in another.
func chain(depth int, next func(f api.Formula) api.Formula) api.Formula {
	f := input(0)
	for range depth - 1 {
		f = next(f)
	}
	return f
}

// full is a complete tree of a kind with the given number of leaves.
func full(kind, leaves int, at func(i int) api.Formula) api.Formula {
	if leaves == 1 {
		return at(0)
	}
	half := leaves / 2
	return gate(kind, full(kind, half, at), full(kind, leaves-half, func(i int) api.Formula { return at(half + i) }))
}

func fullExpr(kind, leaves int, at func(i int) api.Expr) api.Expr {
	if leaves == 1 {
		return at(0)
	}
	half := leaves / 2
	return api.Expr{Kind: kind, Kids: []api.Expr{fullExpr(kind, half, at), fullExpr(kind, leaves-half, func(i int) api.Expr { return at(half + i) })}}
}

func input16(i int) api.Formula { return input(i % 16) }
func place16(i int) api.Expr    { return place(i % 16) }

// wrongFormulas are not valid.
func wrongFormulas() []api.Formula {
	ring := make([]api.Formula, 1)
	ring[0] = api.Formula{Kind: api.FNot, Kids: ring}
	rings := make([]api.Formula, 2)
	rings[0] = api.Formula{Kind: api.FAnd, Kids: rings}
	rings[1] = rings[0]
	shared := input(0)
	for range 60 {
		shared = or(shared, shared)
	}
	return []api.Formula{
		{Kind: -1}, {Kind: api.FKinds}, {Kind: api.FKinds, Kids: []api.Formula{input(0), input(0)}}, {Kind: math.MaxInt}, {Kind: math.MinInt},
		{Kind: api.FVar, N: -1}, {Kind: api.FVar, N: 16}, {Kind: api.FConst, N: -1}, {Kind: api.FConst, N: 2},
		{Kind: api.FVar, Kids: []api.Formula{input(0)}}, {Kind: api.FConst, Kids: []api.Formula{input(0)}},
		{Kind: api.FNot}, {Kind: api.FNot, N: 1, Kids: []api.Formula{input(0)}}, {Kind: api.FNot, Kids: []api.Formula{input(0), input(1)}},
		{Kind: api.FAnd}, {Kind: api.FXor, Kids: []api.Formula{input(0)}}, {Kind: api.FOr, Kids: []api.Formula{input(0), input(1), input(2)}},
		ring[0], rings[0], shared, not(input(16)), and(truth(0), input(-1)), or(truth(1), truth(2)),
		chain(1001, not), chain(1001, func(f api.Formula) api.Formula { return and(truth(0), f) }), full(api.FOr, 10001, input16),
	}
}

// wrongExprs are not valid over the field.
func wrongExprs(f api.Field) []api.Expr {
	ring := make([]api.Expr, 2)
	ring[0] = api.Expr{Kind: api.EAdd, Kids: ring}
	shared := place(0)
	for range 60 {
		shared = mul(shared, shared)
	}
	deep := place(0)
	for range 1000 {
		deep = mul(number(0), deep)
	}
	return []api.Expr{
		{Kind: -1}, {Kind: api.EKinds}, {Kind: api.EKinds, Kids: []api.Expr{place(0), place(1)}}, {Kind: math.MaxInt}, {Kind: math.MinInt},
		{Kind: api.EVar, N: -1}, {Kind: api.EVar, N: 16}, {Kind: api.EConst, N: -1}, {Kind: api.EConst, N: field.Order(f)},
		{Kind: api.EVar, Kids: []api.Expr{place(0)}}, {Kind: api.EConst, Kids: []api.Expr{place(0)}},
		{Kind: api.EAdd}, {Kind: api.EMul, N: 1, Kids: []api.Expr{place(0), place(0)}}, {Kind: api.EAdd, Kids: []api.Expr{place(0)}},
		ring[0], shared, deep, mul(number(0), number(field.Order(f))), add(place(16), number(0)), fullExpr(api.EAdd, 10001, place16),
	}
}

// apart fails if two lists of kids share memory, or if one shares memory with an argument.
func apart(t *testing.T, given, result any) {
	t.Helper()
	seen := map[uintptr]bool{}
	visitKids(reflect.ValueOf(given), func(kids uintptr) { seen[kids] = true })
	visitKids(reflect.ValueOf(result), func(kids uintptr) {
		if seen[kids] {
			t.Error("memory is shared")
		}
		seen[kids] = true
	})
}

func visitKids(node reflect.Value, visit func(kids uintptr)) {
	kids := node.FieldByName("Kids")
	if kids.Cap() == 0 {
		return
	}
	visit(kids.Pointer())
	for i := range kids.Len() {
		visitKids(kids.Index(i), visit)
	}
}

func parsed(t *testing.T, s string) api.Formula {
	t.Helper()
	f, e := formula.Parse(s)
	if e != api.OK {
		t.Fatalf("Parse(%q): %v", s, e)
	}
	return f
}

func parsedExpr(t *testing.T, f api.Field, s string) api.Expr {
	t.Helper()
	x, e := formula.ParseExpr(f, s)
	if e != api.OK {
		t.Fatalf("ParseExpr(%q): %v", s, e)
	}
	return x
}

// wantError fails unless the error is the given one and the result is zero.
func wantError(t *testing.T, got any, e, want api.Errno) {
	t.Helper()
	if e != want || !reflect.ValueOf(got).IsZero() {
		t.Errorf("got %s, %v, want error %v", brief(got), e, want)
	}
}

func brief(x any) string {
	switch node := x.(type) {
	case api.Formula:
		if s, e := formula.Text(node); e == api.OK && len(s) <= 300 {
			return s
		}
	}
	s := fmt.Sprint(x)
	if len(s) > 300 {
		return fmt.Sprintf("%s .. (%d bytes)", s[:300], len(s))
	}
	return s
}
