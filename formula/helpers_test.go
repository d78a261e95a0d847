package formula

import (
	"fmt"
	"math"
	"reflect"
	"regexp"
	"strconv"
	"strings"
	"testing"

	"commodatum/api"
	"commodatum/field"
)

// The functions of this file compute by the definitions, without any function of the package.

var (
	two    = api.Field{P: 2, M: 1}
	three  = api.Field{P: 3, M: 1}
	four   = api.Field{P: 2, M: 2}
	five   = api.Field{P: 5, M: 1}
	seven  = api.Field{P: 7, M: 1}
	eight  = api.Field{P: 2, M: 3}
	large  = api.Field{P: 65521, M: 1}
	broad  = api.Field{P: 2, M: 16}
	fields = []api.Field{two, three, four, five, seven, eight, {P: 257, M: 1}, {P: 2, M: 8}, large, broad}
)

// wrongFields are not valid.
var wrongFields = []api.Field{{}, {P: 4, M: 1}, {P: 3, M: 2}, {P: 2, M: 0}, {P: 2, M: 17}, {P: 65537, M: 1}, {P: -2, M: 1}, {P: math.MaxInt, M: 1}, {P: math.MinInt, M: math.MinInt}}

func input(n int) api.Formula          { return api.Formula{Kind: api.FVar, N: n} }
func truth(n int) api.Formula          { return api.Formula{Kind: api.FConst, N: n} }
func not(f api.Formula) api.Formula    { return gate(api.FNot, f) }
func and(f, g api.Formula) api.Formula { return gate(api.FAnd, f, g) }
func or(f, g api.Formula) api.Formula  { return gate(api.FOr, f, g) }
func xor(f, g api.Formula) api.Formula { return gate(api.FXor, f, g) }

func gate(kind int, kids ...api.Formula) api.Formula { return api.Formula{Kind: kind, Kids: kids} }

func place(n int) api.Expr       { return api.Expr{Kind: api.EVar, N: n} }
func number(n int) api.Expr      { return api.Expr{Kind: api.EConst, N: n} }
func add(a, b api.Expr) api.Expr { return api.Expr{Kind: api.EAdd, Kids: []api.Expr{a, b}} }
func mul(a, b api.Expr) api.Expr { return api.Expr{Kind: api.EMul, Kids: []api.Expr{a, b}} }

// numbers is a sequence that looks arbitrary, and is always the same.
type numbers uint64

func (r *numbers) below(n int) int {
	*r = *r*6364136223846793005 + 1442695040888963407
	return int(uint64(*r)>>33) % n
}

// some returns a formula of the size, with inputs less than the given one.
func (r *numbers) some(size, inputs int) api.Formula {
	if r.below(4) == 0 {
		return not(r.some(size, inputs))
	}
	if size == 1 {
		if n := r.below(inputs + 2); n < inputs {
			return input(n)
		}
		return truth(r.below(2))
	}
	left := 1 + r.below(size-1)
	return gate(api.FAnd+r.below(3), r.some(left, inputs), r.some(size-left, inputs))
}

// someExpr returns an expression of the size, with inputs less than the given one.
func (r *numbers) someExpr(f api.Field, size, inputs int) api.Expr {
	if size == 1 {
		if n := r.below(inputs + 2); n < inputs {
			return place(n)
		}
		return number(r.below(field.Order(f)))
	}
	left := 1 + r.below(size-1)
	a := r.someExpr(f, left, inputs)
	b := r.someExpr(f, size-left, inputs)
	if r.below(2) == 0 {
		return add(a, b)
	}
	return mul(a, b)
}

// smallFormulas returns all formulas of at most the given number of nodes with the given leaves.
func smallFormulas(nodes int, leaves ...api.Formula) []api.Formula {
	by := make([][]api.Formula, nodes+1)
	by[1] = leaves
	for n := 2; n <= nodes; n++ {
		for _, f := range by[n-1] {
			by[n] = append(by[n], not(f))
		}
		for left := 1; left < n-1; left++ {
			for _, f := range by[left] {
				for _, g := range by[n-1-left] {
					by[n] = append(by[n], and(f, g), or(f, g), xor(f, g))
				}
			}
		}
	}
	var all []api.Formula
	for _, list := range by {
		all = append(all, list...)
	}
	return all
}

// smallExprs returns all expressions of at most the given number of leaves.
func smallExprs(size int, leaves ...api.Expr) []api.Expr {
	by := make([][]api.Expr, size+1)
	by[1] = leaves
	for n := 2; n <= size; n++ {
		for left := 1; left < n; left++ {
			for _, a := range by[left] {
				for _, b := range by[n-left] {
					by[n] = append(by[n], add(a, b), mul(a, b))
				}
			}
		}
	}
	var all []api.Expr
	for _, list := range by {
		all = append(all, list...)
	}
	return all
}

// valueOf is the value at an index of a table.
func valueOf(f api.Formula, index int) bool {
	switch f.Kind {
	case api.FVar:
		return index>>f.N&1 == 1
	case api.FConst:
		return f.N == 1
	case api.FNot:
		return !valueOf(f.Kids[0], index)
	}
	a, b := valueOf(f.Kids[0], index), valueOf(f.Kids[1], index)
	return f.Kind == api.FAnd && a && b || f.Kind == api.FOr && (a || b) || f.Kind == api.FXor && a != b
}

func valueOfExpr(f api.Field, e api.Expr, x []int) int {
	switch e.Kind {
	case api.EVar:
		return x[e.N]
	case api.EConst:
		return e.N
	}
	operation := field.Add
	if e.Kind == api.EMul {
		operation = field.Mul
	}
	v, errno := operation(f, valueOfExpr(f, e.Kids[0], x), valueOfExpr(f, e.Kids[1], x))
	if errno != api.OK {
		panic(errno)
	}
	return v
}

// written is the textual form.
func written(f api.Formula) string {
	switch f.Kind {
	case api.FVar:
		return fmt.Sprintf("x%d", f.N)
	case api.FConst:
		return fmt.Sprint(f.N)
	case api.FNot:
		return "not(" + written(f.Kids[0]) + ")"
	}
	names := map[int]string{api.FAnd: "and", api.FOr: "or", api.FXor: "xor"}
	return names[f.Kind] + "(" + written(f.Kids[0]) + ", " + written(f.Kids[1]) + ")"
}

func writtenExpr(e api.Expr) string {
	switch e.Kind {
	case api.EVar:
		return fmt.Sprintf("x%d", e.N)
	case api.EConst:
		return fmt.Sprint(e.N)
	}
	names := map[int]string{api.EAdd: "add", api.EMul: "mul"}
	return names[e.Kind] + "(" + writtenExpr(e.Kids[0]) + ", " + writtenExpr(e.Kids[1]) + ")"
}

var (
	leaf     = regexp.MustCompile(`x(1[0-5]|[0-9])|[01]`)
	branch   = regexp.MustCompile(`not\(#\)|(and|or|xor)\(#, #\)`)
	leafExpr = regexp.MustCompile(`x(1[0-5]|[0-9])|0|[1-9][0-9]*`)
	inner    = regexp.MustCompile(`(add|mul)\(#, #\)`)
)

// isText decides whether s is the textual form of a formula: it replaces parts that are one by # until nothing else is left.
func isText(s string) bool {
	return shrinks(leaf.ReplaceAllString(s, "#"), branch)
}

func isTextExpr(order int, s string) bool {
	return shrinks(leafExpr.ReplaceAllStringFunc(s, func(leaf string) string {
		if n, err := strconv.Atoi(leaf); err == nil && n >= order {
			return "!"
		}
		return "#"
	}), inner)
}

func shrinks(s string, part *regexp.Regexp) bool {
	for {
		next := part.ReplaceAllString(s, "#")
		if next == s {
			return s == "#"
		}
		s = next
	}
}

// counted returns the numbers of inputs, of leaves, and the depth.
func counted(f api.Formula) (inputs, size, depth int) {
	for _, kid := range f.Kids {
		i, s, d := counted(kid)
		inputs, size, depth = max(inputs, i), size+s, max(depth, d)
	}
	switch f.Kind {
	case api.FVar:
		return f.N + 1, 1, 0
	case api.FConst:
		return 0, 1, 0
	case api.FAnd, api.FOr:
		depth++
	case api.FXor:
		depth += 2
	}
	return inputs, size, depth
}

func countedExpr(e api.Expr) (inputs, size, depth int) {
	for _, kid := range e.Kids {
		i, s, d := countedExpr(kid)
		inputs, size, depth = max(inputs, i), size+s, max(depth, d+1)
	}
	if e.Kind == api.EVar {
		return e.N + 1, 1, 0
	}
	if e.Kind == api.EConst {
		return 0, 1, 0
	}
	return inputs, size, depth
}

// inputsOf is the set of the inputs that occur.
func inputsOf(f api.Formula) map[int]bool {
	set := map[int]bool{}
	if f.Kind == api.FVar {
		set[f.N] = true
	}
	for _, kid := range f.Kids {
		for n := range inputsOf(kid) {
			set[n] = true
		}
	}
	return set
}

func inputsOfExpr(e api.Expr) map[int]bool {
	set := map[int]bool{}
	if e.Kind == api.EVar {
		set[e.N] = true
	}
	for _, kid := range e.Kids {
		for n := range inputsOfExpr(kid) {
			set[n] = true
		}
	}
	return set
}

// chain nests a formula: it has depth nodes one in another.
func chain(depth int, next func(f api.Formula) api.Formula) api.Formula {
	f := input(0)
	for range depth - 1 {
		f = next(f)
	}
	return f
}

func chainExpr(depth int, next func(e api.Expr) api.Expr) api.Expr {
	e := place(0)
	for range depth - 1 {
		e = next(e)
	}
	return e
}

// full is a complete tree of a kind with the given number of leaves.
func full(kind, leaves int, at func(i int) api.Formula) api.Formula {
	if leaves == 1 {
		return at(0)
	}
	half := leaves / 2
	return gate(kind, full(kind, half, at), full(kind, leaves-half, func(i int) api.Formula { return at(half + i) }))
}

func fullExpr(kind, leaves int, at func(i int) api.Expr) api.Expr {
	if leaves == 1 {
		return at(0)
	}
	half := leaves / 2
	return api.Expr{Kind: kind, Kids: []api.Expr{fullExpr(kind, half, at), fullExpr(kind, leaves-half, func(i int) api.Expr { return at(half + i) })}}
}

// wrongFormulas are not valid.
func wrongFormulas() []api.Formula {
	ring := make([]api.Formula, 1)
	ring[0] = api.Formula{Kind: api.FNot, Kids: ring}
	rings := make([]api.Formula, 2)
	rings[0] = api.Formula{Kind: api.FAnd, Kids: rings}
	rings[1] = rings[0]
	shared := input(0)
	for range 60 {
		shared = or(shared, shared)
	}
	list := []api.Formula{
		{Kind: -1}, {Kind: api.FKinds}, {Kind: math.MaxInt}, {Kind: math.MinInt},
		{Kind: api.FVar, N: -1}, {Kind: api.FVar, N: 16}, {Kind: api.FVar, N: math.MaxInt}, {Kind: api.FVar, N: math.MinInt},
		{Kind: api.FConst, N: -1}, {Kind: api.FConst, N: 2}, {Kind: api.FConst, N: math.MinInt},
		{Kind: api.FVar, Kids: []api.Formula{input(0)}}, {Kind: api.FConst, Kids: []api.Formula{input(0)}},
		{Kind: api.FNot, N: 1, Kids: []api.Formula{input(0)}}, {Kind: api.FAnd, N: 1, Kids: []api.Formula{input(0), input(0)}}, {Kind: api.FXor, N: -1, Kids: []api.Formula{input(0), input(0)}},
		{Kind: api.FOr, N: 1, Kids: []api.Formula{input(0), input(0)}}, {Kind: api.FXor, N: 1, Kids: []api.Formula{input(0), input(0)}},
		rings[0], ring[0], shared,
		chain(1001, not), chain(1001, func(f api.Formula) api.Formula { return and(truth(1), f) }),
		not(not(full(api.FAnd, 10000, input16))), full(api.FOr, 10001, input16),
	}
	for kind, count := range []int{api.FNot: 1, api.FAnd: 2, api.FOr: 2, api.FXor: 2} {
		for kids := range 5 {
			if kids != count && kind >= api.FNot {
				list = append(list, api.Formula{Kind: kind, Kids: make([]api.Formula, kids)})
			}
		}
	}
	for _, f := range list[:18] {
		list = append(list, not(f), and(f, input(0)), xor(truth(0), not(f)))
	}
	return list
}

// wrongExprs are not valid over the field.
func wrongExprs(f api.Field) []api.Expr {
	ring := make([]api.Expr, 2)
	ring[0] = api.Expr{Kind: api.EAdd, Kids: ring}
	shared := place(0)
	for range 60 {
		shared = mul(shared, shared)
	}
	list := []api.Expr{
		{Kind: -1}, {Kind: api.EKinds}, {Kind: math.MaxInt}, {Kind: math.MinInt},
		{Kind: api.EVar, N: -1}, {Kind: api.EVar, N: 16}, {Kind: api.EVar, N: math.MaxInt},
		{Kind: api.EConst, N: -1}, {Kind: api.EConst, N: field.Order(f)}, {Kind: api.EConst, N: math.MaxInt}, {Kind: api.EConst, N: math.MinInt},
		{Kind: api.EVar, Kids: []api.Expr{place(0)}}, {Kind: api.EConst, Kids: []api.Expr{place(0)}},
		{Kind: api.EAdd, N: 1, Kids: []api.Expr{place(0), place(0)}}, {Kind: api.EMul, N: -1, Kids: []api.Expr{place(0), place(0)}}, {Kind: api.EMul, N: 1, Kids: []api.Expr{place(0), place(0)}},
		ring[0], shared,
		chainExpr(1001, func(e api.Expr) api.Expr { return add(number(1), e) }),
		fullExpr(api.EAdd, 10001, place16),
	}
	for kind := api.EAdd; kind <= api.EMul; kind++ {
		for _, kids := range []int{0, 1, 3} {
			list = append(list, api.Expr{Kind: kind, Kids: make([]api.Expr, kids)})
		}
	}
	for _, e := range list[:16] {
		list = append(list, add(e, place(0)), mul(number(0), e))
	}
	return list
}

func input16(i int) api.Formula { return input(i % 16) }
func place16(i int) api.Expr    { return place(i % 16) }

// apart fails if two lists of kids share memory, or if one shares memory with an argument.
func apart(t *testing.T, given, result any) {
	t.Helper()
	seen := map[uintptr]bool{}
	visitKids(reflect.ValueOf(given), func(kids uintptr) { seen[kids] = true })
	visitKids(reflect.ValueOf(result), func(kids uintptr) {
		if seen[kids] {
			t.Error("memory is shared")
		}
		seen[kids] = true
	})
}

func visitKids(node reflect.Value, visit func(kids uintptr)) {
	kids := node.FieldByName("Kids")
	if kids.Len() == 0 {
		return
	}
	visit(kids.Pointer())
	for i := range kids.Len() {
		visitKids(kids.Index(i), visit)
	}
}

func parsed(t *testing.T, s string) api.Formula {
	t.Helper()
	f, e := Parse(s)
	if e != api.OK {
		t.Fatalf("Parse(%q): %v", brief(s), e)
	}
	return f
}

func parsedExpr(t *testing.T, f api.Field, s string) api.Expr {
	t.Helper()
	x, e := ParseExpr(f, s)
	if e != api.OK {
		t.Fatalf("ParseExpr(%q): %v", brief(s), e)
	}
	return x
}

func wantNumber(t *testing.T, got, want int) {
	t.Helper()
	if got != want {
		t.Errorf("got %d, want %d", got, want)
	}
}

// want fails unless got is equal to want and there is no error.
func want(t *testing.T, got any, e api.Errno, want any) {
	t.Helper()
	if e != api.OK || !reflect.DeepEqual(got, want) {
		t.Errorf("got %s, %v, want %s", brief(fmt.Sprint(got)), e, brief(fmt.Sprint(want)))
	}
}

// wantError fails unless the error is the given one and the result is zero, or an empty list.
func wantError(t *testing.T, got any, e, want api.Errno) {
	t.Helper()
	v := reflect.ValueOf(got)
	empty := v.Kind() == reflect.Slice && v.Len() == 0
	if e != want || !empty && !v.IsZero() {
		t.Errorf("got %s, %v, want error %v", brief(fmt.Sprint(got)), e, want)
	}
}

func brief(s string) string {
	if len(s) > 200 {
		return fmt.Sprintf("%s .. (%d bytes)", s[:200], len(s))
	}
	return s
}

func repeat(s string, n int) string { return strings.Repeat(s, n) }
