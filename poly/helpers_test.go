package poly

import (
	"fmt"
	"math"
	"slices"
	"testing"

	"commodatum/api"
	"commodatum/field"
)

// The functions of this file compute by the definitions, without any function of the package.

var (
	two    = api.Field{P: 2, M: 1}
	three  = api.Field{P: 3, M: 1}
	four   = api.Field{P: 2, M: 2}
	five   = api.Field{P: 5, M: 1}
	seven  = api.Field{P: 7, M: 1}
	eight  = api.Field{P: 2, M: 3}
	large  = api.Field{P: 65521, M: 1}
	broad  = api.Field{P: 2, M: 16}
	fields = []api.Field{two, three, four, five, seven, eight, {P: 2, M: 4}, {P: 257, M: 1}, {P: 2, M: 8}, large, broad}
)

func plus(f api.Field, a, b int) int {
	c, e := field.Add(f, a, b)
	if e != api.OK {
		panic(e)
	}
	return c
}

func timesIn(f api.Field, a, b int) int {
	c, e := field.Mul(f, a, b)
	if e != api.OK {
		panic(e)
	}
	return c
}

// numbers is a sequence that looks arbitrary, and is always the same.
type numbers uint64

func (r *numbers) below(n int) int {
	*r = *r*6364136223846793005 + 1442695040888963407
	return int(uint64(*r)>>33) % n
}

// somePoly returns a polynomial of about the given number of terms with exponents up to the given one.
func (r *numbers) somePoly(f api.Field, n, terms, power int) api.Poly {
	var list api.Poly
	for range terms {
		e := make([]int, n)
		for i := range e {
			e[i] = r.below(power + 1)
		}
		list = append(list, api.Term{C: 1 + r.below(field.Order(f)-1), E: e})
	}
	slices.SortFunc(list, byExponents)
	return slices.CompactFunc(list, func(a, b api.Term) bool { return byExponents(a, b) == 0 })
}

func (r *numbers) somePoint(f api.Field, n int) []int {
	at := make([]int, n)
	for i := range at {
		at[i] = r.below(field.Order(f))
	}
	return at
}

func byExponents(a, b api.Term) int { return slices.Compare(a.E, b.E) }

// collect adds terms in any order to a polynomial.
func collect(f api.Field, list api.Poly) api.Poly {
	list = slices.Clone(list)
	slices.SortStableFunc(list, byExponents)
	var sum api.Poly
	for i := 0; i < len(list); {
		c, first := 0, i
		for ; i < len(list) && byExponents(list[first], list[i]) == 0; i++ {
			c = plus(f, c, list[i].C)
		}
		if c != 0 {
			sum = append(sum, api.Term{C: c, E: slices.Clone(list[first].E)})
		}
	}
	return sum
}

func sumOf(f api.Field, p, q api.Poly) api.Poly { return collect(f, slices.Concat(p, q)) }

func productOf(f api.Field, p, q api.Poly) api.Poly {
	var list api.Poly
	for _, a := range p {
		for _, b := range q {
			e := slices.Clone(a.E)
			for i := range e {
				e[i] += b.E[i]
			}
			list = append(list, api.Term{C: timesIn(f, a.C, b.C), E: e})
		}
	}
	return collect(f, list)
}

// fits reports whether a polynomial keeps the limits.
func fits(p api.Poly) bool {
	for _, t := range p {
		if len(t.E) > 0 && slices.Max(t.E) > api.MaxPower {
			return false
		}
	}
	return len(p) <= api.MaxTerms
}

// substituted computes step by step, and reports whether all intermediate results keep the limits.
func substituted(f api.Field, p api.Poly, m int, l []api.Poly) (api.Poly, bool) {
	var total api.Poly
	for _, t := range p {
		product := constant(m, t.C)
		for i, e := range t.E {
			for range e {
				product = productOf(f, product, l[i])
				if !fits(product) {
					return nil, false
				}
			}
		}
		total = sumOf(f, total, product)
		if !fits(total) {
			return nil, false
		}
	}
	return total, true
}

// valueAt multiplies as often as the exponents say.
func valueAt(f api.Field, p api.Poly, at []int) int {
	value := 0
	for _, t := range p {
		product := t.C
		for i, e := range t.E {
			for range e {
				product = timesIn(f, product, at[i])
			}
		}
		value = plus(f, value, product)
	}
	return value
}

func constant(n, c int) api.Poly {
	if c == 0 {
		return nil
	}
	return api.Poly{{C: c, E: make([]int, n)}}
}

// variable is the variable i to a power.
func variable(n, i, power int) api.Poly {
	e := make([]int, n)
	e[i] = power
	return api.Poly{{C: 1, E: e}}
}

// rowOf is the sum of count powers of the variable i, whose exponents are multiples of step.
func rowOf(n, i, count, step int) api.Poly {
	var p api.Poly
	for k := range count {
		p = append(p, variable(n, i, k*step)[0])
	}
	return p
}

// points calls visit with all points of f with n coordinates.
func points(f api.Field, n int, visit func(at []int)) {
	lists(field.Order(f), n, visit)
}

// lists calls visit with all lists of n numbers less than size.
func lists(size, n int, visit func(list []int)) {
	list := make([]int, n)
	for {
		visit(slices.Clone(list))
		i := 0
		for i < n && list[i] == size-1 {
			list[i] = 0
			i++
		}
		if i == n {
			return
		}
		list[i]++
	}
}

func copyOf(p api.Poly) api.Poly {
	c := slices.Clone(p)
	for i := range c {
		c[i].E = slices.Clone(c[i].E)
	}
	return c
}

func same(p, q api.Poly) bool {
	return slices.EqualFunc(p, q, func(a, b api.Term) bool { return a.C == b.C && slices.Equal(a.E, b.E) })
}

// want fails unless got is the polynomial want and there is no error.
func want(t *testing.T, got api.Poly, e api.Errno, want api.Poly) {
	t.Helper()
	if e != api.OK || !same(got, want) {
		t.Fatalf("got %s, %v, want %s", brief(got), e, brief(want))
	}
}

func wantError(t *testing.T, got api.Poly, e, want api.Errno) {
	t.Helper()
	if e != want || len(got) != 0 {
		t.Fatalf("got %s, %v, want error %v", brief(got), e, want)
	}
}

func wantNumber(t *testing.T, got int, e api.Errno, want int) {
	t.Helper()
	if e != api.OK || got != want {
		t.Fatalf("got %d, %v, want %d", got, e, want)
	}
}

func wantText(t *testing.T, f api.Field, n int, p api.Poly, want string) {
	t.Helper()
	if got, e := Text(f, n, p); e != api.OK || got != want {
		t.Fatalf("%v: %q, %v, want %q", p, got, e, want)
	}
}

func brief(p api.Poly) string {
	s := fmt.Sprint(p)
	if len(s) > 300 {
		return fmt.Sprintf("%d terms %s ..", len(p), s[:300])
	}
	return s
}

// wrongCounts are numbers of variables that are not allowed.
var wrongCounts = []int{-1, -80, 81, 1 << 32, math.MaxInt, math.MinInt}

// wrongFields are not valid.
var wrongFields = []api.Field{{}, {P: 4, M: 1}, {P: 3, M: 2}, {P: 2, M: 0}, {P: 2, M: 17}, {P: 65537, M: 1}, {P: -2, M: 1}, {P: math.MaxInt, M: 1}, {P: math.MinInt, M: math.MinInt}}

// wrongPolys are not valid in two variables over GF(4).
func wrongPolys() []api.Poly {
	long := rowOf(2, 0, 200, 1)
	long = productOf(two, long, rowOf(2, 1, 101, 1))
	return []api.Poly{
		{{C: 0, E: []int{0, 0}}},
		{{C: 4, E: []int{0, 0}}},
		{{C: -1, E: []int{0, 0}}},
		{{C: math.MaxInt, E: []int{0, 0}}},
		{{C: math.MinInt, E: []int{0, 0}}},
		{{C: 1, E: nil}},
		{{C: 1, E: []int{0}}},
		{{C: 1, E: []int{0, 0, 0}}},
		{{C: 1, E: []int{-1, 0}}},
		{{C: 1, E: []int{0, 65536}}},
		{{C: 1, E: []int{math.MinInt, 0}}},
		{{C: 1, E: []int{0, math.MaxInt}}},
		{{C: 1, E: []int{0, 0}}, {C: 1, E: []int{0, 0}}},
		{{C: 1, E: []int{0, 1}}, {C: 1, E: []int{0, 0}}},
		{{C: 1, E: []int{1, 0}}, {C: 1, E: []int{0, 1}}},
		{{C: 1, E: []int{0, 0}}, {C: 1, E: []int{0, 1}}, {C: 0, E: []int{1, 0}}},
		{{C: 1, E: []int{0, 0}}, {C: 1, E: []int{1}}},
		{{}},
		long,
	}
}
