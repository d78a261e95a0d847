package poly

import (
	"fmt"
	"math"
	"slices"
	"testing"

	"commodatum/api"
	"commodatum/field"
)

func TestValid(t *testing.T) {
	for _, p := range []api.Poly{nil, {}, constant(2, 3), {{C: 1, E: []int{0, 65535}}, {C: 2, E: []int{1, 0}}, {C: 3, E: []int{65535, 65535}}}} {
		if !Valid(four, 2, p) {
			t.Errorf("%v is valid", p)
		}
	}
	for _, p := range wrongPolys() {
		if Valid(four, 2, p) {
			t.Errorf("%s is not valid", brief(p))
		}
	}
	for _, n := range wrongCounts {
		if Valid(two, n, nil) {
			t.Errorf("%d variables are too many or too few", n)
		}
	}
	for _, f := range wrongFields {
		if Valid(f, 1, nil) || Valid(f, 1, constant(1, 1)) {
			t.Errorf("%v is not valid", f)
		}
	}
}

func TestValidLimits(t *testing.T) {
	most := productOf(two, rowOf(2, 0, 200, 1), rowOf(2, 1, 100, 1))
	if len(most) != api.MaxTerms || !Valid(two, 2, most) {
		t.Error("20000 terms are not too many")
	}
	for _, n := range []int{0, 1, 79, 80} {
		if !Valid(two, n, nil) || !Valid(two, n, constant(n, 1)) {
			t.Errorf("%d variables are allowed", n)
		}
	}
	for _, f := range fields {
		last := field.Order(f) - 1
		if !Valid(f, 1, constant(1, last)) || Valid(f, 1, constant(1, last+1)) {
			t.Errorf("%v: %d is the last coefficient", f, last)
		}
	}
	if !Valid(three, 0, api.Poly{{C: 2}}) || Valid(three, 0, api.Poly{{C: 2}, {C: 2, E: []int{}}}) {
		t.Error("without variables there is one term at most")
	}
}

func TestText(t *testing.T) {
	wantText(t, two, 0, nil, "0")
	wantText(t, two, 80, api.Poly{}, "0")
	wantText(t, three, 0, api.Poly{{C: 2}}, "2")
	wantText(t, large, 1, constant(1, 65520), "65520")
	wantText(t, seven, 2, api.Poly{{C: 1, E: []int{0, 1}}, {C: 1, E: []int{1, 0}}, {C: 1, E: []int{1, 1}}}, "1*x1 + 1*x0 + 1*x0*x1")
	wantText(t, seven, 3, api.Poly{{C: 6, E: []int{0, 0, 0}}, {C: 5, E: []int{0, 2, 65535}}, {C: 4, E: []int{10, 0, 1}}}, "6 + 5*x1^2*x2^65535 + 4*x0^10*x2")
	wantText(t, seven, 80, variable(80, 79, 3), "1*x79^3")
}

func TestTextLimit(t *testing.T) {
	// Each of these terms has 13 bytes with what precedes it: 3076 of them leave 12 bytes for a first term.
	rest := rowOf(1, 0, 13076, 1)[10000:]
	first := api.Poly{{C: 12345, E: []int{100}}}
	wantText(t, large, 1, slices.Concat(first, rest), "12345*x0^100"+textOfRow(10000, 13076))
	longer := api.Poly{{C: 12345, E: []int{1000}}}
	many := rowOf(1, 0, api.MaxTerms, 1)
	for _, p := range []api.Poly{slices.Concat(longer, rest), slices.Concat(first, rest, variable(1, 0, 20000)), many} {
		if s, e := Text(large, 1, p); s != "" || e != api.ErrSize {
			t.Errorf("%d bytes, %v", len(s), e)
		}
	}
}

func textOfRow(from, to int) string {
	s := ""
	for i := from; i < to; i++ {
		s += fmt.Sprintf(" + 1*x0^%d", i)
	}
	return s
}

// P4.1: the value of a sum, a product and a multiple is that of the values.
func TestValues(t *testing.T) {
	r := numbers(1)
	for _, f := range fields {
		for n := range 5 {
			for range 10 {
				p, q, c, at := r.somePoly(f, n, r.below(8), 5), r.somePoly(f, n, r.below(8), 5), r.below(field.Order(f)), r.somePoint(f, n)
				sum, e := Add(f, n, p, q)
				want(t, sum, e, sumOf(f, p, q))
				product, e := Mul(f, n, p, q)
				want(t, product, e, productOf(f, p, q))
				multiple, e := Scale(f, n, c, p)
				want(t, multiple, e, productOf(f, constant(n, c), p))
				a, b := valueAt(f, p, at), valueAt(f, q, at)
				wantValue(t, f, n, p, at, a)
				wantValue(t, f, n, sum, at, plus(f, a, b))
				wantValue(t, f, n, product, at, timesIn(f, a, b))
				wantValue(t, f, n, multiple, at, timesIn(f, c, a))
			}
		}
	}
}

func wantValue(t *testing.T, f api.Field, n int, p api.Poly, at []int, value int) {
	t.Helper()
	got, e := Eval(f, n, p, at)
	wantNumber(t, got, e, value)
}

// P4.1: values of all points, of 0 and of great exponents.
func TestEval(t *testing.T) {
	for _, f := range []api.Field{two, three, four, seven} {
		p := api.Poly{{C: 1, E: []int{0, 0}}, {C: 1, E: []int{0, 7}}, {C: field.Order(f) - 1, E: []int{2, 1}}, {C: 1, E: []int{65, 0}}}
		points(f, 2, func(at []int) {
			wantValue(t, f, 2, p, at, valueAt(f, p, at))
			wantValue(t, f, 2, nil, at, 0)
		})
	}
	wantValue(t, three, 0, nil, nil, 0)
	wantValue(t, three, 0, api.Poly{{C: 2}}, []int{}, 2)
	wantValue(t, three, 1, variable(1, 0, 65535), []int{2}, 2)
	wantValue(t, three, 1, variable(1, 0, 65534), []int{2}, 1)
	wantValue(t, large, 1, variable(1, 0, 65520), []int{3}, 1)
	wantValue(t, broad, 1, variable(1, 0, 65535), []int{65535}, 1)
	wantValue(t, broad, 1, variable(1, 0, 65535), []int{0}, 0)
	wantValue(t, seven, 80, variable(80, 79, 2), slices.Repeat([]int{3}, 80), 2)
}

func TestEvalErrors(t *testing.T) {
	p := api.Poly{{C: 1, E: []int{0, 1}}}
	for _, at := range [][]int{nil, {1}, {1, 1, 1}, {4, 0}, {0, 4}, {-1, 0}, {0, math.MaxInt}, {math.MinInt, 0}} {
		v, e := Eval(four, 2, p, at)
		if v != 0 || e != api.ErrArg {
			t.Errorf("%v: %d, %v", at, v, e)
		}
	}
	for _, p := range wrongPolys() {
		for _, at := range [][]int{{1, 1}, nil} {
			if v, e := Eval(four, 2, p, at); v != 0 || e != api.ErrForm {
				t.Errorf("%s: %d, %v", brief(p), v, e)
			}
		}
	}
	for _, n := range wrongCounts {
		if v, e := Eval(two, n, nil, nil); v != 0 || e != api.ErrForm {
			t.Errorf("%d variables: %d, %v", n, v, e)
		}
	}
}

// P4.2: Add and Mul are commutative and associative, and Mul distributes over Add.
func TestRing(t *testing.T) {
	r := numbers(2)
	for _, f := range fields {
		for n := range 4 {
			for range 5 {
				p, q, s := r.somePoly(f, n, 5, 3), r.somePoly(f, n, 4, 4), r.somePoly(f, n, 6, 2)
				add := func(p, q api.Poly) api.Poly { return mustAdd(t, f, n, p, q) }
				mul := func(p, q api.Poly) api.Poly { return mustMul(t, f, n, p, q) }
				if !same(add(p, q), add(q, p)) || !same(add(add(p, q), s), add(p, add(q, s))) {
					t.Errorf("%v: sums of %v, %v, %v", f, p, q, s)
				}
				if !same(mul(p, q), mul(q, p)) || !same(mul(mul(p, q), s), mul(p, mul(q, s))) {
					t.Errorf("%v: products of %v, %v, %v", f, p, q, s)
				}
				if !same(mul(p, add(q, s)), add(mul(p, q), mul(p, s))) {
					t.Errorf("%v: %v times the sum of %v, %v", f, p, q, s)
				}
				if !same(add(p, nil), p) || !same(mul(p, constant(n, 1)), p) || len(mul(p, nil)) != 0 || len(mul(nil, p)) != 0 {
					t.Errorf("%v: %v with 0 and 1", f, p)
				}
			}
		}
	}
}

func mustAdd(t *testing.T, f api.Field, n int, p, q api.Poly) api.Poly {
	t.Helper()
	sum, e := Add(f, n, p, q)
	if e != api.OK || !Valid(f, n, sum) {
		t.Fatalf("%v + %v: %v, %v", p, q, sum, e)
	}
	return sum
}

func mustMul(t *testing.T, f api.Field, n int, p, q api.Poly) api.Poly {
	t.Helper()
	product, e := Mul(f, n, p, q)
	if e != api.OK || !Valid(f, n, product) {
		t.Fatalf("(%v) (%v): %v, %v", p, q, product, e)
	}
	return product
}

// P4.2: terms that vanish are removed, and terms of equal exponents are one.
func TestTermsVanish(t *testing.T) {
	for _, f := range fields {
		minusOne, _ := field.Sub(f, 0, 1)
		p := api.Poly{{C: 1, E: []int{0, 3}}, {C: 1, E: []int{2, 0}}}
		q := api.Poly{{C: minusOne, E: []int{0, 3}}, {C: 1, E: []int{1, 0}}}
		sum, e := Add(f, 2, p, q)
		want(t, sum, e, api.Poly{{C: 1, E: []int{1, 0}}, {C: 1, E: []int{2, 0}}})
		// (1 + x + .. + x^9) (1 - x) = 1 - x^10
		product, e := Mul(f, 1, rowOf(1, 0, 10, 1), api.Poly{{C: 1, E: []int{0}}, {C: minusOne, E: []int{1}}})
		want(t, product, e, api.Poly{{C: 1, E: []int{0}}, {C: minusOne, E: []int{10}}})
		negative, e := Scale(f, 2, minusOne, p)
		if e != api.OK || len(mustAdd(t, f, 2, p, negative)) != 0 {
			t.Errorf("%v: %v", f, negative)
		}
	}
}

// P4.3: the degree of a product is the sum of the degrees.
func TestDegree(t *testing.T) {
	r := numbers(3)
	for _, f := range fields {
		for n := range 5 {
			for range 10 {
				p, q := r.somePoly(f, n, 1+r.below(6), 6), r.somePoly(f, n, 1+r.below(6), 6)
				d := wantDegree(t, f, n, p)
				if product := mustMul(t, f, n, p, q); wantDegree(t, f, n, product) != d+wantDegree(t, f, n, q) {
					t.Errorf("%v: the degree of %v", f, product)
				}
			}
		}
	}
}

func wantDegree(t *testing.T, f api.Field, n int, p api.Poly) int {
	t.Helper()
	degree := -1
	for _, term := range p {
		sum := 0
		for _, e := range term.E {
			sum += e
		}
		degree = max(degree, sum)
	}
	d, e := Degree(f, n, p)
	wantNumber(t, d, e, degree)
	return d
}

func TestDegreeExamples(t *testing.T) {
	for _, c := range []struct {
		n      int
		p      api.Poly
		degree int
	}{
		{0, nil, -1}, {80, api.Poly{}, -1}, {0, constant(0, 1), 0}, {3, constant(3, 1), 0},
		{2, api.Poly{{C: 1, E: []int{0, 9}}, {C: 1, E: []int{5, 3}}, {C: 1, E: []int{6, 0}}}, 9},
		{80, api.Poly{{C: 1, E: slices.Repeat([]int{65535}, 80)}}, 80 * 65535},
	} {
		d, e := Degree(two, c.n, c.p)
		wantNumber(t, d, e, c.degree)
	}
	for _, p := range wrongPolys() {
		if d, e := Degree(four, 2, p); d != 0 || e != api.ErrForm {
			t.Errorf("%s: %d, %v", brief(p), d, e)
		}
	}
	for _, f := range wrongFields {
		if d, e := Degree(f, 2, nil); d != 0 || e != api.ErrForm {
			t.Errorf("%v: %d, %v", f, d, e)
		}
	}
}

func TestScale(t *testing.T) {
	p := api.Poly{{C: 2, E: []int{0, 0}}, {C: 3, E: []int{0, 5}}, {C: 1, E: []int{1, 0}}}
	multiple, e := Scale(four, 2, 2, p)
	want(t, multiple, e, api.Poly{{C: 3, E: []int{0, 0}}, {C: 1, E: []int{0, 5}}, {C: 2, E: []int{1, 0}}})
	multiple, e = Scale(four, 2, 0, p)
	want(t, multiple, e, nil)
	for _, c := range []int{-1, 4, math.MaxInt, math.MinInt} {
		multiple, e = Scale(four, 2, c, p)
		wantError(t, multiple, e, api.ErrArg)
		multiple, e = Scale(four, 2, c, nil)
		wantError(t, multiple, e, api.ErrArg)
		multiple, e = Scale(four, 2, c, wrongPolys()[0])
		wantError(t, multiple, e, api.ErrForm)
	}
}

// Sums, products and multiples of what is not valid are refused, on either side.
func TestForm(t *testing.T) {
	good := api.Poly{{C: 1, E: []int{0, 1}}}
	for _, p := range wrongPolys() {
		wantFormOfAll(t, four, 2, p, good)
		wantFormOfAll(t, four, 2, good, p)
	}
	for _, n := range wrongCounts {
		wantFormOfAll(t, four, n, nil, nil)
	}
	for _, f := range wrongFields {
		wantFormOfAll(t, f, 0, nil, nil)
		wantFormOfAll(t, f, 2, good, good)
	}
	// Valid in two variables, but not in three.
	wantFormOfAll(t, four, 3, good, good)
}

func wantFormOfAll(t *testing.T, f api.Field, n int, p, q api.Poly) {
	t.Helper()
	sum, e := Add(f, n, p, q)
	wantError(t, sum, e, api.ErrForm)
	product, e := Mul(f, n, p, q)
	wantError(t, product, e, api.ErrForm)
	if Valid(f, n, p) {
		p = q
	}
	multiple, e := Scale(f, n, 0, p)
	wantError(t, multiple, e, api.ErrForm)
	reduced, e := Reduce(f, n, p)
	wantError(t, reduced, e, api.ErrForm)
	if s, e := Text(f, n, p); s != "" || e != api.ErrForm {
		t.Fatalf("%q, %v", s, e)
	}
}

func TestAddLimit(t *testing.T) {
	// Of x^i y^j there are 200 times 100, half of them without the last one.
	all := productOf(two, rowOf(2, 0, 200, 1), rowOf(2, 1, 100, 1))
	sum, e := Add(two, 2, all[:12000], all[12000:])
	want(t, sum, e, all)
	sum, e = Add(two, 2, all, variable(2, 1, 100))
	wantError(t, sum, e, api.ErrSize)
	sum, e = Add(two, 2, all, all)
	want(t, sum, e, nil)
	// More terms than may be are given, but some vanish.
	sum, e = Add(two, 2, all, append(copyOf(all[:1]), variable(2, 1, 100)...))
	want(t, sum, e, sumOf(two, all[1:], variable(2, 1, 100)))
}

func TestMulLimits(t *testing.T) {
	all, e := Mul(two, 2, rowOf(2, 0, 200, 1), rowOf(2, 1, 100, 1))
	want(t, all, e, productOf(two, rowOf(2, 0, 200, 1), rowOf(2, 1, 100, 1)))
	more, e := Mul(two, 2, rowOf(2, 0, 201, 1), rowOf(2, 1, 100, 1))
	wantError(t, more, e, api.ErrSize)
	// 1000 times 1000 pairs are not too many.
	row, e := Mul(seven, 1, rowOf(1, 0, 1000, 1), rowOf(1, 0, 1000, 1))
	want(t, row, e, productOf(seven, rowOf(1, 0, 1000, 1), rowOf(1, 0, 1000, 1)))
	top, e := Mul(two, 2, variable(2, 1, 65534), variable(2, 1, 1))
	want(t, top, e, variable(2, 1, 65535))
	above, e := Mul(two, 2, variable(2, 1, 65535), variable(2, 1, 1))
	wantError(t, above, e, api.ErrSize)
	above, e = Mul(two, 2, sumOf(two, constant(2, 1), variable(2, 0, 40000)), sumOf(two, constant(2, 1), variable(2, 0, 25536)))
	wantError(t, above, e, api.ErrSize)
	apart, e := Mul(two, 2, variable(2, 0, 65535), variable(2, 1, 65535))
	want(t, apart, e, api.Poly{{C: 1, E: []int{65535, 65535}}})
	nothing, e := Mul(two, 2, nil, variable(2, 1, 65535))
	want(t, nothing, e, nil)
}

// Most products of two terms vanish from a square in characteristic 2, so that they are not too many.
func TestMulVanishingTerms(t *testing.T) {
	var p, square api.Poly
	for k := range 250 {
		p = append(p, api.Term{C: 1, E: []int{k, k * k % 32003}})
		square = append(square, api.Term{C: 1, E: []int{2 * k, 2 * (k * k % 32003)}})
	}
	product, e := Mul(four, 2, p, p)
	want(t, product, e, square)
	product, e = Mul(three, 2, p, p)
	wantError(t, product, e, api.ErrSize)
}

// A product of more than 1000000 pairs is refused, or is right.
func TestMulPairs(t *testing.T) {
	p, q := rowOf(1, 0, 1001, 1), rowOf(1, 0, 1000, 1)
	product, e := Mul(two, 1, p, q)
	if e == api.ErrSize {
		wantError(t, product, e, api.ErrSize)
		return
	}
	want(t, product, e, productOf(two, p, q))
}

// Keys of exponents are not mixed up when their bytes are: 256 and 1, and the limits of bytes.
func TestExponentBytes(t *testing.T) {
	list := []int{0, 1, 2, 255, 256, 257, 32767, 32768, 65280, 65535}
	var p api.Poly
	for _, a := range list {
		for _, b := range list {
			p = append(p, api.Term{C: 1 + (a+b)%6, E: []int{a, b}})
		}
	}
	sum, e := Add(seven, 2, p, nil)
	want(t, sum, e, p)
	double, e := Add(seven, 2, p, p)
	want(t, double, e, sumOf(seven, p, p))
	product, e := Mul(seven, 2, p, constant(2, 3))
	want(t, product, e, productOf(seven, p, constant(2, 3)))
}

// R5: results share no memory with arguments or with each other.
func TestMemory(t *testing.T) {
	p, q := api.Poly{{C: 1, E: []int{0, 1}}, {C: 2, E: []int{3, 0}}}, api.Poly{{C: 3, E: []int{1, 1}}}
	at := []int{2, 3}
	beforeP, beforeQ := copyOf(p), copyOf(q)
	var results []api.Poly
	keep := func(r api.Poly, e api.Errno) {
		if e != api.OK {
			t.Fatal(e)
		}
		results = append(results, r)
	}
	keep(Add(four, 2, p, nil))
	keep(Add(four, 2, nil, p))
	keep(Mul(four, 2, p, constant(2, 1)))
	keep(Scale(four, 2, 1, p))
	keep(Reduce(four, 2, p))
	keep(Substitute(four, 2, p, 2, []api.Poly{variable(2, 0, 1), variable(2, 1, 1)}))
	keep(Substitute(four, 1, variable(1, 0, 1), 2, []api.Poly{p}))
	for k, r := range results {
		if !same(r, p) {
			t.Errorf("%v, not %v", r, p)
		}
		for i := range r {
			r[i] = api.Term{C: k, E: append(append(r[i].E[:0], k, i), 9)[:2]}
		}
	}
	for k, r := range results {
		if !same(r, api.Poly{{C: k, E: []int{k, 0}}, {C: k, E: []int{k, 1}}}) {
			t.Errorf("results share memory: %v", r)
		}
	}
	Eval(four, 2, p, at)
	Mul(four, 2, p, q)
	if !same(p, beforeP) || !same(q, beforeQ) || at[0] != 2 || at[1] != 3 {
		t.Errorf("an argument changed: %v, %v, %v", p, q, at)
	}
}
