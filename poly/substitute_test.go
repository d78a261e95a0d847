package poly

import (
	"slices"
	"testing"

	"commodatum/api"
	"commodatum/field"
)

// wantSubstituted compares with the computation step by step.
func wantSubstituted(t *testing.T, f api.Field, p api.Poly, m int, l []api.Poly) {
	t.Helper()
	q, e := Substitute(f, len(l), p, m, l)
	if expected, fits := substituted(f, p, m, l); fits {
		want(t, q, e, expected)
	} else if e == api.OK {
		t.Fatalf("%s at %v: an intermediate result is too great, but it is %s", brief(p), l, brief(q))
	} else {
		wantError(t, q, e, api.ErrSize)
	}
}

// P4.1: the value of a substitution is the value at the values.
func TestSubstitute(t *testing.T) {
	t.Parallel()
	r := numbers(4)
	for _, f := range fields {
		for n := range 4 {
			for m := range 4 {
				for range 3 {
					p, l := r.somePoly(f, n, 5, 4), make([]api.Poly, n)
					for i := range l {
						l[i] = r.somePoly(f, m, r.below(4), 2)
					}
					wantSubstituted(t, f, p, m, l)
					wantValuesOfSubstitute(t, f, p, m, l, r.somePoint(f, m))
				}
			}
		}
	}
}

func wantValuesOfSubstitute(t *testing.T, f api.Field, p api.Poly, m int, l []api.Poly, at []int) {
	t.Helper()
	q, e := Substitute(f, len(l), p, m, l)
	if e != api.OK {
		t.Fatal(e)
	}
	values := make([]int, len(l))
	for i := range l {
		values[i], _ = Eval(f, m, l[i], at)
	}
	value, _ := Eval(f, len(l), p, values)
	wantValue(t, f, m, q, at, value)
}

// P4.1: terms that agree in their first exponents, and powers of sums in fields of each characteristic.
func TestSubstitutePowers(t *testing.T) {
	t.Parallel()
	for _, f := range []api.Field{two, three, four, five, seven, eight, large, broad} {
		last := field.Order(f) - 1
		l := []api.Poly{
			{{C: 1, E: []int{0, 0}}, {C: last, E: []int{1, 0}}},
			{{C: last, E: []int{0, 1}}, {C: 1, E: []int{2, 0}}, {C: 1, E: []int{2, 1}}},
			{{C: last, E: []int{1, 2}}},
		}
		for e := range 30 {
			wantSubstituted(t, f, variable(3, e%3, e), 2, l)
		}
		var p api.Poly
		for i := range 3 {
			for j := range 3 {
				for k := range 3 {
					p = append(p, api.Term{C: 1 + (i+j+k)%last, E: []int{2 * i, j * j, 3 * k}})
				}
			}
		}
		wantSubstituted(t, f, p, 2, l)
	}
}

func TestSubstituteExamples(t *testing.T) {
	p := api.Poly{{C: 2, E: []int{1, 1}}}
	q, e := Substitute(three, 2, p, 1, []api.Poly{rowOf(1, 0, 2, 1), variable(1, 0, 1)})
	want(t, q, e, api.Poly{{C: 2, E: []int{1}}, {C: 2, E: []int{2}}})
	// Without variables there is nothing to replace.
	q, e = Substitute(three, 0, constant(0, 2), 3, nil)
	want(t, q, e, constant(3, 2))
	q, e = Substitute(three, 0, nil, 0, nil)
	want(t, q, e, nil)
	// Constants replace all variables.
	q, e = Substitute(three, 2, p, 0, []api.Poly{constant(0, 2), constant(0, 2)})
	want(t, q, e, constant(0, 2))
	q, e = Substitute(three, 2, p, 0, []api.Poly{constant(0, 2), nil})
	want(t, q, e, nil)
	// The power of 0 with the exponent 0 is 1.
	q, e = Substitute(three, 2, variable(2, 1, 3), 1, []api.Poly{nil, variable(1, 0, 5)})
	want(t, q, e, variable(1, 0, 15))
	// The terms of a substitution vanish.
	q, e = Substitute(two, 2, api.Poly{{C: 1, E: []int{0, 1}}, {C: 1, E: []int{1, 0}}}, 1, []api.Poly{rowOf(1, 0, 9, 1), rowOf(1, 0, 9, 1)})
	want(t, q, e, nil)
}

func TestSubstituteErrors(t *testing.T) {
	good, one := api.Poly{{C: 1, E: []int{0, 1}}}, variable(2, 0, 1)
	for _, p := range wrongPolys() {
		for _, l := range [][]api.Poly{{p}, {p, one}, {one, p}, {one, one, p}} {
			q, e := Substitute(four, 2, good, 2, l)
			wantError(t, q, e, api.ErrForm)
		}
		for _, l := range [][]api.Poly{nil, {one, one}} {
			q, e := Substitute(four, 2, p, 2, l)
			wantError(t, q, e, api.ErrForm)
		}
	}
	for _, l := range [][]api.Poly{nil, {one}, {one, one, one}, slices.Repeat([]api.Poly{one}, 100)} {
		q, e := Substitute(four, 2, good, 2, l)
		wantError(t, q, e, api.ErrArg)
		q, e = Substitute(four, 2, nil, 2, l)
		wantError(t, q, e, api.ErrArg)
	}
	for _, n := range wrongCounts {
		q, e := Substitute(four, n, nil, 2, nil)
		wantError(t, q, e, api.ErrForm)
		q, e = Substitute(four, 0, nil, n, nil)
		wantError(t, q, e, api.ErrForm)
		q, e = Substitute(four, 2, good, n, nil)
		wantError(t, q, e, api.ErrForm)
	}
	for _, f := range wrongFields {
		q, e := Substitute(f, 0, nil, 0, nil)
		wantError(t, q, e, api.ErrForm)
	}
	// The polynomials of the list have m variables, not n.
	q, e := Substitute(four, 2, good, 3, []api.Poly{one, one})
	wantError(t, q, e, api.ErrForm)
}

// What exceeds a limit at the end is refused; what does not, and needs nothing that does, is not.
func TestSubstituteLimits(t *testing.T) {
	t.Parallel()
	binomial := []api.Poly{rowOf(1, 0, 2, 1)}
	for _, c := range []struct {
		f    api.Field
		p    api.Poly
		m    int
		l    []api.Poly
		fits bool
	}{
		{two, variable(1, 0, 65535), 1, []api.Poly{variable(1, 0, 1)}, true},
		{two, variable(1, 0, 65535), 1, []api.Poly{variable(1, 0, 2)}, false},
		{large, variable(1, 0, 13107), 1, []api.Poly{variable(1, 0, 5)}, true},
		{large, variable(1, 0, 13108), 1, []api.Poly{variable(1, 0, 5)}, false},
		{two, variable(1, 0, 65535), 1, []api.Poly{constant(1, 1)}, true},
		{two, variable(1, 0, 65535), 1, []api.Poly{nil}, true},
		{two, api.Poly{{C: 1, E: []int{1, 65535}}}, 1, []api.Poly{nil, variable(1, 0, 65535)}, true},
		{two, variable(1, 0, 16383), 1, binomial, true},
		{two, variable(1, 0, 16384), 1, binomial, true},
		{two, variable(1, 0, 24576), 1, binomial, true},
		{two, variable(1, 0, 65535), 1, binomial, false},
		{four, variable(1, 0, 9), 1, []api.Poly{rowOf(1, 0, 2, 7281)}, true},
		{four, variable(1, 0, 9), 1, []api.Poly{rowOf(1, 0, 2, 7282)}, false},
		{three, api.Poly{{C: 1, E: []int{32768, 1}}}, 2, []api.Poly{variable(2, 1, 1), variable(2, 1, 32767)}, true},
		{three, api.Poly{{C: 1, E: []int{32768, 1}}}, 2, []api.Poly{variable(2, 1, 1), variable(2, 1, 32768)}, false},
		{two, api.Poly{{C: 1, E: []int{1, 1}}}, 2, []api.Poly{rowOf(2, 0, 200, 1), rowOf(2, 1, 100, 1)}, true},
		{two, api.Poly{{C: 1, E: []int{1, 1}}}, 2, []api.Poly{rowOf(2, 0, 201, 1), rowOf(2, 1, 100, 1)}, false},
		{two, api.Poly{{C: 1, E: []int{0, 1}}, {C: 1, E: []int{1, 0}}}, 1, []api.Poly{rowOf(1, 0, 10000, 2), rowOf(1, 0, 10001, 2)[1:]}, true},
		{two, api.Poly{{C: 1, E: []int{0, 1}}, {C: 1, E: []int{1, 0}}}, 1, []api.Poly{rowOf(1, 0, 10001, 3), constant(1, 1)}, true},
		{two, api.Poly{{C: 1, E: []int{0, 1}}, {C: 1, E: []int{1, 0}}}, 1, []api.Poly{rowOf(1, 0, 20000, 3), variable(1, 0, 1)}, false},
	} {
		q, e := Substitute(c.f, len(c.l), c.p, c.m, c.l)
		if !c.fits {
			wantError(t, q, e, api.ErrSize)
		} else if e != api.OK || !Valid(c.f, c.m, q) {
			t.Errorf("%v in %s: %v", c.p, brief(c.l[0]), e)
		}
	}
}

// Powers of sums in characteristic 2 have the terms that binomial coefficients say.
func TestSubstituteBinomials(t *testing.T) {
	t.Parallel()
	for _, e := range []int{1, 2, 3, 255, 4095, 5461, 16383, 16384, 24576} {
		q, errno := Substitute(four, 1, variable(1, 0, e), 1, []api.Poly{{{C: 1, E: []int{0}}, {C: 1, E: []int{1}}}})
		var expected api.Poly
		for i := range e + 1 {
			if i&e == i { // Lucas
				expected = append(expected, api.Term{C: 1, E: []int{i}})
			}
		}
		want(t, q, errno, expected)
	}
}

// A partial sum that is too great is refused, or the result is right.
func TestSubstitutePartialSums(t *testing.T) {
	t.Parallel()
	p := api.Poly{{C: 1, E: []int{0, 0, 1}}, {C: 1, E: []int{0, 1, 0}}, {C: 1, E: []int{1, 0, 0}}}
	row := rowOf(1, 0, 15000, 2)
	odd := make(api.Poly, 0, 15000)
	for i := range 15000 {
		odd = append(odd, variable(1, 0, 2*i+1)[0])
	}
	q, e := Substitute(two, 3, p, 1, []api.Poly{row, odd, row})
	if e == api.ErrSize {
		wantError(t, q, e, api.ErrSize)
	} else {
		want(t, q, e, odd)
	}
	// In this order no sum is too great, though all terms together are.
	q, e = Substitute(two, 3, p, 1, []api.Poly{odd, row, row})
	want(t, q, e, odd)
}

// Many terms whose sums vanish again and again leave what remains.
func TestSubstituteManySums(t *testing.T) {
	t.Parallel()
	var p api.Poly
	var l []api.Poly
	for i := range 16 {
		p = append(p, variable(16, 15-i, 1)...)
		row := make(api.Poly, 0, 9000)
		for k := range 9000 {
			row = append(row, variable(1, 0, i/2*8000+k)[0])
		}
		l = append(l, row)
	}
	q, e := Substitute(two, 16, p, 1, l)
	want(t, q, e, nil)
	q, e = Substitute(two, 15, p2(p), 1, l[:15])
	want(t, q, e, l[14])
}

// p2 drops the last variable of a sum of variables.
func p2(p api.Poly) api.Poly {
	var q api.Poly
	for _, t := range p {
		if t.E[len(t.E)-1] == 0 {
			q = append(q, api.Term{C: t.C, E: t.E[:len(t.E)-1]})
		}
	}
	return q
}
