package field

import (
	"math"
	"slices"
	"testing"

	"commodatum/api"
)

// The valid prime fields are those whose order is met by no multiple of a smaller number.
func TestPrimeFields(t *testing.T) {
	composite := make([]bool, 70000)
	for d := 2; d < len(composite); d++ {
		for n := 2 * d; n < len(composite); n += d {
			composite[n] = true
		}
	}
	for p := -300; p < len(composite); p++ {
		f := api.Field{P: p, M: 1}
		valid := p > 1 && p <= 65536 && !composite[p]
		order := 0
		if valid {
			order = p
		}
		if Valid(f) != valid || Order(f) != order {
			t.Fatalf("%v: valid %v, order %d", f, Valid(f), Order(f))
		}
	}
}

// Only for P = 2 there are fields with M other than 1.
func TestFieldsOfPolynomials(t *testing.T) {
	for p := -5; p < 20; p++ {
		for m := -70; m <= 140; m++ {
			f := api.Field{P: p, M: m}
			if m == 1 {
				continue
			}
			valid := p == 2 && m > 1 && m <= 16
			order := 0
			if valid {
				order = 1 << m
			}
			if Valid(f) != valid || Order(f) != order {
				t.Fatalf("%v: valid %v, order %d", f, Valid(f), Order(f))
			}
		}
	}
}

func TestInvalidFields(t *testing.T) {
	for _, f := range invalidFields() {
		if Valid(f) || Order(f) != 0 {
			t.Errorf("%v: valid %v, order %d", f, Valid(f), Order(f))
		}
		wantErrorOfAll(t, f, 0, 0, 1, api.ErrForm)
		wantErrorOfAll(t, f, 1, 1, 1, api.ErrForm)
		wantErrorOfAll(t, f, -1, -1, -1, api.ErrForm)
		x, e := Modulus(f)
		wantError(t, "Modulus", f, x, e, api.ErrForm)
		for _, k := range []int{-1, 0, 1, 2, 3} {
			x, e = Root(f, k)
			wantError(t, "Root", f, x, e, api.ErrForm)
			x, e = Sum(f, k, k)
			wantError(t, "Sum", f, x, e, api.ErrForm)
		}
	}
}

// wantErrorOfAll expects the error of all functions of elements.
func wantErrorOfAll(t *testing.T, f api.Field, a, b, k int, fault api.Errno) {
	t.Helper()
	x, e := Add(f, a, b)
	wantError(t, "Add", f, x, e, fault)
	x, e = Sub(f, a, b)
	wantError(t, "Sub", f, x, e, fault)
	x, e = Mul(f, a, b)
	wantError(t, "Mul", f, x, e, fault)
	x, e = Inverse(f, a)
	wantError(t, "Inverse", f, x, e, fault)
	x, e = Power(f, a, k)
	wantError(t, "Power", f, x, e, fault)
}

func TestUnfitElements(t *testing.T) {
	for _, f := range append(smallFields(16), largeFields()...) {
		for _, a := range unfit(f) {
			wantErrorOfAll(t, f, a, a, 1, api.ErrArg)
			wantErrorOfAll(t, f, a, 0, 0, api.ErrArg)
			wantErrorOfAll(t, f, a, size(f)-1, -1, api.ErrArg)
			x, e := Add(f, 1, a)
			wantError(t, "Add", f, x, e, api.ErrArg)
			x, e = Sub(f, 1, a)
			wantError(t, "Sub", f, x, e, api.ErrArg)
			x, e = Mul(f, 1, a)
			wantError(t, "Mul", f, x, e, api.ErrArg)
		}
	}
}

func TestModulus(t *testing.T) {
	for m, least := range leastIrreducible() {
		if m < 2 {
			continue
		}
		f := api.Field{P: 2, M: m}
		x, e := Modulus(f)
		want(t, "Modulus", f, x, e, least)
	}
	for _, p := range []int{2, 3, 5, 65521} {
		f := api.Field{P: p, M: 1}
		x, e := Modulus(f)
		wantError(t, "Modulus", f, x, e, api.ErrNone)
	}
}

// The operations are those of the definition.
func TestOperations(t *testing.T) {
	for _, f := range append(smallFields(64), largeFields()...) {
		r := rulesOf(f)
		for _, a := range some(f) {
			for _, b := range some(f) {
				x, e := Add(f, a, b)
				want(t, "Add", f, x, e, r.sum(a, b))
				x, e = Mul(f, a, b)
				want(t, "Mul", f, x, e, r.product(a, b))
				x, e = Sub(f, r.sum(a, b), b)
				want(t, "Sub", f, x, e, a)
			}
		}
	}
}

// P3.1: the laws of a field, for all elements of small fields and some of others.
func TestLaws(t *testing.T) {
	t.Parallel()
	for _, f := range append(smallFields(32), largeFields()...) {
		list := some(f)
		for _, a := range list {
			want(t, "Add of 0", f, sum(t, f, a, 0), api.OK, a)
			want(t, "Mul by 0", f, times(t, f, a, 0), api.OK, 0)
			want(t, "Mul by 1", f, times(t, f, a, 1), api.OK, a)
			for _, b := range list {
				checkPair(t, f, a, b)
				for i := 0; i < len(list); i += max(1, len(list)/11) {
					checkTriple(t, f, a, b, list[i])
				}
			}
		}
	}
}

func checkPair(t *testing.T, f api.Field, a, b int) {
	t.Helper()
	want(t, "Add exchanged", f, sum(t, f, a, b), api.OK, sum(t, f, b, a))
	want(t, "Mul exchanged", f, times(t, f, a, b), api.OK, times(t, f, b, a))
	x, e := Sub(f, a, b)
	if e != api.OK || x < 0 || x >= size(f) {
		t.Fatalf("%v: %d less %d = %d, %v", f, a, b, x, e)
	}
	want(t, "Add after Sub", f, sum(t, f, x, b), api.OK, a)
	x, e = Sub(f, sum(t, f, a, b), b)
	want(t, "Sub after Add", f, x, e, a)
	if a != 0 && b != 0 && times(t, f, a, b) == 0 {
		t.Fatalf("%v: the product of %d and %d is 0", f, a, b)
	}
}

func checkTriple(t *testing.T, f api.Field, a, b, c int) {
	t.Helper()
	want(t, "Add of three", f, sum(t, f, sum(t, f, a, b), c), api.OK, sum(t, f, a, sum(t, f, b, c)))
	want(t, "Mul of three", f, times(t, f, times(t, f, a, b), c), api.OK, times(t, f, a, times(t, f, b, c)))
	want(t, "Mul of a sum", f, times(t, f, sum(t, f, a, b), c), api.OK, sum(t, f, times(t, f, a, c), times(t, f, b, c)))
}

// P3.1: every element but 0 has an inverse.
func TestInverse(t *testing.T) {
	for _, f := range append(smallFields(64), largeFields()...) {
		x, e := Inverse(f, 0)
		wantError(t, "Inverse of 0", f, x, e, api.ErrNone)
		for a := 1; a < size(f); a++ {
			x, e := Inverse(f, a)
			if e != api.OK || x < 1 || x >= size(f) {
				t.Fatalf("%v: Inverse of %d = %d, %v", f, a, x, e)
			}
			want(t, "Mul by the inverse", f, times(t, f, a, x), api.OK, 1)
		}
	}
}

// P3.2: an element to the power of the order is the element.
func TestPowerToTheOrder(t *testing.T) {
	for _, f := range append(smallFields(64), largeFields()...) {
		for a := range size(f) {
			x, e := Power(f, a, size(f))
			want(t, "Power to the order", f, x, e, a)
		}
	}
}

func TestPower(t *testing.T) {
	for _, f := range append(smallFields(32), largeFields()...) {
		r := rulesOf(f)
		for _, a := range some(f) {
			power := 1
			for k := range 70 {
				x, e := Power(f, a, k)
				want(t, "Power", f, x, e, power)
				power = r.product(power, a)
			}
			for _, k := range []int{-1, -2, math.MinInt, -size(f)} {
				x, e := Power(f, a, k)
				wantError(t, "Power", f, x, e, api.ErrArg)
			}
		}
	}
}

// The exponents may be as large as an int.
func TestLargePowers(t *testing.T) {
	for _, f := range append(smallFields(32), largeFields()...) {
		for _, k := range []int{math.MaxInt, math.MaxInt - 1, 1 << 40, 1<<32 + 1, 1 << 62} {
			want(t, "Power of 0", f, raised(t, f, 0, k), api.OK, 0)
			for _, a := range some(f)[1:] {
				want(t, "Power", f, raised(t, f, a, k), api.OK, raised(t, f, a, k%(size(f)-1)))
			}
		}
	}
}

// P3.5: the sum of P equal elements is 0, and the P-th power of a sum is the sum of the P-th powers.
func TestCharacteristic(t *testing.T) {
	t.Parallel()
	for _, f := range append(smallFields(64), largeFields()...) {
		for _, a := range some(f) {
			total := 0
			for i := range f.P {
				if i > 0 && a != 0 && total == 0 {
					t.Fatalf("%v: the sum of %d times %d is 0", f, i, a)
				}
				total = sum(t, f, total, a)
			}
			want(t, "sum of P elements", f, total, api.OK, 0)
			for _, b := range some(f) {
				left := raised(t, f, sum(t, f, a, b), f.P)
				want(t, "Power of a sum", f, left, api.OK, sum(t, f, raised(t, f, a, f.P), raised(t, f, b, f.P)))
			}
		}
	}
}

func TestExamples(t *testing.T) {
	f := api.Field{P: 2, M: 2}
	x, e := Mul(f, 2, 2)
	want(t, "Mul(2, 2)", f, x, e, 3)
	f = api.Field{P: 7, M: 1}
	x, e = Root(f, 3)
	want(t, "Root for 3", f, x, e, 2)
	f = api.Field{P: 2, M: 4}
	x, e = Sum(f, 5, 10)
	want(t, "Sum(5, 10)", f, x, e, 1)
	x, e = Sum(f, 5, 3)
	want(t, "Sum(5, 3)", f, x, e, 0)
	var found []int
	for m := 2; m <= 4; m++ {
		x, _ := Modulus(api.Field{P: 2, M: m})
		found = append(found, x)
	}
	if !slices.Equal(found, []int{7, 11, 19}) {
		t.Errorf("moduli %v", found)
	}
}
