package formula

import (
	"math"
	"slices"
	"testing"

	"commodatum/api"
	"commodatum/field"
	"commodatum/poly"
)

// largestExprs are valid expressions at the limits.
func largestExprs() []api.Expr {
	deep := chainExpr(1000, func(e api.Expr) api.Expr { return mul(e, place(15)) })
	return []api.Expr{
		deep,
		chainExpr(1000, func(e api.Expr) api.Expr { return add(number(1), e) }),
		fullExpr(api.EAdd, 10000, place16),
		fullExpr(api.EMul, 10000, func(i int) api.Expr { return place(i % 2) }),
	}
}

func TestMeasuresOfExpressions(t *testing.T) {
	r := numbers(6)
	for _, f := range fields {
		list := smallExprs(3, place(0), place(15), number(0), number(field.Order(f)-1))
		list = append(list, largestExprs()...)
		for size := 1; size < 50; size++ {
			list = append(list, r.someExpr(f, size, 16))
		}
		for _, x := range list {
			if !ValidExpr(f, x) {
				t.Fatalf("%v: not valid: %s", f, brief(writtenExpr(x)))
			}
			inputs, size, depth := countedExpr(x)
			wantNumber(t, InputsExpr(f, x), inputs)
			wantNumber(t, SizeExpr(f, x), size)
			wantNumber(t, DepthExpr(f, x), depth)
		}
	}
	x := parsedExpr(t, five, "add(mul(x0, add(x4, 4)), x1)")
	wantNumber(t, InputsExpr(five, x), 5)
	wantNumber(t, SizeExpr(five, x), 4)
	wantNumber(t, DepthExpr(five, x), 3)
	// The node with one constant too large for a field is valid for others only.
	if ValidExpr(three, x) || !ValidExpr(seven, x) || SizeExpr(three, x) != -1 {
		t.Error("the constant 4")
	}
	if x.Kids = append(x.Kids, place(0)); ValidExpr(five, x) {
		t.Error("three kids")
	}
	if !ValidExpr(two, api.Expr{Kids: []api.Expr{}}) {
		t.Error("an empty list of kids")
	}
}

func TestInvalidExpressions(t *testing.T) {
	for _, f := range []api.Field{two, four, seven, large} {
		for _, x := range wrongExprs(f) {
			wantNoExpr(t, f, x)
		}
	}
	for _, f := range wrongFields {
		for _, x := range append(wrongExprs(two), place(0), number(0), add(place(1), number(1))) {
			wantNoExpr(t, f, x)
		}
		a, e := Arith(f, input(0))
		wantError(t, a, e, api.ErrForm)
		a, e = Arith(f, api.Formula{Kind: -1})
		wantError(t, a, e, api.ErrForm)
	}
}

func wantNoExpr(t *testing.T, f api.Field, x api.Expr) {
	t.Helper()
	if ValidExpr(f, x) {
		t.Errorf("%v: %v is valid", f, x.Kind)
	}
	wantNumber(t, InputsExpr(f, x), -1)
	wantNumber(t, SizeExpr(f, x), -1)
	wantNumber(t, DepthExpr(f, x), -1)
	for _, at := range [][]int{nil, make([]int, 16), {-1}} {
		value, e := EvalExpr(f, x, at)
		wantError(t, value, e, api.ErrForm)
	}
	for _, n := range []int{-1, 16, 81} {
		p, e := PolyOf(f, x, n)
		wantError(t, p, e, api.ErrForm)
	}
	s, e := TextExpr(f, x)
	wantError(t, s, e, api.ErrForm)
}

// terms are the coefficients of a polynomial by its exponents.
type terms map[[16]int]int

// termsOf multiplies out by the definitions.
func termsOf(f api.Field, e api.Expr) terms {
	result := terms{}
	put := func(exponents [16]int, c int) {
		sum, _ := field.Add(f, result[exponents], c)
		result[exponents] = sum
		if sum == 0 {
			delete(result, exponents)
		}
	}
	switch e.Kind {
	case api.EVar:
		exponents := [16]int{}
		exponents[e.N] = 1
		put(exponents, 1)
	case api.EConst:
		put([16]int{}, e.N)
	case api.EAdd:
		for _, kid := range e.Kids {
			for exponents, c := range termsOf(f, kid) {
				put(exponents, c)
			}
		}
	case api.EMul:
		other := termsOf(f, e.Kids[1])
		for one, c := range termsOf(f, e.Kids[0]) {
			for two, d := range other {
				exponents := one
				for i, power := range two {
					exponents[i] += power
				}
				product, _ := field.Mul(f, c, d)
				put(exponents, product)
			}
		}
	}
	return result
}

// P5.3: PolyOf is the expression multiplied out, and has its values.
func TestPolynomials(t *testing.T) {
	r := numbers(7)
	for _, f := range fields {
		list := smallExprs(3, place(0), place(1), number(0), number(1), number(field.Order(f)-1))
		for range 60 {
			list = append(list, r.someExpr(f, 1+r.below(14), 5))
		}
		for _, x := range list {
			least := max(InputsExpr(f, x), 0)
			for _, n := range []int{least, least + 1, 16, 80} {
				wantPoly(t, f, x, n)
			}
			wantValues(t, f, x, &r)
		}
	}
}

func wantPoly(t *testing.T, f api.Field, x api.Expr, n int) {
	t.Helper()
	p, e := PolyOf(f, x, n)
	expected := termsOf(f, x)
	if e != api.OK || !poly.Valid(f, n, p) || len(p) != len(expected) {
		t.Fatalf("%v: %s in %d variables: %v, %v", f, writtenExpr(x), n, p, e)
	}
	for _, term := range p {
		exponents := [16]int{}
		copy(exponents[:], term.E)
		if expected[exponents] != term.C {
			t.Fatalf("%v: %s in %d variables: %v", f, writtenExpr(x), n, p)
		}
	}
}

func wantValues(t *testing.T, f api.Field, x api.Expr, r *numbers) {
	t.Helper()
	n := InputsExpr(f, x)
	p, _ := PolyOf(f, x, n)
	for range 4 {
		at := make([]int, n)
		for i := range at {
			at[i] = r.below(field.Order(f))
		}
		v, e := EvalExpr(f, x, at)
		want(t, v, e, valueOfExpr(f, x, at))
		w, e := poly.Eval(f, n, p, at)
		want(t, w, e, v)
		more, e := EvalExpr(f, x, append(at, field.Order(f)-1, 0))
		want(t, more, e, v)
	}
}

func TestPolynomialExamples(t *testing.T) {
	for _, c := range []struct {
		f    api.Field
		text string
		n    int
		poly string
	}{
		{two, "mul(add(x0, 1), x1)", 2, "1*x1 + 1*x0*x1"},
		{two, "add(x0, x0)", 1, "0"},
		{two, "0", 0, "0"},
		{two, "1", 0, "1"},
		{two, "mul(x0, x0)", 1, "1*x0^2"},
		{three, "add(x0, x0)", 1, "2*x0"},
		{three, "add(x0, mul(2, x0))", 80, "0"},
		{four, "mul(2, mul(2, x1))", 2, "3*x1"},
		{seven, "mul(add(x0, 6), add(x0, 1))", 3, "6 + 1*x0^2"},
	} {
		p, e := PolyOf(c.f, parsedExpr(t, c.f, c.text), c.n)
		if e != api.OK {
			t.Fatal(c.text, e)
		}
		s, e := poly.Text(c.f, c.n, p)
		want(t, s, e, c.poly)
	}
}

func TestPolyErrArg(t *testing.T) {
	for _, c := range []struct {
		x api.Expr
		n int
	}{{place(0), 0}, {place(15), 15}, {add(place(3), number(1)), 3}, {number(1), -1}, {number(0), math.MinInt}, {number(0), 81}, {place(0), 81}, {place(0), math.MaxInt}, {place(0), -1}} {
		p, e := PolyOf(two, c.x, c.n)
		wantError(t, p, e, api.ErrArg)
	}
}

// product is the product of x + 1 for the variables from first on; it has 2^count terms.
func product(first, count int) api.Expr {
	return fullExpr(api.EMul, count, func(i int) api.Expr { return add(place(first+i), number(1)) })
}

func TestPolyErrSize(t *testing.T) {
	big := product(0, 15)
	for _, x := range []api.Expr{
		big,
		mul(number(0), big),
		mul(big, number(0)),
		add(big, big),
		add(place(0), mul(place(1), mul(number(0), big))),
		add(product(0, 14), mul(place(15), product(0, 13))),
		add(big, mul(number(6), big)),
	} {
		p, e := PolyOf(seven, x, 16)
		wantError(t, p, e, api.ErrSize)
	}
	p, e := PolyOf(seven, product(0, 14), 16)
	if e != api.OK || len(p) != 1<<14 {
		t.Errorf("%d terms, %v", len(p), e)
	}
	p, e = PolyOf(seven, add(product(0, 14), mul(place(14), product(0, 11))), 16)
	if e != api.OK || len(p) != 1<<14+1<<11 {
		t.Errorf("%d terms, %v", len(p), e)
	}
	p, e = PolyOf(two, add(product(2, 14), product(2, 14)), 16)
	want(t, len(p), e, 0)
	// ErrArg comes before ErrSize.
	p, e = PolyOf(seven, big, 14)
	wantError(t, p, e, api.ErrArg)
}

func TestLargestExpressions(t *testing.T) {
	for _, f := range []api.Field{two, four, large} {
		at := make([]int, 16)
		for i := range at {
			at[i] = field.Order(f) - 1 - i%2
		}
		for _, x := range largestExprs() {
			v, e := EvalExpr(f, x, at)
			want(t, v, e, valueOfExpr(f, x, at))
			p, e := PolyOf(f, x, 16)
			if e != api.OK {
				t.Fatal(e)
			}
			w, e := poly.Eval(f, 16, p, at)
			want(t, w, e, v)
		}
	}
}

func TestEvalExprErrors(t *testing.T) {
	for _, c := range []struct {
		f  api.Field
		x  api.Expr
		at []int
	}{
		{two, place(0), nil}, {two, place(2), []int{1, 1}}, {five, place(15), make([]int, 15)},
		{two, place(0), []int{2}}, {two, place(0), []int{-1}}, {five, place(0), []int{0, 5}}, {five, number(1), []int{5}}, {four, number(1), []int{0, 4}},
		{five, number(1), []int{math.MinInt}}, {large, place(0), []int{65521}}, {broad, place(0), []int{1, 65536}}, {two, number(0), []int{0, 0, 0, math.MaxInt}},
	} {
		v, e := EvalExpr(c.f, c.x, c.at)
		wantError(t, v, e, api.ErrArg)
	}
	v, e := EvalExpr(five, number(4), nil)
	want(t, v, e, 4)
	v, e = EvalExpr(broad, add(place(0), number(65535)), []int{65534, 65535})
	want(t, v, e, 1)
}

// Arguments are neither changed nor retained.
func TestExprMemory(t *testing.T) {
	const text = "add(mul(x0, add(x1, 4)), x2)"
	x := parsedExpr(t, five, text)
	at := []int{4, 2, 1, 3}
	EvalExpr(five, x, at)
	TextExpr(five, x)
	p, e := PolyOf(five, x, 3)
	want(t, x, e, parsedExpr(t, five, text))
	want(t, at, e, []int{4, 2, 1, 3})
	for i := range p {
		for k := range i {
			if &p[i].E[0] == &p[k].E[0] {
				t.Error("terms share memory")
			}
		}
	}
	q, _ := PolyOf(five, add(x, place(0)), 3)
	before := slices.Clone(q[0].E)
	PolyOf(five, add(x, place(0)), 3)
	want(t, q[0].E, e, before)
}
