package poly

import (
	"fmt"
	"testing"

	"commodatum/api"
	"commodatum/field"
)

// P4.4: Reduce has the same values at all points, and exponents below the order.
func TestReduceValues(t *testing.T) {
	r := numbers(5)
	for _, f := range []api.Field{two, three, four, five, seven, eight} {
		for n := range 4 {
			for range 4 {
				p := r.somePoly(f, n, 12, 40)
				q, e := Reduce(f, n, p)
				if e != api.OK || !Valid(f, n, q) {
					t.Fatalf("%v: %v, %v", p, q, e)
				}
				wantReduced(t, f, q)
				points(f, n, func(at []int) { wantValue(t, f, n, q, at, valueAt(f, p, at)) })
				again, e := Reduce(f, n, q)
				want(t, again, e, q)
			}
		}
	}
}

func wantReduced(t *testing.T, f api.Field, p api.Poly) {
	t.Helper()
	for _, term := range p {
		for _, e := range term.E {
			if e >= field.Order(f) {
				t.Fatalf("%v: the exponent %d of %v", f, e, p)
			}
		}
	}
}

// P4.4: each exponent is replaced by the one below the order that has the same powers; 0 is not.
func TestReduceExponents(t *testing.T) {
	for _, f := range []api.Field{two, three, four, seven, {P: 257, M: 1}, {P: 2, M: 8}, large, broad} {
		q := field.Order(f)
		for _, e := range []int{0, 1, 2, q - 2, q - 1, q, q + 1, 2*q - 3, 2*q - 2, 2*q - 1, 2 * q, 65534, 65535} {
			if e < 0 || e > api.MaxPower {
				continue
			}
			reduced := e
			for reduced >= q {
				reduced -= q - 1
			}
			p, errno := Reduce(f, 1, variable(1, 0, e))
			want(t, p, errno, variable(1, 0, reduced))
		}
	}
}

// P4.4: terms that become equal are added, and may vanish.
func TestReduceMerges(t *testing.T) {
	p, e := Reduce(two, 1, variable(1, 0, 3))
	want(t, p, e, variable(1, 0, 1))
	p, e = Reduce(two, 1, api.Poly{{C: 1, E: []int{1}}, {C: 1, E: []int{2}}})
	want(t, p, e, nil)
	p, e = Reduce(three, 2, api.Poly{{C: 1, E: []int{0, 5}}, {C: 1, E: []int{0, 7}}, {C: 2, E: []int{3, 0}}, {C: 2, E: []int{9, 0}}, {C: 1, E: []int{65535, 65534}}})
	want(t, p, e, api.Poly{{C: 2, E: []int{0, 1}}, {C: 1, E: []int{1, 0}}, {C: 1, E: []int{1, 2}}})
	p, e = Reduce(two, 0, constant(0, 1))
	want(t, p, e, constant(0, 1))
	p, e = Reduce(large, 3, nil)
	want(t, p, e, nil)
	all := rowOf(1, 0, 20000, 1)
	p, e = Reduce(two, 1, all)
	want(t, p, e, api.Poly{{C: 1, E: []int{0}}, {C: 1, E: []int{1}}})
}

// P4.4: two reduced polynomials with the same values are equal: no two of all of them have the same values.
func TestReducedPolynomialsDiffer(t *testing.T) {
	for _, c := range []struct {
		f api.Field
		n int
	}{{two, 0}, {two, 1}, {two, 2}, {two, 3}, {three, 1}, {three, 2}, {four, 1}, {five, 1}, {seven, 0}} {
		q := field.Order(c.f)
		var exponents [][]int
		points(c.f, c.n, func(e []int) { exponents = append(exponents, e) })
		seen := map[string]api.Poly{}
		lists(q, len(exponents), func(coefficients []int) {
			var p api.Poly
			for i, k := range coefficients {
				if k > 0 {
					p = append(p, api.Term{C: k, E: exponents[i]})
				}
			}
			p = collect(c.f, p)
			values := ""
			points(c.f, c.n, func(at []int) {
				v, _ := Eval(c.f, c.n, p, at)
				values += fmt.Sprint(v, " ")
			})
			if other, found := seen[values]; found {
				t.Fatalf("%v and %v have the same values", p, other)
			}
			seen[values] = p
		})
	}
}

// tables calls visit with all tables of n inputs.
func tables(n int, visit func(table []bool)) {
	for number := range 1 << (1 << n) {
		table := make([]bool, 1<<n)
		for i := range table {
			table[i] = number>>i&1 == 1
		}
		visit(table)
	}
}

// P4.5: Multilinear has the values of the table, and exponents at most 1.
func TestMultilinear(t *testing.T) {
	for _, f := range fields {
		for n := range 4 {
			tables(n, func(table []bool) { wantMultilinear(t, f, n, table) })
		}
	}
	r := numbers(6)
	for n := 4; n <= 8; n++ {
		table := make([]bool, 1<<n)
		for i := range table {
			table[i] = r.below(2) == 1
		}
		wantMultilinear(t, fields[n], n, table)
	}
}

func wantMultilinear(t *testing.T, f api.Field, n int, table []bool) {
	t.Helper()
	p, e := Multilinear(f, table)
	if e != api.OK || !Valid(f, n, p) {
		t.Fatalf("%v: %v, %v", table, p, e)
	}
	for _, term := range p {
		for _, power := range term.E {
			if power > 1 {
				t.Fatalf("%v: %v", table, p)
			}
		}
	}
	for i, is := range table {
		at, value := make([]int, n), 0
		for k := range at {
			at[k] = i >> k & 1
		}
		if is {
			value = 1
		}
		wantValue(t, f, n, p, at, value)
	}
}

// P4.5: no other polynomial with exponents at most 1 has the values of the table: the one of the values of any of them is itself.
func TestMultilinearIsTheOnlyOne(t *testing.T) {
	for _, c := range []struct {
		f api.Field
		n int
	}{{two, 0}, {two, 1}, {two, 2}, {two, 3}, {three, 2}, {four, 2}, {seven, 2}} {
		var exponents [][]int
		lists(2, c.n, func(e []int) { exponents = append(exponents, e) })
		lists(field.Order(c.f), len(exponents), func(coefficients []int) {
			var p api.Poly
			for i, k := range coefficients {
				if k > 0 {
					p = append(p, api.Term{C: k, E: exponents[i]})
				}
			}
			p = collect(c.f, p)
			table := make([]bool, 1<<c.n)
			for i := range table {
				v, _ := Eval(c.f, c.n, p, exponents[i])
				if v > 1 {
					return
				}
				table[i] = v == 1
			}
			q, e := Multilinear(c.f, table)
			want(t, q, e, p)
		})
	}
}

func TestMultilinearExamples(t *testing.T) {
	for _, c := range []struct {
		f     api.Field
		n     int
		table []bool
		text  string
	}{
		{two, 0, []bool{false}, "0"},
		{two, 0, []bool{true}, "1"},
		{two, 2, []bool{false, false, false, true}, "1*x0*x1"},
		{two, 2, []bool{false, true, true, true}, "1*x1 + 1*x0 + 1*x0*x1"},
		{seven, 2, []bool{false, true, true, true}, "1*x1 + 1*x0 + 6*x0*x1"},
		{seven, 2, []bool{false, true, true, false}, "1*x1 + 1*x0 + 5*x0*x1"},
		{two, 2, []bool{false, true, true, false}, "1*x1 + 1*x0"},
		{two, 2, []bool{false, true, false, true}, "1*x0"},
		{seven, 2, []bool{true, true, false, false}, "1 + 6*x1"},
		{broad, 1, []bool{true, false}, "1 + 1*x0"},
		{large, 1, []bool{true, false}, "1 + 65520*x0"},
	} {
		p, e := Multilinear(c.f, c.table)
		if e != api.OK {
			t.Fatal(e)
		}
		wantText(t, c.f, c.n, p, c.text)
	}
}

func TestMultilinearLimits(t *testing.T) {
	table := make([]bool, 1<<api.MaxTable)
	p, e := Multilinear(seven, table)
	want(t, p, e, nil)
	table[0] = true
	p, e = Multilinear(seven, table)
	if e != api.OK || len(p) != 1<<api.MaxTable || !Valid(seven, api.MaxTable, p) {
		t.Errorf("%d terms, %v", len(p), e)
	}
	if !table[0] || table[1] {
		t.Error("the table changed")
	}
	for _, length := range []int{0, 3, 5, 6, 7, 9, 1000, 1<<12 - 1, 1<<12 + 1, 1 << 13, 1 << 16} {
		p, e = Multilinear(two, make([]bool, length))
		wantError(t, p, e, api.ErrArg)
	}
	p, e = Multilinear(two, nil)
	wantError(t, p, e, api.ErrArg)
	for _, f := range wrongFields {
		for _, table := range [][]bool{nil, {true}, make([]bool, 3)} {
			p, e = Multilinear(f, table)
			wantError(t, p, e, api.ErrForm)
		}
	}
}
