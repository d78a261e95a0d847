package perm

import (
	"math"
	"slices"
	"testing"

	"commodatum/api"
)

// P1.2: Power is the product of k factors, and the identity if and only if Order divides k.
func TestOrderAndPowers(t *testing.T) {
	for n := 1; n <= api.MaxPoints; n++ {
		for _, p := range all(n) {
			order := Order(p)
			if order < 1 {
				t.Fatalf("Order(%v) = %d", p, order)
			}
			back, _ := Inverse(p)
			up, _ := Identity(n)
			down := up
			for k := range 14 {
				power, e := Power(p, k)
				wantPerm(t, "Power", power, e, up)
				power, e = Power(p, -k)
				wantPerm(t, "Power", power, e, down)
				if isIdentity(up) != (k%order == 0) {
					t.Fatalf("Order(%v) = %d, power %d is %v", p, order, k, up)
				}
				up, down = then(up, p), then(down, back)
			}
		}
	}
}

// P1.2: the exponents may be as large as an int.
func TestLargePowers(t *testing.T) {
	for _, p := range some(7, 31) {
		order := Order(p)
		for _, k := range []int{math.MaxInt, math.MaxInt - 1, math.MinInt, math.MinInt + 1, 1 << 40, -1 << 40} {
			small := k % order
			want, _ := Identity(7)
			step := p
			if small < 0 {
				step, _ = Inverse(p)
				small = -small
			}
			for range small {
				want = then(want, step)
			}
			power, e := Power(p, k)
			wantPerm(t, "Power", power, e, want)
		}
	}
}

// P1.2: Order is the least common multiple of the lengths of the cycles.
func TestOrderOfCycles(t *testing.T) {
	for n := 1; n <= api.MaxPoints; n++ {
		for _, p := range all(n) {
			order := Order(p)
			least := 1
			divides := func(k int) bool {
				for _, c := range Cycles(p) {
					if k%len(c) != 0 {
						return false
					}
				}
				return true
			}
			for !divides(least) {
				least++
			}
			if order != least {
				t.Fatalf("Order(%v) = %d, want %d", p, order, least)
			}
		}
	}
	for text, want := range map[string]int{"()": 1, "(0 1)": 2, "(0 1 2)(3 4)": 6, "(0 1 2 3)(4 5 6)": 12, "(0 2 4 6 1 3 5)": 7, "(0 1)(2 3 4 5)": 4} {
		p, e := Parse(text, 7)
		if Order(sure(t, p, e)) != want {
			t.Errorf("Order of %s = %d, want %d", text, Order(p), want)
		}
	}
}

// Cycles have at least two points, begin with their least points, go on with images, and rise.
func TestCycles(t *testing.T) {
	for n := 1; n <= api.MaxPoints; n++ {
		for _, p := range all(n) {
			moved := 0
			last := -1
			for _, c := range Cycles(p) {
				if len(c) < 2 || c[0] <= last || c[0] != slices.Min(c) {
					t.Fatalf("Cycles(%v) = %v", p, Cycles(p))
				}
				last = c[0]
				moved += len(c)
				for i, point := range c {
					if p[point] != c[(i+1)%len(c)] {
						t.Fatalf("Cycles(%v) = %v", p, Cycles(p))
					}
				}
			}
			for i, image := range p {
				if i == image {
					moved++
				}
			}
			if moved != n {
				t.Fatalf("Cycles(%v) = %v", p, Cycles(p))
			}
		}
	}
	if c := Cycles(api.Perm{0, 1, 2}); len(c) != 0 {
		t.Errorf("Cycles of the identity = %v", c)
	}
}

// P1.3: the parity is that of the number of exchanges; each inversion is undone by one.
func TestParityOfExchanges(t *testing.T) {
	for n := 1; n <= api.MaxPoints; n++ {
		for _, p := range all(n) {
			inversions := 0
			for i := range p {
				for j := range i {
					if p[j] > p[i] {
						inversions++
					}
				}
			}
			if Parity(p) != inversions%2 {
				t.Fatalf("Parity(%v) = %d", p, Parity(p))
			}
		}
	}
}

// P1.3: the parity of a product is the sum of the parities modulo 2; commutators are even.
func TestParityOfProducts(t *testing.T) {
	check := func(list []api.Perm) {
		for _, p := range list {
			for _, q := range list {
				pq, _ := Mul(p, q)
				if Parity(pq) != (Parity(p)+Parity(q))%2 {
					t.Fatalf("Parity of %v times %v = %d", p, q, Parity(pq))
				}
				if c, _ := Commutator(p, q); Parity(c) != 0 {
					t.Fatalf("Parity of the commutator of %v and %v = %d", p, q, Parity(c))
				}
			}
		}
	}
	for n := 1; n <= 5; n++ {
		check(all(n))
	}
	check(some(6, 7))
	check(some(7, 47))
}

// P1.4: Conjugator returns the first of all that fit, by trying all of them.
func TestConjugatorIsFirst(t *testing.T) {
	for n := 1; n <= 5; n++ {
		list := all(n)
		for _, p := range list {
			for _, q := range list {
				var want api.Perm
				for _, c := range list {
					if slices.Equal(then(p, c), then(c, q)) {
						want = c
						break
					}
				}
				c, e := Conjugator(p, q)
				if want == nil {
					wantError(t, "Conjugator", c, e, api.ErrNone)
				} else {
					wantPerm(t, "Conjugator", c, e, want)
				}
			}
		}
	}
}

// P1.4: two permutations are conjugate if and only if their cycles have the same lengths.
func TestConjugateByLengths(t *testing.T) {
	lengths := func(p api.Perm) []int {
		var l []int
		for _, c := range Cycles(p) {
			l = append(l, len(c))
		}
		slices.Sort(l)
		return l
	}
	list := some(7, 23)
	for _, p := range list {
		for _, q := range list {
			c, e := Conjugator(p, q)
			if !slices.Equal(lengths(p), lengths(q)) {
				wantError(t, "Conjugator", c, e, api.ErrNone)
				continue
			}
			if !Valid(sure(t, c, e)) || !slices.Equal(then(p, c), then(c, q)) {
				t.Fatalf("Conjugator(%v, %v) = %v", p, q, c)
			}
		}
	}
}
