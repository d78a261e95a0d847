package field

import (
	"math/bits"
	"sync"
	"testing"

	"commodatum/api"
)

// The functions of this file compute by the definitions, without any function of the package.

// smallFields returns all fields of at most the given order.
func smallFields(order int) []api.Field {
	list := []api.Field{}
	for p := 2; p <= order; p++ {
		if hasNoDivisor(p) {
			list = append(list, api.Field{P: p, M: 1})
		}
	}
	for m := 2; 1<<m <= order; m++ {
		list = append(list, api.Field{P: 2, M: m})
	}
	return list
}

// largeFields returns a field of polynomials of each degree that smallFields(64) does not contain, and some prime fields.
func largeFields() []api.Field {
	list := []api.Field{{P: 67, M: 1}, {P: 127, M: 1}, {P: 257, M: 1}, {P: 1009, M: 1}, {P: 32749, M: 1}, {P: 65519, M: 1}, {P: 65521, M: 1}}
	for m := 7; m <= 16; m++ {
		list = append(list, api.Field{P: 2, M: m})
	}
	return list
}

func hasNoDivisor(p int) bool {
	for d := 2; d < p; d++ {
		if p%d == 0 {
			return false
		}
	}
	return p > 1
}

// size is the number of elements of a valid field.
func size(f api.Field) int {
	if f.M > 1 {
		return 1 << f.M
	}
	return f.P
}

// product multiplies polynomials over the field of two elements.
func product(a, b int) int {
	sum := 0
	for i := range bits.Len(uint(b)) {
		if b>>i&1 == 1 {
			sum ^= a << i
		}
	}
	return sum
}

// remainder divides polynomials over the field of two elements.
func remainder(a, by int) int {
	for bits.Len(uint(a)) >= bits.Len(uint(by)) {
		a ^= by << (bits.Len(uint(a)) - bits.Len(uint(by)))
	}
	return a
}

// leastIrreducible returns, for each degree up to 16, the least polynomial that is no product of two of lower degrees.
var leastIrreducible = sync.OnceValue(func() [17]int {
	composite := make([]bool, 1<<17)
	for a := 2; a < 1<<9; a++ {
		for b := a; bits.Len(uint(a))+bits.Len(uint(b)) <= 18; b++ {
			composite[product(a, b)] = true
		}
	}
	var least [17]int
	for n := len(composite) - 1; n > 1; n-- {
		if !composite[n] {
			least[bits.Len(uint(n))-1] = n
		}
	}
	return least
})

// rules computes sums and products by the definition.
type rules struct {
	f       api.Field
	modulus int
}

func rulesOf(f api.Field) rules {
	return rules{f, leastIrreducible()[f.M]}
}

func (r rules) sum(a, b int) int {
	if r.f.M == 1 {
		return (a + b) % r.f.P
	}
	return a ^ b
}

func (r rules) product(a, b int) int {
	if r.f.M == 1 {
		return a * b % r.f.P
	}
	return remainder(product(a, b), r.modulus)
}

// some returns all elements of a small field, and of others the first, the last and some between them.
func some(f api.Field) []int {
	q := size(f)
	var list []int
	step := max(1, q/37)
	for a := 0; a < q; a += step {
		list = append(list, a)
	}
	if step > 1 {
		list = append(list, 1, 2, 3, q/2, q-2, q-1)
	}
	return list
}

// invalidFields lists fields that are not valid.
func invalidFields() []api.Field {
	const most, least = int(^uint(0) >> 1), -int(^uint(0)>>1) - 1
	return []api.Field{
		{}, {P: 2}, {M: 1}, {P: 1, M: 1}, {P: 4, M: 1}, {P: 9, M: 1}, {P: 4, M: 2}, {P: 0, M: 2}, {P: 1, M: 2}, {P: 3, M: 2}, {P: 5, M: 0},
		{P: 3, M: -1}, {P: 2, M: -1}, {P: -2, M: 1}, {P: -2, M: 2}, {P: -7, M: 1}, {P: 2, M: 17}, {P: 2, M: 64}, {P: 2, M: 65},
		{P: 65537, M: 1}, {P: 65536, M: 1}, {P: 65535, M: 1}, {P: 251 * 257, M: 1}, {P: 251 * 251, M: 1}, {P: 1<<32 + 3, M: 1}, {P: 1<<32 + 15, M: 1},
		{P: most, M: 1}, {P: least, M: 1}, {P: 2, M: most}, {P: 2, M: least}, {P: most, M: most}, {P: least, M: least},
	}
}

// unfit lists numbers that are no elements of f.
func unfit(f api.Field) []int {
	const most, least = int(^uint(0) >> 1), -int(^uint(0)>>1) - 1
	return []int{-1, size(f), size(f) + 1, -size(f), 65536, 1 << 32, most, least}
}

// want compares a result with the value that it must be.
func want(t *testing.T, what string, f api.Field, got int, e api.Errno, value int) {
	t.Helper()
	if e != api.OK || got != value {
		t.Fatalf("%v: %s = %d, %v, want %d", f, what, got, e, value)
	}
}

// wantError expects an error together with 0.
func wantError(t *testing.T, what string, f api.Field, got int, e, fault api.Errno) {
	t.Helper()
	if e != fault || got != 0 {
		t.Errorf("%v: %s = %d, %v, want %v", f, what, got, e, fault)
	}
}

// sum and times are Add and Mul without errors.
func sum(t *testing.T, f api.Field, a, b int) int {
	t.Helper()
	s, e := Add(f, a, b)
	if e != api.OK {
		t.Fatalf("%v: Add %d, %d: %v", f, a, b, e)
	}
	return s
}

func times(t *testing.T, f api.Field, a, b int) int {
	t.Helper()
	p, e := Mul(f, a, b)
	if e != api.OK {
		t.Fatalf("%v: Mul %d, %d: %v", f, a, b, e)
	}
	return p
}

// raised is Power without errors.
func raised(t *testing.T, f api.Field, a, k int) int {
	t.Helper()
	p, e := Power(f, a, k)
	if e != api.OK {
		t.Fatalf("%v: Power %d, %d: %v", f, a, k, e)
	}
	return p
}
