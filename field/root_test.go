package field

import (
	"math"
	"testing"

	"commodatum/api"
)

// P3.3: Root is the least element that has the power 1 at k and not before.
func TestRootIsLeast(t *testing.T) {
	for _, f := range smallFields(128) {
		orders := exactOrders(f)
		for k := -2; k <= 2*size(f); k++ {
			x, e := Root(f, k)
			switch {
			case k < 1:
				wantError(t, "Root", f, x, e, api.ErrArg)
			case (size(f)-1)%k != 0:
				wantError(t, "Root", f, x, e, api.ErrNone)
			default:
				want(t, "Root", f, x, e, leastOf(orders, k))
			}
		}
	}
}

// exactOrders returns for each element but 0 the least positive exponent with the power 1.
func exactOrders(f api.Field) []int {
	r := rulesOf(f)
	orders := make([]int, size(f))
	for a := 1; a < size(f); a++ {
		power := a
		orders[a] = 1
		for power != 1 {
			power = r.product(power, a)
			orders[a]++
		}
	}
	return orders
}

func leastOf(orders []int, k int) int {
	for a, order := range orders {
		if order == k {
			return a
		}
	}
	return -1
}

// P3.3: the solutions of x^k = 1 are the k powers of Root, the smaller ones of which have lower exponents with the power 1.
func TestRootsAreSolutions(t *testing.T) {
	t.Parallel()
	for _, f := range append(smallFields(64), largeFields()...) {
		for k := 1; k < size(f); k++ {
			if (size(f)-1)%k != 0 {
				continue
			}
			root, e := Root(f, k)
			if e != api.OK {
				t.Fatalf("%v: Root for %d: %v", f, k, e)
			}
			checkSolutions(t, f, k, root)
		}
	}
}

func checkSolutions(t *testing.T, f api.Field, k, root int) {
	t.Helper()
	// The exponents are kept with 1 added.
	exponents := make([]int, size(f))
	power := 1
	for j := range k {
		if exponents[power] > 0 {
			t.Fatalf("%v: the %d-th power of the root %d for %d is a lower one", f, j, root, k)
		}
		exponents[power] = j + 1
		power = times(t, f, power, root)
	}
	want(t, "power of Root", f, power, api.OK, 1)
	count := 0
	for a := range size(f) {
		if raised(t, f, a, k) == 1 {
			count++
			if exponents[a] == 0 {
				t.Fatalf("%v: %d is a solution for %d and no power of %d", f, a, k, root)
			}
			if a < root && !haveDivisor(exponents[a]-1, k) {
				t.Fatalf("%v: Root for %d is %d, not %d", f, k, root, a)
			}
		}
	}
	if count != k {
		t.Fatalf("%v: %d solutions for %d", f, count, k)
	}
}

// haveDivisor reports whether both numbers have a divisor greater than 1: a power of a root is then 1 at an exponent less than k.
func haveDivisor(a, k int) bool {
	for d := 2; d <= k; d++ {
		if a%d == 0 && k%d == 0 {
			return true
		}
	}
	return false
}

// P3.4: Sum is the sum of the powers of the powers of Root, which is k ones if k divides e, and 0 otherwise.
func TestSum(t *testing.T) {
	t.Parallel()
	for _, f := range smallFields(64) {
		for k := 1; k < size(f); k++ {
			if (size(f)-1)%k != 0 {
				continue
			}
			for e := range 3*k + 2 {
				checkSum(t, f, k, e)
			}
		}
	}
	for _, f := range largeFields() {
		for _, k := range []int{1, 2, 3, 5, 7, 15, 17, 85, 127} {
			if (size(f)-1)%k == 0 {
				for _, e := range []int{0, 1, k - 1, k, k + 1, 2 * k, 1 << 40, math.MaxInt, math.MaxInt / k * k} {
					checkSum(t, f, k, e)
				}
			}
		}
		checkSum(t, f, size(f)-1, size(f)-1)
		checkSum(t, f, size(f)-1, size(f))
	}
}

func checkSum(t *testing.T, f api.Field, k, e int) {
	t.Helper()
	root, _ := Root(f, k)
	total := 0
	power := 1
	ones := 0
	for range k {
		total = sum(t, f, total, raised(t, f, power, e))
		power = times(t, f, power, root)
		ones = sum(t, f, ones, 1)
	}
	if e%k != 0 {
		ones = 0
	}
	if total != ones {
		t.Fatalf("%v: the sum for %d and %d is %d, want %d", f, k, e, total, ones)
	}
	x, fault := Sum(f, k, e)
	want(t, "Sum", f, x, fault, ones)
}

func TestRootErrors(t *testing.T) {
	for _, f := range append(smallFields(16), largeFields()...) {
		for _, k := range []int{0, -1, -size(f) + 1, math.MinInt} {
			x, e := Root(f, k)
			wantError(t, "Root", f, x, e, api.ErrArg)
			x, e = Sum(f, k, 1)
			wantError(t, "Sum", f, x, e, api.ErrArg)
			x, e = Sum(f, k, -1)
			wantError(t, "Sum", f, x, e, api.ErrArg)
		}
		for _, k := range []int{size(f), size(f) + 1, 2 * (size(f) - 1), math.MaxInt} {
			if (size(f)-1)%k == 0 {
				continue
			}
			x, e := Root(f, k)
			wantError(t, "Root", f, x, e, api.ErrNone)
			x, e = Sum(f, k, 0)
			wantError(t, "Sum", f, x, e, api.ErrNone)
			// The exponent is an argument that does not fit, which is found before the lack of a root.
			x, e = Sum(f, k, -1)
			wantError(t, "Sum", f, x, e, api.ErrArg)
		}
		for _, e := range []int{-1, -2, math.MinInt} {
			x, fault := Sum(f, 1, e)
			wantError(t, "Sum", f, x, fault, api.ErrArg)
		}
	}
}
