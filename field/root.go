package field

import "commodatum/api"

// Root returns the least element whose powers to k and to no lower positive exponent are 1.
func Root(f api.Field, k int) (int, api.Errno) {
	x, e := fieldWithRoot(f, k)
	if e != api.OK {
		return 0, e
	}
	return leastRoot(x, k), api.OK
}

// Sum returns the sum of the e-th powers of the k powers of Root.
func Sum(f api.Field, k, e int) (int, api.Errno) {
	// An unfit exponent precedes the error that there is no root.
	if Valid(f) && e < 0 {
		return 0, api.ErrArg
	}
	if _, failure := fieldWithRoot(f, k); failure != api.OK {
		return 0, failure
	}
	// With w the e-th power of Root, the sum is that of the powers of w with exponents below k. If k divides e, then w is 1.
	// Otherwise w is not 1, and the sum is 0, because its product with w - 1 is the k-th power of w less 1.
	if e%k != 0 {
		return 0, api.OK
	}
	return k % f.P, api.OK
}

// fieldWithRoot returns the arithmetic of f, or the error of a function of the roots for k.
func fieldWithRoot(f api.Field, k int) (arithmetic, api.Errno) {
	x, e := arithmeticOf(f)
	if e != api.OK {
		return nil, e
	}
	if k < 1 {
		return nil, api.ErrArg
	}
	if (x.order()-1)%k != 0 {
		return nil, api.ErrNone
	}
	return x, api.OK
}

// leastRoot is Root for a k that divides the order less 1.
func leastRoot(x arithmetic, k int) int {
	// If one element is such a root, then these roots are its powers whose exponents have no divisor in common with k.
	one := power(x, generator(x), (x.order()-1)/k)
	least := one
	next := one
	for j := 2; j < k; j++ {
		next = x.mul(next, one)
		if next < least && commonDivisor(j, k) == 1 {
			least = next
		}
	}
	return least
}

// generator returns an element whose powers are all elements but 0. There is one in each finite field.
func generator(x arithmetic) int {
	exponents := maximalDivisors(x.order() - 1)
	a := 1
	for !generates(x, a, exponents) {
		a++
	}
	return a
}

// generates reports whether the powers of a are all elements but 0, given the maximal divisors of the number of these elements:
// the least positive exponent with the power 1 divides the number, and if it is less it divides one of them.
func generates(x arithmetic, a int, exponents []int) bool {
	for _, k := range exponents {
		if power(x, a, k) == 1 {
			return false
		}
	}
	return true
}

// maximalDivisors returns the quotients of n by its prime divisors.
func maximalDivisors(n int) []int {
	var list []int
	rest := n
	for d := 2; rest > 1; d++ {
		if rest%d != 0 {
			continue
		}
		list = append(list, n/d)
		for rest%d == 0 {
			rest /= d
		}
	}
	return list
}

// commonDivisor returns the greatest common divisor of a and b.
func commonDivisor(a, b int) int {
	for b > 0 {
		a, b = b, a%b
	}
	return a
}
