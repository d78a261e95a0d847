package field

import "commodatum/api"

// arithmetic computes with the elements of one field.
type arithmetic interface {
	order() int
	add(a, b int) int
	sub(a, b int) int
	mul(a, b int) int
}

// prime is a field by its order, which is a prime number.
type prime int

// binary is a field of polynomials over the field of two elements, by the degree of its modulus, which is at least 2.
type binary int

// arithmeticOf returns the arithmetic of f, or ErrForm if f is not valid.
func arithmeticOf(f api.Field) (arithmetic, api.Errno) {
	if !Valid(f) {
		return nil, api.ErrForm
	}
	if f.M == 1 {
		return prime(f.P), api.OK
	}
	return binary(f.M), api.OK
}

func (p prime) order() int { return int(p) }

func (p prime) add(a, b int) int {
	sum := a + b
	if sum >= int(p) {
		sum -= int(p)
	}
	return sum
}

func (p prime) sub(a, b int) int {
	if a >= b {
		return a - b
	}
	return a - b + int(p)
}

func (p prime) mul(a, b int) int {
	// Elements are less than 2^16, so that the product fits: it is divided faster than an int.
	return int(uint32(a) * uint32(b) % uint32(p))
}

func (m binary) order() int { return 1 << m }

func (m binary) add(a, b int) int { return a ^ b }

func (m binary) sub(a, b int) int { return a ^ b }

func (m binary) mul(a, b int) int {
	product := 0
	for ; b > 0; b >>= 1 {
		if b&1 == 1 {
			product ^= a
		}
		a <<= 1
		if a>>m == 1 {
			a ^= moduli[m]
		}
	}
	return product
}

// power returns the product of k factors a.
func power(x arithmetic, a, k int) int {
	product := 1
	for ; k > 0; k >>= 1 {
		if k&1 == 1 {
			product = x.mul(product, a)
		}
		a = x.mul(a, a)
	}
	return product
}
