package field

// maxDegree is the greatest degree of a modulus: 2 to the power of it is MaxField.
const maxDegree = 16

// moduli has, for each degree from 2 on, the least irreducible polynomial over the field of two elements.
// To find it anew would take each multiplication too long.
var moduli = [maxDegree + 1]int{
	2: 7, 11, 19, 37, 67, 131, 283, 515, 1033, 2053, 4105, 8219, 16417, 32771, 65579,
}

// smallPrimes are the primes up to the root of MaxField. Every function begins with the question
// whether a number is prime, and with other divisors its answer would take more than twice as long.
var smallPrimes = []uint32{
	2, 3, 5, 7, 11, 13, 17, 19, 23, 29, 31, 37, 41, 43, 47, 53, 59, 61,
	67, 71, 73, 79, 83, 89, 97, 101, 103, 107, 109, 113, 127, 131, 137, 139, 149, 151,
	157, 163, 167, 173, 179, 181, 191, 193, 197, 199, 211, 223, 227, 229, 233, 239, 241, 251,
}

// isPrime reports whether n, which is from 2 to MaxField, is a prime number.
func isPrime(n int) bool {
	number := uint32(n)
	for _, p := range smallPrimes {
		if p*p > number {
			break
		}
		if number%p == 0 {
			return false
		}
	}
	return true
}
