package sum

import "math/big"

// The constants of FIPS 180-4: start is of the square roots of the first
// primes, rounds of their cube roots.
var (
	start  [8]uint32
	rounds [64]uint32
)

func init() {
	for i, prime := range primes(len(rounds)) {
		if i < len(start) {
			start[i] = fraction(prime, 2)
		}
		rounds[i] = fraction(prime, 3)
	}
}

// primes gives the first n of them.
func primes(n int) []int64 {
	var found []int64
	for next := int64(2); len(found) < n; next++ {
		if !divided(next, found) {
			found = append(found, next)
		}
	}
	return found
}

func divided(n int64, by []int64) bool {
	for _, d := range by {
		if n%d == 0 {
			return true
		}
	}
	return false
}

// fraction gives the first 32 bits behind the point of a number's root. They
// are the last 32 bits of the whole root of the number times 2 to the
// 32*degree: whole numbers, since a float's last bits would be rounded.
func fraction(n int64, degree uint) uint32 {
	const topBit = 40 // above every root of the primes that are asked for
	goal := new(big.Int).Lsh(big.NewInt(n), 32*degree)
	exponent := big.NewInt(int64(degree))
	root := int64(0)
	for bit := int64(1) << topBit; bit > 0; bit >>= 1 {
		power := new(big.Int).Exp(big.NewInt(root|bit), exponent, nil)
		if power.Cmp(goal) <= 0 {
			root |= bit
		}
	}
	return uint32(root)
}
