package sum

import "math/bits"

const (
	startWords = 8
	roundWords = 64
)

// The constants of FIPS 180-4, as they were worked out when the program
// started. Only AtStart asks for them: the sums of the store are of constants
// that a function gave, and hang on no variable.
var (
	start  [startWords]uint32
	rounds [roundWords]uint32
)

func init() {
	c := NewConstants()
	start = c.first
	rounds = c.added
}

// Constants are the state that a sum begins with, and what each of its rounds
// adds to it.
type Constants struct {
	first [startWords]uint32
	added [roundWords]uint32
}

// AtStart gives the constants that were worked out when the program started.
func AtStart() Constants {
	return Constants{first: start, added: rounds}
}

// NewConstants works the constants out: the first state is of the square roots
// of the first primes, what is added of their cube roots. Who makes many sums
// asks once, and takes the same constants for all of them.
func NewConstants() Constants {
	var c Constants
	for i, prime := range primes(roundWords) {
		if i < startWords {
			c.first[i] = fraction(prime, 2)
		}
		c.added[i] = fraction(prime, 3)
	}
	return c
}

// primes gives the first n of them.
func primes(n int) []uint64 {
	var found []uint64
	for next := uint64(2); len(found) < n; next++ {
		if !divided(next, found) {
			found = append(found, next)
		}
	}
	return found
}

func divided(n uint64, by []uint64) bool {
	for _, d := range by {
		if n%d == 0 {
			return true
		}
	}
	return false
}

// fraction gives the first 32 bits behind the point of a number's square root
// (degree 2) or cube root (3). They are the last 32 bits of the whole root of
// the number times 2 to the 32*degree: whole numbers, since a float's last bits
// would be rounded.
func fraction(n uint64, degree int) uint32 {
	const topBit = 36             // above it no root of the primes has a bit
	goal := n << (32*degree - 64) // its upper word: the lower one is 0
	root := uint64(0)
	for bit := uint64(1) << topBit; bit > 0; bit >>= 1 {
		high, low := power(root|bit, degree)
		if high < goal || high == goal && low == 0 {
			root |= bit
		}
	}
	return uint32(root)
}

// power gives the two words of a number that was multiplied with itself.
func power(n uint64, degree int) (high, low uint64) {
	low = 1
	for range degree {
		over, product := bits.Mul64(low, n)
		high, low = high*n+over, product
	}
	return high, low
}
