package sum

import (
	"crypto/sha256"
	"math/rand"
	"strings"
	"testing"
)

func hold(t *testing.T, text string) {
	t.Helper()
	if got, want := Of(text), sha256.Sum256([]byte(text)); got != want {
		t.Errorf("Of(%d bytes: %.40q) = %x, want %x", len(text), text, got, want)
	}
}

// TestConstants: what FIPS 180-4 writes out (5.3.3, 4.2.2).
func TestConstants(t *testing.T) {
	want := [8]uint32{0x6a09e667, 0xbb67ae85, 0x3c6ef372, 0xa54ff53a, 0x510e527f, 0x9b05688c, 0x1f83d9ab, 0x5be0cd19}
	if start != want {
		t.Errorf("start = %x, want %x", start, want)
	}
	for i, want := range map[int]uint32{0: 0x428a2f98, 1: 0x71374491, 15: 0xc19bf174, 16: 0xe49b69c1, 47: 0x106aa070, 62: 0xbef9a3f7, 63: 0xc67178f2} {
		if rounds[i] != want {
			t.Errorf("rounds[%d] = %x, want %x", i, rounds[i], want)
		}
	}
}

func TestPrimes(t *testing.T) {
	got := primes(64)
	if len(got) != 64 || got[0] != 2 || got[1] != 3 || got[4] != 11 || got[63] != 311 {
		t.Errorf("primes(64) = %v", got)
	}
}

// TestFraction: whole roots have nothing behind the point.
func TestFraction(t *testing.T) {
	if fraction(4, 2) != 0 || fraction(289, 2) != 0 || fraction(27, 3) != 0 || fraction(8, 3) != 0 {
		t.Error("a whole root has something behind the point")
	}
	if got := fraction(2, 2); got != 0x6a09e667 {
		t.Errorf("fraction(2, 2) = %x", got)
	}
}

// TestLengths: each way in which a text can end in its last block.
func TestLengths(t *testing.T) {
	for size := range 300 {
		hold(t, strings.Repeat("\x00", size))
		hold(t, strings.Repeat("\xff", size))
		hold(t, strings.Repeat("a", size))
	}
	hold(t, strings.Repeat("a", 1000000))
}

func TestRandomTexts(t *testing.T) {
	r := rand.New(rand.NewSource(1))
	for range 2000 {
		b := make([]byte, r.Intn(600))
		r.Read(b)
		hold(t, string(b))
	}
}

// TestAgain: a sum leaves nothing behind for the next one.
func TestAgain(t *testing.T) {
	first := Of("abc")
	Of(strings.Repeat("x", 500))
	if Of("abc") != first {
		t.Error("the same text has another sum")
	}
}
