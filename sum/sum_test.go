package sum

import (
	"crypto/sha256"
	"math/big"
	"math/rand"
	"os"
	"path/filepath"
	"strings"
	"testing"
)

func hold(t *testing.T, text string) {
	t.Helper()
	c := AtStart()
	if got, want := c.Of(text), sha256.Sum256([]byte(text)); got != want {
		t.Errorf("Of(%d bytes: %.40q) = %x, want %x", len(text), text, got, want)
	}
}

// TestConstants: what FIPS 180-4 writes out (5.3.3, 4.2.2), whether it was
// worked out when the program started or just now.
func TestConstants(t *testing.T) {
	want := [8]uint32{0x6a09e667, 0xbb67ae85, 0x3c6ef372, 0xa54ff53a, 0x510e527f, 0x9b05688c, 0x1f83d9ab, 0x5be0cd19}
	c := NewConstants()
	if c.first != want {
		t.Errorf("first = %x, want %x", c.first, want)
	}
	for i, want := range map[int]uint32{0: 0x428a2f98, 1: 0x71374491, 15: 0xc19bf174, 16: 0xe49b69c1, 47: 0x106aa070, 62: 0xbef9a3f7, 63: 0xc67178f2} {
		if c.added[i] != want {
			t.Errorf("added[%d] = %x, want %x", i, c.added[i], want)
		}
	}
	if AtStart() != c {
		t.Errorf("AtStart = %x, want %x", AtStart(), c)
	}
}

// TestVariablesStandBeside: only AtStart asks for what was worked out when the
// program started: other constants are not touched by it.
func TestVariablesStandBeside(t *testing.T) {
	c := NewConstants()
	defer func() { start, rounds = c.first, c.added }()
	start, rounds = [8]uint32{}, [64]uint32{}
	if AtStart() != (Constants{}) {
		t.Error("AtStart does not give the variables")
	}
	if NewConstants() != c || c.Of("abc") != sha256.Sum256([]byte("abc")) {
		t.Error("sums hang on the variables")
	}
}

// TestNobodyAsksAtStart: the program's other packages take constants that were
// worked out by the function.
func TestNobodyAsksAtStart(t *testing.T) {
	all, err := filepath.Glob("../*/*.go")
	if err != nil || len(all) < 10 {
		t.Fatalf("the program's files: %v, %v", all, err)
	}
	for _, path := range all {
		text, err := os.ReadFile(path)
		if err != nil {
			t.Fatal(err)
		}
		if !strings.HasSuffix(path, "_test.go") && strings.Contains(string(text), "sum.AtStart") {
			t.Errorf("%s asks for the constants of the program's start", path)
		}
	}
}

func TestPrimes(t *testing.T) {
	got := primes(64)
	if len(got) != 64 || got[0] != 2 || got[1] != 3 || got[4] != 11 || got[63] != 311 {
		t.Errorf("primes(64) = %v", got)
	}
}

// TestFraction: whole roots have nothing behind the point.
func TestFraction(t *testing.T) {
	if fraction(4, 2) != 0 || fraction(289, 2) != 0 || fraction(27, 3) != 0 || fraction(8, 3) != 0 {
		t.Error("a whole root has something behind the point")
	}
	if got := fraction(2, 2); got != 0x6a09e667 {
		t.Errorf("fraction(2, 2) = %x", got)
	}
}

// TestPower: all roots that fraction tries, held against great numbers.
func TestPower(t *testing.T) {
	for _, n := range []uint64{0, 1, 2, 3, 1<<32 - 1, 1 << 32, 1<<32 + 1, 28926838785, 1<<36 + 12345, 1<<37 - 1} {
		for _, degree := range []int{2, 3} {
			high, low := power(n, degree)
			got := new(big.Int).Add(new(big.Int).Lsh(new(big.Int).SetUint64(high), 64), new(big.Int).SetUint64(low))
			want := new(big.Int).Exp(new(big.Int).SetUint64(n), big.NewInt(int64(degree)), nil)
			if got.Cmp(want) != 0 {
				t.Errorf("power(%d, %d) = %d, want %d", n, degree, got, want)
			}
		}
	}
}

// TestLengths: each way in which a text can end in its last block.
func TestLengths(t *testing.T) {
	for size := range 300 {
		hold(t, strings.Repeat("\x00", size))
		hold(t, strings.Repeat("\xff", size))
		hold(t, strings.Repeat("a", size))
	}
	hold(t, strings.Repeat("a", 1000000))
}

func TestRandomTexts(t *testing.T) {
	r := rand.New(rand.NewSource(1))
	for range 2000 {
		b := make([]byte, r.Intn(600))
		r.Read(b)
		hold(t, string(b))
	}
}

// TestAgain: a sum leaves nothing behind for the next one.
func TestAgain(t *testing.T) {
	c := NewConstants()
	before := c
	first := c.Of("abc")
	c.Of(strings.Repeat("x", 500))
	if c.Of("abc") != first || c != before {
		t.Error("the same text has another sum")
	}
}
