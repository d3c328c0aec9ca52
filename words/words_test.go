package words

import (
	"strings"
	"testing"
)

func hold(t *testing.T, what string, is func(string) bool, right, wrong []string) {
	t.Helper()
	for _, text := range right {
		if !is(text) {
			t.Errorf("%q is a %s, but is refused", text, what)
		}
	}
	for _, text := range wrong {
		if is(text) {
			t.Errorf("%q is no %s, but is taken", text, what)
		}
	}
}

// holdBytes asks for each byte whether it may stand inside a word.
func holdBytes(t *testing.T, what string, is func(string) bool, allowed string) {
	t.Helper()
	for b := range 256 {
		text := "a" + string([]byte{byte(b)}) + "a"
		if want := strings.IndexByte(allowed, byte(b)) >= 0; is(text) != want {
			t.Errorf("%q as a %s: %t, want %t", text, what, !want, want)
		}
	}
}

const (
	small = "abcdefghijklmnopqrstuvwxyz0123456789"
	great = "ABCDEFGHIJKLMNOPQRSTUVWXYZ"
)

func TestRef(t *testing.T) {
	hold(t, "ref", IsRef,
		[]string{"a", "0", "-", "--", "a/b", "a/-/0", strings.Repeat("a", 20), "a/b/c/d/e/f/g/h/i/jk"},
		[]string{"", "/", "/a", "a/", "a//b", "//", ":1", strings.Repeat("a", 21)})
	holdBytes(t, "ref", IsRef, small+"-/")
}

func TestPath(t *testing.T) {
	part := strings.Repeat("p", 12)
	four := strings.Repeat(part+"/", 4)
	hold(t, "path", IsPath,
		[]string{"a", "a/b/c/d/e/f", part, four + "12345678", "...", ".a", "a.", "..a/.b.", "-", "_"},
		[]string{"", ".", "..", "a/.", "../a", "a/../b", "/", "/a", "a/", "a//b", part + "p", "a/" + part + "p",
			"a/b/c/d/e/f/g", four + "123456789", strings.Repeat("a/", 5000) + "a"})
	holdBytes(t, "path", IsPath, small+great+".-_/")
}

func TestName(t *testing.T) {
	hold(t, "name", IsName,
		[]string{"a", "A B", "A  B", "0", strings.Repeat("a", 20)},
		[]string{"", " ", " a", "a ", "  ", strings.Repeat("a", 21)})
	holdBytes(t, "name", IsName, small+great+" ")
}

func TestMail(t *testing.T) {
	hold(t, "mail", IsMail,
		[]string{"a", "@", ".", "-", "@@", "a@b.c", strings.Repeat("m", 20)},
		[]string{"", strings.Repeat("m", 21)})
	holdBytes(t, "mail", IsMail, small+great+".-@")
}

func TestMark(t *testing.T) {
	for text, want := range map[string]int{":1": 1, ":10": 10, ":999": 999} {
		if n, ok := Mark(text); n != want || !ok {
			t.Errorf("Mark(%q) = %d, %t", text, n, ok)
		}
	}
	for _, text := range []string{"", ":", "1", ":0", ":01", ":1000", ":-1", ":+1", "::1", ":1 ", ": 1", ":1a"} {
		if n, ok := Mark(text); n != 0 || ok {
			t.Errorf("Mark(%q) = %d, %t", text, n, ok)
		}
	}
}

func TestNumber(t *testing.T) {
	for text, want := range map[string]int64{"0": 0, "7": 7, "10": 10, "9999999999": 9999999999} {
		if n, ok := Number(text, 0, 9999999999); n != want || !ok {
			t.Errorf("Number(%q) = %d, %t", text, n, ok)
		}
	}
	// 18446744073709551617 is 1, if it wraps round 64 bits.
	for _, text := range []string{"", "00", "01", "-0", "-1", "+1", " 1", "1 ", "1_0", "0x1", "1.", "a", "/", ":", "10000000000", "18446744073709551617", strings.Repeat("9", 5000)} {
		if n, ok := Number(text, 0, 9999999999); n != 0 || ok {
			t.Errorf("Number(%q) = %d, %t", text, n, ok)
		}
	}
	for text, want := range map[string]bool{"4": false, "5": true, "8": true, "9": false} {
		if _, ok := Number(text, 5, 8); ok != want {
			t.Errorf("Number(%q, 5, 8): %t", text, ok)
		}
	}
}
