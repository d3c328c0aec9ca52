// Package words tells which texts are refs, paths, names, mails, marks and
// numbers, as a stream writes them.
package words

import (
	"strings"

	"braid/api"
)

const (
	lower  = "abcdefghijklmnopqrstuvwxyz"
	upper  = "ABCDEFGHIJKLMNOPQRSTUVWXYZ"
	digits = "0123456789"

	refBytes  = lower + digits + "-/"
	partBytes = lower + upper + digits + ".-_"
	nameBytes = lower + upper + digits + " "
	mailBytes = lower + upper + digits + ".-@"

	// A number of more digits could wrap round an int64, and is above every
	// bound anyway.
	mostDigits = 18
)

// IsRef tells whether a text is a ref.
func IsRef(text string) bool {
	return madeOf(text, refBytes, api.MaxRef) &&
		!hasAtEnds(text, '/') &&
		!strings.Contains(text, "//")
}

// IsPath tells whether a text is a path.
func IsPath(text string) bool {
	if len(text) > api.MaxPath {
		return false
	}
	parts := strings.Split(text, "/")
	for _, part := range parts {
		if !isPart(part) {
			return false
		}
	}
	return len(parts) <= api.MaxParts
}

func isPart(text string) bool {
	return madeOf(text, partBytes, api.MaxPart) && text != "." && text != ".."
}

// IsName tells whether a text is an author's name.
func IsName(text string) bool {
	return madeOf(text, nameBytes, api.MaxName) && !hasAtEnds(text, ' ')
}

// IsMail tells whether a text is an author's mail.
func IsMail(text string) bool {
	return madeOf(text, mailBytes, api.MaxName)
}

// Mark reads a mark as it is named: a colon and its number.
func Mark(text string) (int, bool) {
	after, ok := strings.CutPrefix(text, ":")
	if !ok {
		return 0, false
	}
	n, ok := Number(after, 1, api.MaxMark)
	return int(n), ok
}

// Number reads a number from low to high.
func Number(text string, low, high int64) (int64, bool) {
	if !madeOf(text, digits, mostDigits) || text[0] == '0' && len(text) > 1 {
		return 0, false
	}
	n := int64(0)
	for i := range len(text) {
		n = n*10 + int64(text[i]-'0')
	}
	if n < low || n > high {
		return 0, false
	}
	return n, true
}

// madeOf tells whether a text is 1 to most of the bytes of a set.
func madeOf(text, set string, most int) bool {
	if text == "" || len(text) > most {
		return false
	}
	for i := range len(text) {
		if strings.IndexByte(set, text[i]) < 0 {
			return false
		}
	}
	return true
}

func hasAtEnds(text string, b byte) bool {
	return text[0] == b || text[len(text)-1] == b
}
