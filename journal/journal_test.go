package journal

import (
	"bytes"
	"crypto/sha256"
	"slices"
	"strings"
	"testing"

	"braid/api"
)

// some: streams as a journal takes them; their form is nothing to it.
func some() []string {
	return []string{"done\n", "x", "5\ndone\n", strings.Repeat("\n", 40), strings.Repeat("7", api.MaxStream), "\x00\xff\n", "x", "x"}
}

// filled: a journal of streams, and the lengths that it had ahead of each.
func filled(streams []string) (*Journal, []int) {
	j := &Journal{}
	var ends []int
	for _, stream := range streams {
		ends = append(ends, len(j.bytes))
		j.Add(stream)
	}
	return j, append(ends, len(j.bytes))
}

func holdRead(t *testing.T, b []byte, streams []string, err api.Errno) {
	t.Helper()
	if got, gotErr := Read(b); !slices.Equal(got, streams) || gotErr != err {
		t.Errorf("Read(%d bytes: %.60q) = %.60q, %d, want %.60q, %d", len(b), b, got, gotErr, streams, err)
	}
}

// TestForm: the bytes of an entry.
func TestForm(t *testing.T) {
	j := &Journal{}
	if len(j.Bytes()) != 0 {
		t.Errorf("an empty journal is %q", j.Bytes())
	}
	j.Add("done\n")
	first := sha256.Sum256([]byte("done\n"))
	want := "5\ndone\n" + string(first[:])
	if got := string(j.Bytes()); got != want {
		t.Errorf("the journal is %q, want %q", got, want)
	}
	j.Add("x")
	second := sha256.Sum256([]byte(string(first[:]) + "x"))
	want += "1\nx" + string(second[:])
	if got := string(j.Bytes()); got != want {
		t.Errorf("the journal is %q, want %q", got, want)
	}
}

// TestBeginnings: as many streams as are whole.
func TestBeginnings(t *testing.T) {
	j, ends := filled(some())
	for n := range len(j.bytes) + 1 {
		whole := 0
		for whole+1 < len(ends) && ends[whole+1] <= n {
			whole++
		}
		holdRead(t, j.bytes[:n:n], some()[:whole], api.OK)
	}
}

// TestAltered: what is altered is seen, or taken for an end that is cut off.
func TestAltered(t *testing.T) {
	streams := []string{"done\n", "reset a\n\ndone\n", "x"}
	j, ends := filled(streams)
	for i := range j.bytes {
		for _, d := range []byte{1, 2, 4, 8, 16, 32, 64, 128, 255} {
			b := j.Bytes()
			b[i] ^= d
			whole := 0
			for ends[whole+1] <= i {
				whole++
			}
			got, err := Read(b)
			if err == api.OK && !slices.Equal(got, streams[:whole]) || err == api.ErrStore && got != nil {
				t.Errorf("Read with the byte %d altered by %d = %q, %d", i, d, got, err)
			}
			if err != api.OK && err != api.ErrStore {
				t.Errorf("Read with the byte %d altered by %d: %d", i, d, err)
			}
		}
	}
}

// TestMoved: entries that are whole, but not where they were.
func TestMoved(t *testing.T) {
	j, ends := filled([]string{"a", "b", "b", "c"})
	var entries []string
	for i := range 4 {
		entries = append(entries, string(j.bytes[ends[i]:ends[i+1]]))
	}
	for _, order := range [][]int{{1}, {1, 0}, {0, 0}, {0, 2}, {0, 1, 1}, {0, 1, 3}, {0, 2, 1, 3}, {0, 1, 2, 3, 3}} {
		text := ""
		for _, i := range order {
			text += entries[i]
		}
		holdRead(t, []byte(text), nil, api.ErrStore)
	}
}

func TestOtherBytes(t *testing.T) {
	seal := strings.Repeat("s", 32)
	for _, text := range []string{
		"\n", "x", "-1\n", "+1\nx" + seal, "0", "0\n" + seal, "01\nx", "1 \nx", "1\r\nx", " 1", "8001", "8001\n", "80000", "99999999999999999999\n",
		"18446744073709551617\nx", "\x00", "\xff\xff", "1\nx" + seal, "1\nx" + seal + "1", "\x31\x00",
	} {
		holdRead(t, []byte(text), nil, api.ErrStore)
	}
	for _, text := range []string{"", "1", "8000", "8000\n", "1\n", "1\nx", "1\nx" + seal[1:]} {
		holdRead(t, []byte(text), nil, api.OK)
	}
	holdRead(t, nil, nil, api.OK)
}

// TestMemory: what goes in and out is not shared.
func TestMemory(t *testing.T) {
	j, _ := filled([]string{"a", "b"})
	first := j.Bytes()
	want := string(first)
	spoil(first)
	if string(j.Bytes()) != want {
		t.Error("the journal shares its bytes")
	}
	j.Add("c")
	b := j.Bytes()
	before := bytes.Clone(b)
	streams, _ := Read(b)
	if !bytes.Equal(b, before) {
		t.Error("Read has changed what it was given")
	}
	spoil(b)
	if !slices.Equal(streams, []string{"a", "b", "c"}) {
		t.Errorf("Read has kept what it was given: %q", streams)
	}
	if !strings.HasPrefix(string(j.Bytes()), want) {
		t.Error("the bytes do not begin with those ahead of Add")
	}
}

// spoil writes over bytes and their spare room.
func spoil(b []byte) {
	b = b[:cap(b)]
	for i := range b {
		b[i] = 99
	}
}
