// Package journal keeps streams one behind the other, in bytes that only grow.
package journal

import (
	"slices"
	"strconv"
	"strings"

	"braid/api"
	"braid/sum"
	"braid/words"
)

// Journal is its bytes. Each stream is an entry in them: how many bytes it
// has, ended by the byte 10; the stream; a seal.
type Journal struct {
	bytes []byte
}

// Add adds a stream.
func (j *Journal) Add(stream string) {
	constants := sum.NewConstants()
	seal := sealOf(&constants, j.lastSeal(), stream)
	j.bytes = append(j.bytes, strconv.Itoa(len(stream))+"\n"+stream+seal...)
}

// Bytes gives a copy of the bytes.
func (j *Journal) Bytes() []byte {
	return slices.Clone(j.bytes)
}

func (j *Journal) lastSeal() string {
	if len(j.bytes) == 0 {
		return ""
	}
	return string(j.bytes[len(j.bytes)-sum.Size:])
}

// sealOf gives the sum of a stream and of the seal ahead of it, so that no
// entry can be altered, left out or moved and go unseen.
func sealOf(constants *sum.Constants, last, stream string) string {
	seal := constants.Of(last + stream)
	return string(seal[:])
}

// entry is what the bytes hold of one stream. One that is cut off is empty.
type entry struct {
	stream, seal string
}

// Read gives the streams whose entries are whole in the first bytes of a
// journal, however many. Other bytes are ErrStore, as far as that can be seen.
func Read(b []byte) ([]string, api.Errno) {
	constants := sum.NewConstants()
	var streams []string
	last := ""
	for rest := string(b); rest != ""; {
		next, behind, ok := cutEntry(rest)
		if !ok {
			return nil, api.ErrStore
		}
		if next == (entry{}) {
			break
		}
		if next.seal != sealOf(&constants, last, next.stream) {
			return nil, api.ErrStore
		}
		streams = append(streams, next.stream)
		rest, last = behind, next.seal
	}
	return streams, api.OK
}

// cutEntry takes the first entry off. The first digits of a number are a
// number too: one that is cut off needs no other look.
func cutEntry(text string) (entry, string, bool) {
	line, behind, ended := strings.Cut(text, "\n")
	size, ok := words.Number(line, 1, api.MaxStream)
	if !ok {
		return entry{}, "", false
	}
	end := int(size) + sum.Size
	if !ended || len(behind) < end {
		return entry{}, "", true
	}
	return entry{stream: behind[:size], seal: behind[size:end]}, behind[end:], true
}
