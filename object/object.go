// Package object makes objects: what they hold, and the ids by which they are
// known.
package object

import (
	"strconv"
	"strings"

	"braid/api"
	"braid/sum"
)

const hexDigits = "0123456789abcdef"

// kindWords stand ahead of the content in the sum.
var kindWords = [...]string{api.Blob: "blob", api.Tree: "tree", api.Commit: "commit", api.Tag: "tag"}

// Object is what all objects have. A blob has nothing more.
type Object struct {
	Kind    int
	Content string
	Id      string
}

// Maker makes objects. It holds the sums' constants, so that they are worked
// out once for many objects.
type Maker struct {
	constants sum.Constants
}

// NewMaker makes one.
func NewMaker() *Maker {
	return &Maker{constants: sum.NewConstants()}
}

// Blob makes a blob.
func (m *Maker) Blob(data string) Object {
	return m.object(api.Blob, data)
}

func (m *Maker) object(kind int, content string) Object {
	text := kindWords[kind] + " " + strconv.Itoa(len(content)) + "\x00" + content
	return Object{Kind: kind, Content: content, Id: idOf(m.constants.Of(text))}
}

func idOf(bytes [sum.Size]byte) string {
	var id strings.Builder
	for _, b := range bytes {
		id.WriteByte(hexDigits[b>>4])
		id.WriteByte(hexDigits[b&15])
	}
	return id.String()
}

// sumOf gives the bytes that an id stands for.
func sumOf(id string) []byte {
	var all []byte
	for i := 0; i+1 < len(id); i += 2 {
		high := strings.IndexByte(hexDigits, id[i])
		low := strings.IndexByte(hexDigits, id[i+1])
		all = append(all, byte(high<<4|low))
	}
	return all
}
