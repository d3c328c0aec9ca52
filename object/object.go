// Package object makes objects: what they hold, and the ids by which they are
// known.
package object

import (
	"strconv"
	"strings"

	"braid/api"
	"braid/sum"
)

const hexDigits = "0123456789abcdef"

// kindWords stand ahead of the content in the sum.
var kindWords = [...]string{api.Blob: "blob", api.Tree: "tree", api.Commit: "commit", api.Tag: "tag"}

// Object is what all objects have. A blob has nothing more.
type Object struct {
	Kind    int
	Content string
	Id      string
}

// NewBlob makes a blob.
func NewBlob(data string) Object {
	return newObject(api.Blob, data)
}

func newObject(kind int, content string) Object {
	text := kindWords[kind] + " " + strconv.Itoa(len(content)) + "\x00" + content
	return Object{Kind: kind, Content: content, Id: idOf(sum.Of(text))}
}

func idOf(bytes [sum.Size]byte) string {
	var id strings.Builder
	for _, b := range bytes {
		id.WriteByte(hexDigits[b>>4])
		id.WriteByte(hexDigits[b&15])
	}
	return id.String()
}

// sumOf gives the bytes that an id stands for.
func sumOf(id string) []byte {
	var all []byte
	for i := 0; i+1 < len(id); i += 2 {
		high := strings.IndexByte(hexDigits, id[i])
		low := strings.IndexByte(hexDigits, id[i+1])
		all = append(all, byte(high<<4|low))
	}
	return all
}
