// Package oid is layer 2, the names of objects: see shared/doc/02-oid.md.
package oid

import (
	"bytes"
	"math/bits"
	"strings"

	"caravan/api"
	"caravan/hash"
)

// The kinds of objects.
const (
	Chunk = 1
	Node  = 2
	Path  = 3
	Peer  = 4
)

const (
	mark      = "crv" // what the bytes under every name begin with
	alphabet  = "0123456789abcdfghijklmnpqrsvwxyz"
	charBits  = 5
	textLen   = 52
	spareBits = 4 // what the last character has beyond the name
)

// Of returns the name of the object of a kind that consists of the parts, one after the other.
func Of(kind int, parts ...string) api.ID {
	length := uint32(0)
	for _, part := range parts {
		length += uint32(len(part))
	}
	head := []byte{byte(kind), byte(length >> 24), byte(length >> 16), byte(length >> 8), byte(length)}
	return hash.New().Write(mark, string(head)).Write(parts...).Sum()
}

// Compare compares two names as numbers: -1, 0 or 1.
func Compare(a, b api.ID) int {
	return bytes.Compare(a[:], b[:])
}

// Xor returns the distance of two names.
func Xor(a, b api.ID) api.ID {
	for i := range a {
		a[i] ^= b[i]
	}
	return a
}

// Closer reports whether a is nearer to goal than b.
func Closer(goal, a, b api.ID) bool {
	return Compare(Xor(goal, a), Xor(goal, b)) < 0
}

// Shared returns the length of the common prefix of two names in bits.
func Shared(a, b api.ID) int {
	for i := range a {
		if a[i] != b[i] {
			return 8*i + bits.LeadingZeros8(a[i]^b[i])
		}
	}
	return 8 * len(a)
}

// Text returns the text form of a name.
func Text(a api.ID) string {
	text := make([]byte, 0, textLen)
	// Only the lowest bits of held, count of them, have no character yet.
	held, count := uint32(0), 0
	for _, x := range a {
		held, count = held<<8|uint32(x), count+8
		for count >= charBits {
			count -= charBits
			text = append(text, alphabet[held>>count&31])
		}
	}
	return string(append(text, alphabet[held<<spareBits&31]))
}

// Parse inverts Text; ErrForm if s is not the text form of a name.
func Parse(s string) (api.ID, api.Errno) {
	if len(s) != textLen {
		return api.ID{}, api.ErrForm
	}
	var a api.ID
	next := 0
	// Only the lowest bits of held, count of them, are in no byte yet.
	held, count := uint32(0), 0
	for i := range len(s) {
		value := strings.IndexByte(alphabet, s[i])
		if value < 0 {
			return api.ID{}, api.ErrForm
		}
		held, count = held<<charBits|uint32(value), count+charBits
		if count >= 8 {
			count -= 8
			a[next] = byte(held >> count)
			next++
		}
	}
	if held&(1<<spareBits-1) != 0 {
		return api.ID{}, api.ErrForm
	}
	return a, api.OK
}

// Bytes returns the bytes of a name.
func Bytes(a api.ID) string {
	return string(a[:])
}

// Take inverts Bytes; ErrForm if s does not have the length of a name.
func Take(s string) (api.ID, api.Errno) {
	var a api.ID
	if len(s) != len(a) {
		return api.ID{}, api.ErrForm
	}
	copy(a[:], s)
	return a, api.OK
}
