package oid

import (
	"crypto/sha256"
	"encoding/binary"
	"math"
	"math/big"
	"math/rand"
	"strings"
	"testing"

	"caravan/api"
)

// The signatures that the chapter lists: a name is an array, and the name of an object takes a variable number of parts.
var (
	_ func(int, ...string) api.ID      = Of
	_ func(a, b api.ID) int            = Compare
	_ func(a, b api.ID) api.ID         = Xor
	_ func(goal, a, b api.ID) bool     = Closer
	_ func(a, b api.ID) int            = Shared
	_ func(api.ID) string              = Text
	_ func(string) (api.ID, api.Errno) = Parse
	_ func(api.ID) string              = Bytes
	_ func(string) (api.ID, api.Errno) = Take
	_                                  = [32]byte(api.ID{})
)

// defined computes a name as the chapter defines it.
func defined(kind byte, object string) api.ID {
	b := append([]byte("crv"), kind)
	b = binary.BigEndian.AppendUint32(b, uint32(len(object)))
	return sha256.Sum256(append(b, object...))
}

func number(a api.ID) *big.Int {
	return new(big.Int).SetBytes(a[:])
}

// filled is the name of 32 equal bytes.
func filled(x byte) api.ID {
	var a api.ID
	for i := range a {
		a[i] = x
	}
	return a
}

// bit is the name whose only bit is the i-th one.
func bit(i int) api.ID {
	var a api.ID
	a[i/8] = 0x80 >> (i % 8)
	return a
}

// names are edge cases and some names without any pattern.
func names() []api.ID {
	list := []api.ID{{}, filled(0xff), filled(0x80), filled(1), {1}, {0, 1}, {0x7f, 0xff}, {0x80}, {0x81}, bit(254), bit(255)}
	source := rand.New(rand.NewSource(2))
	for range 12 {
		var a api.ID
		source.Read(a[:])
		near := a
		near[source.Intn(32)] ^= 1 << source.Intn(8)
		list = append(list, a, near)
	}
	return list
}

func TestKinds(t *testing.T) {
	if Chunk != 1 || Node != 2 || Path != 3 || Peer != 4 {
		t.Error("a kind has a wrong number")
	}
}

func TestOf(t *testing.T) {
	for _, kind := range []int{Chunk, Node, Path, Peer, 0, 255} {
		for _, n := range []int{0, 1, 5, 47, 48, 55, 56, 64, 255, 256, 257, 65535, 65536, 70000} {
			object := strings.Repeat("x\x00\xff", n/3+1)[:n]
			if Of(kind, object) != defined(byte(kind), object) {
				t.Errorf("kind %d, %d bytes", kind, n)
			}
		}
	}
	if long := strings.Repeat("abcd", 1<<22+1); Of(Chunk, long) != defined(Chunk, long) {
		t.Error("a length of four bytes")
	}
}

func TestOfKindsLowestBits(t *testing.T) {
	for _, kind := range []int{256 + Chunk, Chunk - 256, 1<<8 | Node, 0x12345600 + Path, -1, -252, math.MaxInt, math.MinInt, math.MinInt + Peer} {
		if Of(kind, "object") != defined(byte(kind), "object") {
			t.Errorf("kind %d", kind)
		}
	}
	if Of(Chunk, "a") != Of(257, "a") || Of(Peer, "a") != Of(-252, "a") {
		t.Error("higher bits of a kind count")
	}
}

func TestOfParts(t *testing.T) {
	object := "an object that is longer than one block of the digest, with the eight bytes before it"
	want := defined(Node, object)
	for i := range len(object) + 1 {
		for j := i; j <= len(object); j++ {
			if Of(Node, object[:i], object[i:j], object[j:]) != want {
				t.Fatalf("divided at %d and %d", i, j)
			}
		}
	}
	if Of(Node, strings.Split(object, "")...) != want || Of(Node, "", object, "") != want {
		t.Error("many parts, or empty ones")
	}
	nothing := defined(Node, "")
	if Of(Node) != nothing || Of(Node, nil...) != nothing || Of(Node, []string{}...) != nothing || Of(Node, "", "") != nothing {
		t.Error("no parts")
	}
	parts := []string{"a", "b", "c"}
	if Of(Chunk, parts...) != Of(Chunk, parts...) || parts[0] != "a" || parts[1] != "b" || parts[2] != "c" {
		t.Error("Of changed its parts")
	}
}

func TestDifferentObjectsHaveDifferentNames(t *testing.T) {
	objects := []string{"", "\x00", "\x00\x00", "\x00\x00\x00\x00", "\x01", "a", "ab", "ba", "abc", "crv", "crv\x01", "crv\x01\x00\x00\x00\x00", "\x00\x00\x00\x01a", "hello", "hello\x00", "Hello", strings.Repeat("a", 256), strings.Repeat("a", 65536)}
	type object struct {
		kind  int
		bytes string
	}
	seen := map[api.ID]object{}
	for kind := range 256 {
		for _, bytes := range objects {
			a := Of(kind, bytes)
			if other, ok := seen[a]; ok {
				t.Errorf("kind %d, %q has the name of kind %d, %q", kind, bytes, other.kind, other.bytes)
			}
			seen[a] = object{kind, bytes}
		}
	}
}

func TestCompare(t *testing.T) {
	for _, a := range names() {
		for _, b := range names() {
			if got, want := Compare(a, b), number(a).Cmp(number(b)); got != want {
				t.Errorf("Compare(%x, %x) = %d, want %d", a, b, got, want)
			}
		}
	}
	if Compare(api.ID{0x7f}, api.ID{0x80}) != -1 || Compare(api.ID{1}, api.ID{0, 0xff}) != 1 || Compare(bit(255), bit(255)) != 0 {
		t.Error("the most significant byte is not the first one, or bytes have a sign")
	}
}

func TestXor(t *testing.T) {
	for _, a := range names() {
		for _, b := range names() {
			if want := new(big.Int).Xor(number(a), number(b)); number(Xor(a, b)).Cmp(want) != 0 {
				t.Errorf("Xor(%x, %x)", a, b)
			}
		}
	}
}

func TestXorIsAMetric(t *testing.T) {
	list := names()
	for _, a := range list {
		for _, b := range list {
			distance := Xor(a, b)
			if (distance == api.ID{}) != (a == b) {
				t.Errorf("Xor(%x, %x) = %x", a, b, distance)
			}
			if distance != Xor(b, a) {
				t.Errorf("Xor(%x, %x) is not symmetric", a, b)
			}
			for _, c := range list {
				sum := new(big.Int).Add(number(Xor(a, c)), number(Xor(c, b)))
				if number(distance).Cmp(sum) > 0 {
					t.Errorf("from %x by %x to %x is nearer than straight", a, c, b)
				}
			}
		}
	}
}

func TestCloser(t *testing.T) {
	if !Closer(api.ID{}, bit(255), bit(254)) || Closer(api.ID{}, bit(254), bit(255)) {
		t.Error("for goal 0, 1 is closer than 2")
	}
	if !Closer(filled(0xff), filled(0xfe), filled(0)) || Closer(api.ID{0x0f}, api.ID{0x10}, api.ID{}) {
		t.Error("Closer counts another distance")
	}
	list := names()
	for _, goal := range list {
		for _, a := range list {
			if Closer(goal, a, a) {
				t.Errorf("%x is closer than itself", a)
			}
			for _, b := range list {
				toA, toB := new(big.Int).Xor(number(goal), number(a)), new(big.Int).Xor(number(goal), number(b))
				if got, want := Closer(goal, a, b), toA.Cmp(toB) < 0; got != want {
					t.Errorf("Closer(%x, %x, %x) = %v", goal, a, b, got)
				}
			}
		}
	}
}

func TestShared(t *testing.T) {
	if got := Shared(api.ID{0x80}, api.ID{0x81}); got != 7 {
		t.Errorf("80.. and 81..: %d", got)
	}
	for _, a := range names() {
		if got := Shared(a, a); got != 256 {
			t.Errorf("equal names: %d", got)
		}
		for i := range 256 {
			b := Xor(a, bit(i))
			if Shared(a, b) != i || Shared(b, a) != i {
				t.Errorf("only bit %d differs: %d, %d", i, Shared(a, b), Shared(b, a))
			}
			for j := i + 1; j < 256; j++ {
				b = Xor(b, bit(j))
			}
			if got := Shared(a, b); got != i {
				t.Errorf("bits from %d on differ: %d", i, got)
			}
		}
	}
}

// textOf writes a name, followed by four zero bits, as a number with 32 as the base.
func textOf(a api.ID) string {
	digits := new(big.Int).Lsh(number(a), 4).Text(32)
	digits = strings.Repeat("0", 52-len(digits)) + digits
	return strings.Map(func(r rune) rune {
		return rune("0123456789abcdfghijklmnpqrsvwxyz"[strings.IndexRune("0123456789abcdefghijklmnopqrstuv", r)])
	}, digits)
}

func TestText(t *testing.T) {
	list := names()
	for i := range 256 {
		list = append(list, bit(i), Xor(filled(0xff), bit(i)))
	}
	for _, a := range list {
		s := Text(a)
		if s != textOf(a) {
			t.Errorf("Text(%x) = %q, want %q", a, s, textOf(a))
		}
		if b, e := Parse(s); b != a || e != api.OK {
			t.Errorf("Parse(%q) = %x, %d", s, b, e)
		}
	}
	if s := Text(api.ID{}); s != strings.Repeat("0", 52) {
		t.Errorf("zero: %q", s)
	}
	if s := Text(filled(0xff)); s != strings.Repeat("z", 51)+"h" {
		t.Errorf("all bits: %q", s)
	}
	if s := Text(api.ID{0xf8}); s != "z"+strings.Repeat("0", 51) {
		t.Errorf("the first five bits: %q", s)
	}
	if s := Text(api.ID{0x00, 0x44, 0x32, 0x14, 0xc7, 0x42, 0x54, 0xb6, 0x35, 0xcf, 0x84, 0x65, 0x3a, 0x56, 0xd7, 0xc6, 0x75, 0xbe, 0x77, 0xdf}); s != "0123456789abcdfghijklmnpqrsvwxyz"+strings.Repeat("0", 20) {
		t.Errorf("the whole alphabet: %q", s)
	}
}

func refuses(t *testing.T, s string) {
	t.Helper()
	if a, e := Parse(s); e != api.ErrForm || a != (api.ID{}) {
		t.Errorf("Parse(%q) = %x, %d", s, a, e)
	}
}

func TestParseRefusesLengths(t *testing.T) {
	for n := range 120 {
		if n != 52 {
			refuses(t, strings.Repeat("0", n))
		}
	}
	s := Text(Of(Chunk, "hello"))
	for _, x := range []string{s[:51], s[1:], s + "0", "0" + s, s + s, s + "\n", " " + s, s + "="} {
		refuses(t, x)
	}
}

func TestParseRefusesCharacters(t *testing.T) {
	s := Text(Of(Chunk, "hello"))
	for x := range 256 {
		known := strings.IndexByte("0123456789abcdfghijklmnpqrsvwxyz", byte(x)) >= 0
		for i := range 51 {
			changed := s[:i] + string([]byte{byte(x)}) + s[i+1:]
			if !known {
				refuses(t, changed)
			} else if a, e := Parse(changed); e != api.OK || Text(a) != changed {
				t.Errorf("Parse(%q) = %x, %d", changed, a, e)
			}
		}
	}
	refuses(t, strings.ToUpper(s))
	refuses(t, strings.Repeat("é", 26))
	refuses(t, strings.Repeat("é", 52))
}

func TestParseRefusesLastBits(t *testing.T) {
	s := Text(Of(Chunk, "hello"))
	for x := range 256 {
		changed := s[:51] + string([]byte{byte(x)})
		if x != '0' && x != 'h' {
			refuses(t, changed)
		} else if a, e := Parse(changed); e != api.OK || Text(a) != changed {
			t.Errorf("Parse(%q) = %x, %d", changed, a, e)
		}
	}
}

func TestBytesAndTake(t *testing.T) {
	for _, a := range names() {
		s := Bytes(a)
		if s != string(a[:]) {
			t.Errorf("Bytes(%x) = %x", a, s)
		}
		if b, e := Take(s); b != a || e != api.OK {
			t.Errorf("Take(%x) = %x, %d", s, b, e)
		}
	}
	for n := range 100 {
		a, e := Take(strings.Repeat("\xff", n))
		if n == 32 && (a != filled(0xff) || e != api.OK) || n != 32 && (a != api.ID{} || e != api.ErrForm) {
			t.Errorf("Take of %d bytes: %x, %d", n, a, e)
		}
	}
	if a, e := Take(Text(filled(1))); a != (api.ID{}) || e != api.ErrForm {
		t.Errorf("Take of a text form: %x, %d", a, e)
	}
}

// Equal calls return equal results, whatever was called between them.
func TestCallsHaveNoMemory(t *testing.T) {
	a := Of(Path, "a", "b")
	s, b := Text(a), Bytes(a)
	for _, other := range names() {
		Parse(Text(other)[1:])
		Take(Bytes(other)[1:])
		Xor(a, other)
		Of(Path, Bytes(other))
	}
	if Of(Path, "a", "b") != a || Text(a) != s || Bytes(a) != b {
		t.Error("a result changed")
	}
}
