package hash

import (
	"crypto/sha256"
	"encoding/hex"
	"math/rand"
	"strings"
	"testing"
)

// The signatures that the chapter lists.
var (
	_ func() *State                  = New
	_ func(*State, ...string) *State = (*State).Write
	_ func(*State) [32]byte          = (*State).Sum
	_ func(...string) [32]byte       = Of
	_ func([32]byte) string          = Hex
)

// message returns n bytes in which every byte value comes up.
func message(n int) string {
	b := make([]byte, n)
	for i := range b {
		b[i] = byte(i*7 + i/256*13 + 1)
	}
	return string(b)
}

func TestConstants(t *testing.T) {
	if Size != 32 || Block != 64 {
		t.Errorf("Size %d, Block %d", Size, Block)
	}
}

func TestKnownDigests(t *testing.T) {
	for _, c := range []struct{ message, want string }{
		{"", "e3b0c44298fc1c149afbf4c8996fb92427ae41e4649b934ca495991b7852b855"},
		{"abc", "ba7816bf8f01cfea414140de5dae2223b00361a396177a9cb410ff61f20015ad"},
		{"abcdbcdecdefdefgefghfghighijhijkijkljklmklmnlmnomnopnopq", "248d6a61d20638b8e5c026930c3e6039a33ce45964ff2167f6ecedd419db06c1"},
		{"abcdefghbcdefghicdefghijdefghijkefghijklfghijklmghijklmnhijklmnoijklmnopjklmnopqklmnopqrlmnopqrsmnopqrstnopqrstu", "cf5b16a778af8380036ce59e7b0492370b249b11e8f07a51afac45037afee9d1"},
		{strings.Repeat("a", 1000000), "cdc76e5c9914fb9281a1c7e284d73e67f1809a48a497200e046d39ccc7112cd0"},
	} {
		if got := Hex(Of(c.message)); got != c.want {
			t.Errorf("Of(%d bytes) = %s, want %s", len(c.message), got, c.want)
		}
	}
}

// All lengths over several blocks, so also those at which the padding just fits into a block or needs one more.
func TestEveryLength(t *testing.T) {
	for n := range 5*Block + 1 {
		for _, m := range []string{message(n), strings.Repeat("\x00", n), strings.Repeat("\xff", n), strings.Repeat("\x80", n)} {
			if want := sha256.Sum256([]byte(m)); Of(m) != want {
				t.Errorf("Of(%d bytes, the first of %q) is wrong", n, m[:min(n, 1)])
			}
		}
	}
}

func TestRandomMessages(t *testing.T) {
	source := rand.New(rand.NewSource(1))
	for range 300 {
		b := make([]byte, source.Intn(3000))
		source.Read(b)
		state := New()
		for rest := b; len(rest) > 0; {
			n := source.Intn(min(len(rest), 200) + 1)
			state.Write(string(rest[:n]))
			rest = rest[n:]
		}
		want := sha256.Sum256(b)
		if state.Sum() != want || Of(string(b)) != want {
			t.Errorf("%d bytes: wrong digest", len(b))
		}
	}
}

// A message of more than 2^32 bits: the length in the padding has eight bytes.
func TestLongMessage(t *testing.T) {
	if testing.Short() {
		t.Skip("takes seconds")
	}
	part := message(1 << 20)
	state, want := New(), sha256.New()
	for range 1<<9 + 1 {
		state.Write(part)
		want.Write([]byte(part))
	}
	if got := state.Sum(); string(got[:]) != string(want.Sum(nil)) {
		t.Error("wrong digest")
	}
}

func TestDivisionIntoParts(t *testing.T) {
	for _, n := range []int{0, 1, 55, 56, 63, 64, 65, 119, 120, 127, 128, 129, 150} {
		m := message(n)
		want := sha256.Sum256([]byte(m))
		for i := range n + 1 {
			for j := i; j <= n; j++ {
				if Of(m[:i], m[i:j], m[j:]) != want {
					t.Fatalf("Of %d bytes, divided at %d and %d", n, i, j)
				}
				if New().Write(m[:i]).Write(m[i:j], m[j:]).Sum() != want {
					t.Fatalf("Write %d bytes, divided at %d and %d", n, i, j)
				}
			}
		}
	}
	m := message(1000)
	if Of(strings.Split(m, "")...) != Of(m) || Of(strings.SplitAfter(m, "\x01")...) != Of(m) {
		t.Error("many parts")
	}
}

func TestNoPartsAndEmptyParts(t *testing.T) {
	empty := sha256.Sum256(nil)
	for i, got := range [][Size]byte{
		Of(), Of([]string(nil)...), Of([]string{}...), Of(""), Of("", "", ""),
		New().Sum(), New().Write().Sum(), New().Write([]string(nil)...).Sum(), New().Write("", "").Write().Sum(),
	} {
		if got != empty {
			t.Errorf("case %d: %s", i, Hex(got))
		}
	}
	for _, n := range []int{1, 63, 64, 65} {
		m := message(n)
		if Of("", m) != Of(m) || Of(m, "") != Of(m) || New().Write(m).Write().Write("").Sum() != Of(m) {
			t.Errorf("%d bytes with empty parts", n)
		}
	}
}

func TestWriteReturnsItsState(t *testing.T) {
	state := New()
	if state.Write() != state || state.Write("a", "b") != state || state.Write(message(100)) != state {
		t.Error("Write returned another state")
	}
}

func TestWriteAfterSum(t *testing.T) {
	m := message(4 * Block)
	for _, step := range []int{1, 5, 55, 56, 64, 65} {
		state := New()
		for i := 0; i < len(m); i += step {
			end := min(i+step, len(m))
			state.Write(m[i:end])
			want := sha256.Sum256([]byte(m[:end]))
			if first, second := state.Sum(), state.Sum(); first != want || second != want {
				t.Fatalf("step %d, %d bytes: %s, then %s", step, end, Hex(first), Hex(second))
			}
		}
	}
}

func TestStatesAreIndependent(t *testing.T) {
	a, b := New(), New()
	m := message(3 * Block)
	for i := range len(m) {
		a.Write(m[i : i+1])
		b.Write(m[len(m)-1-i:len(m)-i], "x")
	}
	if a.Sum() != Of(m) || a.Sum() == b.Sum() || New().Sum() != Of() {
		t.Error("one state changed another one")
	}
}

func TestArgumentsAndResultsStayApart(t *testing.T) {
	parts := []string{"one", message(Block), "three"}
	state := New().Write(parts...)
	if parts[0] != "one" || parts[1] != message(Block) || parts[2] != "three" {
		t.Error("Write changed its parts")
	}
	want := Of("one" + message(Block) + "three")
	parts[0], parts[1], parts[2] = "", "", ""
	digest := state.Sum()
	if digest != want {
		t.Error("Write retained its parts")
	}
	digest[0]++
	if state.Sum() != want {
		t.Error("a result shares memory with the state")
	}
}

func TestHex(t *testing.T) {
	var b [Size]byte
	if got := Hex(b); got != strings.Repeat("0", 2*Size) {
		t.Errorf("zero: %q", got)
	}
	for first := 0; first < 256; first += Size {
		for i := range b {
			b[i] = byte(first + i)
		}
		if got, want := Hex(b), hex.EncodeToString(b[:]); got != want {
			t.Errorf("Hex = %q, want %q", got, want)
		}
	}
}
