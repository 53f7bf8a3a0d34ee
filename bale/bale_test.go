package bale

import (
	"bytes"
	"math"
	"math/big"
	"math/rand"
	"slices"
	"strings"
	"testing"

	"caravan/api"
)

// The signatures that the chapter lists.
var (
	_ func(uint64) string       = Num
	_ func(...int) string       = Nums
	_ func(string) string       = Str
	_ func(...string) string    = Strs
	_ func(...api.ID) string    = IDs
	_ func(string) *Bale        = Open
	_ func(*Bale) api.Errno     = (*Bale).Err
	_ func(*Bale) string        = (*Bale).Left
	_ func(*Bale, api.Errno)    = (*Bale).Fail
	_ func(*Bale) api.Errno     = (*Bale).Close
	_ func(*Bale, int) string   = (*Bale).Bytes
	_ func(*Bale) uint64        = (*Bale).Num
	_ func(*Bale, int) int      = (*Bale).Int
	_ func(*Bale, int) string   = (*Bale).Str
	_ func(*Bale) api.ID        = (*Bale).ID
	_ func(*Bale, int) []api.ID = (*Bale).IDs
)

// defined encodes a number as the chapter says it.
func defined(n uint64) string {
	digits := new(big.Int).SetUint64(n).Bytes()
	return string(rune(len(digits))) + string(digits)
}

// numbers are those about each change of length, and some without any pattern.
func numbers() []uint64 {
	list := []uint64{0, 1, 2, 300, math.MaxInt64, math.MaxUint64}
	for i := 7; i < 64; i++ {
		list = append(list, 1<<i-1, 1<<i, 1<<i+1)
	}
	source := rand.New(rand.NewSource(4))
	for i := range 200 {
		list = append(list, source.Uint64()>>(i%64))
	}
	return list
}

func names(n int) []api.ID {
	source := rand.New(rand.NewSource(5))
	list := make([]api.ID, n)
	for i := range list {
		source.Read(list[i][:])
	}
	return list
}

func raw(list ...api.ID) string {
	var b bytes.Buffer
	for _, id := range list {
		b.Write(id[:])
	}
	return b.String()
}

// failed checks that a decoder has an error and nothing else, now and after more calls.
func failed(t *testing.T, what string, b *Bale, e api.Errno) {
	t.Helper()
	for range 2 {
		if b.Err() != e || b.Left() != "" {
			t.Errorf("%q: error %d with %q left, not %d", what, b.Err(), b.Left(), e)
		}
		if s := b.Bytes(0) + b.Bytes(1) + b.Bytes(-1) + b.Str(9); s != "" {
			t.Errorf("%q: then %q", what, s)
		}
		if n := b.Num(); n != 0 || b.Int(9) != 0 || b.ID() != (api.ID{}) || b.IDs(9) != nil {
			t.Errorf("%q: then not zero", what)
		}
		b.Fail(api.ErrIdle)
		b.Fail(api.OK)
		if b.Close() != e {
			t.Errorf("%q: then closed with %d, not %d", what, b.Close(), e)
		}
	}
}

func TestExample(t *testing.T) {
	if s := Num(300); s != "\x02\x01\x2c" {
		t.Errorf("Num(300): %x", s)
	}
	b := Open("\x02\x00\x01")
	if n := b.Num(); n != 0 || b.Err() != api.ErrForm {
		t.Errorf("Num: %d, %d", n, b.Err())
	}
}

func TestNum(t *testing.T) {
	for n, want := range map[uint64]string{
		0: "\x00", 1: "\x01\x01", 255: "\x01\xff", 256: "\x02\x01\x00", 65535: "\x02\xff\xff", 65536: "\x03\x01\x00\x00",
		1 << 56: "\x08\x01\x00\x00\x00\x00\x00\x00\x00", math.MaxUint64: "\x08\xff\xff\xff\xff\xff\xff\xff\xff",
	} {
		if s := Num(n); s != want {
			t.Errorf("Num(%d): %x", n, s)
		}
	}
	for _, n := range numbers() {
		s := Num(n)
		if s != defined(n) {
			t.Errorf("Num(%d): %x", n, s)
		}
		b := Open(s + "rest")
		if m := b.Num(); m != n || b.Left() != "rest" || b.Err() != api.OK {
			t.Errorf("%d decodes to %d, %q left, %d", n, m, b.Left(), b.Err())
		}
	}
}

func TestNums(t *testing.T) {
	if s := Nums(); s != "" {
		t.Errorf("no numbers: %x", s)
	}
	if s := Nums(0, 1, -1, 300, math.MinInt, 7); s != "\x00\x01\x01\x00\x02\x01\x2c\x00\x01\x07" {
		t.Errorf("Nums: %x", s)
	}
	if s := Nums(math.MaxInt); s != Num(math.MaxInt) {
		t.Errorf("Nums: %x", s)
	}
	list := []int{5, -5}
	if Nums(list...); !slices.Equal(list, []int{5, -5}) {
		t.Errorf("the numbers became %v", list)
	}
}

func TestStrs(t *testing.T) {
	long := strings.Repeat("long", 70)
	for s, want := range map[string]string{"": "\x00", "a": "\x01\x01a", "\x00\xff": "\x01\x02\x00\xff", long: "\x02\x01\x18" + long} {
		if got := Str(s); got != want {
			t.Errorf("Str(%q): %q", s, got)
		}
	}
	if s := Strs(); s != "" {
		t.Errorf("no strings: %q", s)
	}
	if s := Strs("a", "", long, "b"); s != Str("a")+Str("")+Str(long)+Str("b") {
		t.Errorf("Strs: %q", s)
	}
	if s := Strs("alone"); s != Str("alone") {
		t.Errorf("Strs: %q", s)
	}
}

func TestEncodedIDs(t *testing.T) {
	for _, n := range []int{0, 1, 2, 8, 255, 256} {
		list := names(n)
		if s := IDs(list...); s != Num(uint64(n))+raw(list...) {
			t.Errorf("%d names: %x", n, s)
		}
	}
	if s := IDs([]api.ID(nil)...); s != "\x00" {
		t.Errorf("no names: %x", s)
	}
}

func TestBytes(t *testing.T) {
	b := Open("abcdef")
	if b.Bytes(0) != "" || b.Bytes(2) != "ab" || b.Left() != "cdef" || b.Bytes(4) != "cdef" || b.Left() != "" || b.Bytes(0) != "" || b.Err() != api.OK {
		t.Errorf("Bytes: %q left, %d", b.Left(), b.Err())
	}
	if b.Close() != api.OK {
		t.Errorf("Close: %d", b.Err())
	}
	for _, n := range []int{-1, math.MinInt, 4, math.MaxInt} {
		b := Open("abc")
		if s := b.Bytes(n); s != "" {
			t.Errorf("Bytes(%d): %q", n, s)
		}
		failed(t, "Bytes", b, api.ErrEnd)
	}
	b = Open("")
	if b.Bytes(0) != "" || b.Err() != api.OK {
		t.Errorf("no bytes of nothing: %d", b.Err())
	}
	b.Bytes(-1)
	failed(t, "Bytes(-1) of nothing", b, api.ErrEnd)
}

// malformed are encodings of no number, and why.
var malformed = []struct {
	text string
	err  api.Errno
}{
	{"", api.ErrEnd},
	{"\x01", api.ErrEnd},
	{"\x02\x01", api.ErrEnd},
	{"\x02\x00", api.ErrEnd}, // too short comes before too long a form
	{"\x08\x01\x02\x03\x04\x05\x06\x07", api.ErrEnd},
	{"\x09", api.ErrForm}, // too many are stated, whatever is left
	{"\x09\x01\x02\x03\x04\x05\x06\x07\x08\x09", api.ErrForm},
	{"\x80", api.ErrForm},
	{"\xff" + strings.Repeat("x", 300), api.ErrForm},
	{"\x01\x00", api.ErrForm},
	{"\x02\x00\x05", api.ErrForm},
	{"\x08\x00\x05\x00\x00\x00\x00\x00\x00", api.ErrForm},
	{"\x08\x00\x00\x00\x00\x00\x00\x00\x00rest", api.ErrForm},
}

func TestMalformedNumbers(t *testing.T) {
	for _, c := range malformed {
		for _, top := range []int{math.MinInt, -1, 0, 5, math.MaxInt} {
			for what, decode := range map[string]func(*Bale) bool{
				"Num": func(b *Bale) bool { return b.Num() == 0 },
				"Int": func(b *Bale) bool { return b.Int(top) == 0 },
				"Str": func(b *Bale) bool { return b.Str(top) == "" },
				"IDs": func(b *Bale) bool { return b.IDs(top) == nil },
			} {
				b := Open(c.text)
				if !decode(b) {
					t.Errorf("%s of %x: not zero", what, c.text)
				}
				failed(t, what+" of "+c.text, b, c.err)
			}
		}
	}
}

// Whatever decodes to a number is the encoding of this number: there is no other.
func TestANumberHasOneEncoding(t *testing.T) {
	check := func(s string) {
		b := Open(s)
		n := b.Num()
		if b.Err() == api.OK && Num(n)+b.Left() != s {
			t.Errorf("%x decodes to %d, whose encoding is %x", s, n, Num(n))
		}
	}
	for i := range 256 {
		for j := range 256 {
			check(string([]byte{byte(i), byte(j)}))
			check(string([]byte{2, byte(i), byte(j)}))
			check(string([]byte{3, byte(i), byte(j), 9, 9}))
			check(string([]byte{byte(i), byte(j), 1, 2, 3, 4, 5, 6, 7, 8, 9}))
		}
	}
}

func TestInt(t *testing.T) {
	for _, c := range []struct {
		n   uint64
		top int
		err api.Errno
	}{
		{0, 0, api.OK}, {0, -1, api.OK}, {0, math.MinInt, api.OK}, {0, 9, api.OK},
		{1, 0, api.ErrBig}, {1, -1, api.ErrBig}, {1, -9, api.ErrBig}, {1, 1, api.OK}, {1, math.MinInt, api.ErrBig},
		{256, 255, api.ErrBig}, {256, 256, api.OK}, {256, 257, api.OK},
		{math.MaxInt, math.MaxInt, api.OK}, {math.MaxInt, math.MaxInt - 1, api.ErrBig},
		{math.MaxInt + 1, math.MaxInt, api.ErrBig}, {math.MaxUint64, math.MaxInt, api.ErrBig}, {math.MaxUint64, -1, api.ErrBig}, {math.MaxUint64, 0, api.ErrBig},
	} {
		b := Open(Num(c.n) + "rest")
		n := b.Int(c.top)
		if c.err != api.OK {
			if n != 0 {
				t.Errorf("Int(%d) of %d: %d", c.top, c.n, n)
			}
			failed(t, "Int", b, c.err)
		} else if uint64(n) != c.n || b.Left() != "rest" || b.Err() != api.OK {
			t.Errorf("Int(%d) of %d: %d, %q left, %d", c.top, c.n, n, b.Left(), b.Err())
		}
	}
}

func TestStr(t *testing.T) {
	for _, c := range []struct {
		text string
		top  int
		want string
		left string
		err  api.Errno
	}{
		{Str("abc") + "d", 3, "abc", "d", api.OK},
		{Str("abc"), math.MaxInt, "abc", "", api.OK},
		{Str("abc"), 2, "", "", api.ErrBig},
		{Str("abc"), -3, "", "", api.ErrBig},
		{Str("") + "x", 0, "", "x", api.OK},
		{Str("") + "x", -1, "", "x", api.OK},
		{"\x01\x04abc", 9, "", "", api.ErrEnd},
		{"\x01\x04abc", 3, "", "", api.ErrBig},
		{"\x01\x01", 1, "", "", api.ErrEnd},
		{Num(math.MaxInt) + "abc", math.MaxInt, "", "", api.ErrEnd},
		{Num(math.MaxUint64) + "abc", math.MaxInt, "", "", api.ErrBig},
		{Str("\x00\xff\x80") + "\xfe", 3, "\x00\xff\x80", "\xfe", api.OK},
	} {
		b := Open(c.text)
		if s := b.Str(c.top); s != c.want || b.Left() != c.left || b.Err() != c.err {
			t.Errorf("Str(%d) of %q: %q, %q left, %d", c.top, c.text, s, b.Left(), b.Err())
		}
		if c.err != api.OK {
			failed(t, "Str", b, c.err)
		}
	}
}

func TestID(t *testing.T) {
	list := names(2)
	b := Open(raw(list...) + "x")
	if b.ID() != list[0] || b.ID() != list[1] || b.Left() != "x" || b.Err() != api.OK {
		t.Errorf("ID: %q left, %d", b.Left(), b.Err())
	}
	for n := range 32 {
		b := Open(raw(list[0])[:n])
		if b.ID() != (api.ID{}) {
			t.Errorf("%d bytes: a name", n)
		}
		failed(t, "ID", b, api.ErrEnd)
	}
}

func TestIDs(t *testing.T) {
	list := names(300)
	for _, n := range []int{0, 1, 2, 8, 255, 256, 300} {
		for _, top := range []int{n, n + 1, math.MaxInt} {
			b := Open(IDs(list[:n]...) + "x")
			if l := b.IDs(top); !slices.Equal(l, list[:n]) || b.Left() != "x" || b.Err() != api.OK {
				t.Errorf("%d names: %d, %q left, %d", n, len(l), b.Left(), b.Err())
			}
		}
	}
	for _, c := range []struct {
		text string
		top  int
		err  api.Errno
	}{
		{IDs(list[:3]...), 2, api.ErrBig},
		{IDs(list[:1]...), 0, api.ErrBig},
		{IDs(list[:1]...), -1, api.ErrBig},
		{IDs(list[:3]...)[:2+95], 3, api.ErrEnd},
		{IDs(list[:3]...)[:2+64], 3, api.ErrEnd},
		{"\x01\x01", 1, api.ErrEnd},
		{Num(math.MaxInt) + raw(list...), math.MaxInt, api.ErrEnd},
		{Num(1<<59) + raw(list[0]), math.MaxInt, api.ErrEnd}, // 32 times as many bytes are 0, if they wrap round
		{Num(1<<59+1) + raw(list[0]), math.MaxInt, api.ErrEnd},
		{Num(math.MaxUint64) + raw(list...), math.MaxInt, api.ErrBig},
		{Num(1<<40) + raw(list...), 8, api.ErrBig},
	} {
		b := Open(c.text)
		if l := b.IDs(c.top); l != nil {
			t.Errorf("IDs(%d): %d names", c.top, len(l))
		}
		failed(t, "IDs", b, c.err)
	}
	b := Open(IDs() + "x")
	if l := b.IDs(-1); len(l) != 0 || b.Left() != "x" || b.Err() != api.OK {
		t.Errorf("no names: %v, %q left, %d", l, b.Left(), b.Err())
	}
}

func TestFail(t *testing.T) {
	for _, e := range []api.Errno{api.ErrEnd, api.ErrBanned, -1, 99} {
		b := Open("abc")
		b.Bytes(1)
		b.Fail(e)
		b.Fail(api.ErrForm)
		failed(t, "Fail", b, e)
	}
	b := Open("abc")
	b.Fail(api.OK)
	if b.Err() != api.OK || b.Left() != "abc" || b.Bytes(3) != "abc" || b.Close() != api.OK {
		t.Errorf("no failure: %q left, %d", b.Left(), b.Err())
	}
	b.Fail(api.ErrSum)
	failed(t, "Fail at the end", b, api.ErrSum)
}

func TestClose(t *testing.T) {
	b := Open("")
	for range 2 {
		if b.Close() != api.OK || b.Err() != api.OK {
			t.Errorf("Close of nothing: %d", b.Err())
		}
	}
	b = Open("a")
	if e := b.Close(); e != api.ErrForm {
		t.Errorf("Close of something: %d", e)
	}
	failed(t, "Close", b, api.ErrForm)
	b = Open("ab")
	b.Fail(api.ErrBig)
	if e := b.Close(); e != api.ErrBig {
		t.Errorf("Close after an error: %d", e)
	}
	failed(t, "Close after an error", b, api.ErrBig)
	b = Open("a")
	b.Bytes(1)
	if b.Close() != api.OK || b.Bytes(0) != "" || b.Close() != api.OK {
		t.Errorf("Close at the end: %d", b.Err())
	}
}

func TestDecodersAreApart(t *testing.T) {
	a, b := Open("ab"), Open("ab")
	a.Bytes(5)
	if b.Err() != api.OK || b.Bytes(2) != "ab" {
		t.Errorf("the other: %d", b.Err())
	}
}

func TestNamesAreNewMemory(t *testing.T) {
	list := names(2)
	s := IDs(list...)
	want := slices.Clone(list)
	list[0][0]++
	b := Open(s + s)
	l, m := b.IDs(2), b.IDs(2)
	if !slices.Equal(l, want) || !slices.Equal(m, want) {
		t.Error("a name changed with its argument")
	}
	l[1][5]++
	if !slices.Equal(m, want) {
		t.Error("two results share memory")
	}
	if again := append(l[:1:1], m...); len(again) != 3 || !slices.Equal(m, want) {
		t.Error("two results share memory")
	}
}

// value is one random value: its encoding, and how to decode and compare it.
func value(source *rand.Rand) (string, func(*Bale) bool) {
	switch source.Intn(5) {
	case 0:
		n := source.Uint64() >> source.Intn(64)
		return Num(n), func(b *Bale) bool { return b.Num() == n }
	case 1:
		n := source.Int() >> source.Intn(63)
		return Nums(n), func(b *Bale) bool { return b.Int(n) == n }
	case 2:
		text := make([]byte, source.Intn(300))
		source.Read(text)
		return Strs(string(text)), func(b *Bale) bool { return b.Str(len(text)) == string(text) }
	case 3:
		var id api.ID
		source.Read(id[:])
		return string(id[:]), func(b *Bale) bool { return b.ID() == id }
	default:
		list := make([]api.ID, source.Intn(5))
		for i := range list {
			source.Read(list[i][:])
		}
		return IDs(list...), func(b *Bale) bool { return slices.Equal(b.IDs(len(list)), list) }
	}
}

func TestValuesDecodeToThemselves(t *testing.T) {
	source := rand.New(rand.NewSource(6))
	for run := range 300 {
		var text string
		var decode []func(*Bale) bool
		for range source.Intn(12) {
			s, f := value(source)
			text += s
			decode = append(decode, f)
		}
		b := Open(text)
		for i, f := range decode {
			if !f(b) || b.Err() != api.OK {
				t.Fatalf("run %d, value %d: another one, %d", run, i, b.Err())
			}
		}
		if e := b.Close(); e != api.OK {
			t.Fatalf("run %d: Close %d", run, e)
		}
		if text == "" {
			continue
		}
		short := Open(text[:len(text)-1])
		for _, f := range decode {
			f(short)
		}
		failed(t, "cut off", short, api.ErrEnd)
	}
}

func TestAnyBytes(t *testing.T) {
	source := rand.New(rand.NewSource(7))
	for range 20000 {
		text := make([]byte, source.Intn(120))
		source.Read(text)
		for i := range text {
			if source.Intn(2) == 0 {
				text[i] %= 4
			}
		}
		b := Open(string(text))
		for range 20 {
			top := source.Intn(1000) - 2
			switch source.Intn(5) {
			case 0:
				b.Bytes(source.Intn(9) - 1)
			case 1:
				b.Num()
			case 2:
				if n := b.Int(top); n < 0 || n > max(top, 0) {
					t.Fatalf("Int(%d): %d", top, n)
				}
			case 3:
				if s := b.Str(top); len(s) > max(top, 0) {
					t.Fatalf("Str(%d): %d bytes", top, len(s))
				}
			default:
				if l := b.IDs(top); len(l) > max(top, 0) {
					t.Fatalf("IDs(%d): %d names", top, len(l))
				}
			}
			if !strings.HasSuffix(string(text), b.Left()) || b.Err() != api.OK && b.Left() != "" {
				t.Fatalf("%x: %x left, %d", text, b.Left(), b.Err())
			}
		}
	}
}
