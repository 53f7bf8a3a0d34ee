package letter

import (
	"bytes"
	"math"
	"math/rand"
	"slices"
	"strings"
	"testing"

	"caravan/api"
)

// The signatures that the chapter lists, and its constants.
var (
	_ func(Letter) api.Errno           = Letter.Check
	_ func(Letter) string              = Letter.Bytes
	_ func(string) (Letter, api.Errno) = Parse
	_ func(Letter, int) Letter         = Letter.Reply
	_                                  = Letter{Kind: 1, From: 1, To: 1, Seq: 1, ID: api.ID{}, What: 1, Text: "", Peers: []int{}, Holders: []int{}}
	_                                  = [1]int{}[MostList-8]
	_                                  = [1]int{}[MostSeq-4294967296]
)

// named is the bytes of a name without zeros.
const named = "0123456789abcdefghijklmnopqrstuv"

var (
	name    = api.ID([]byte(named))
	longest = strings.Repeat("t", 512)
)

// The kinds with each field, as the chapter's table says them.
var (
	withID    = []int{3, 4, 5, 6, 7, 8, 9, 10}
	withLists = []int{4}
	withWhat  = []int{7, 8, 9}
	withText  = []int{8}
)

func same(a, b Letter) bool {
	return a.Kind == b.Kind && a.From == b.From && a.To == b.To && a.Seq == b.Seq && a.ID == b.ID && a.What == b.What &&
		a.Text == b.Text && slices.Equal(a.Peers, b.Peers) && slices.Equal(a.Holders, b.Holders)
}

// zero reports whether a letter is the zero value, lists that are empty included.
func zero(l Letter) bool {
	return same(l, Letter{})
}

// num encodes a number as layer 4 says it.
func num(n int) string {
	digits := ""
	for ; n > 0; n >>= 8 {
		digits = string([]byte{byte(n)}) + digits
	}
	return string([]byte{byte(len(digits))}) + digits
}

// nums encodes a list as the chapter says it.
func nums(list []int) string {
	s := num(len(list))
	for _, n := range list {
		s += num(n)
	}
	return s
}

// expected encodes a letter as the chapter says it.
func expected(l Letter) string {
	s := "cv" + num(l.Kind) + num(l.From) + num(l.To) + num(l.Seq)
	if slices.Contains(withID, l.Kind) {
		s += string(l.ID[:])
	}
	if slices.Contains(withLists, l.Kind) {
		s += nums(l.Peers) + nums(l.Holders)
	}
	if slices.Contains(withWhat, l.Kind) {
		s += num(l.What)
	}
	if slices.Contains(withText, l.Kind) {
		s += num(len(l.Text)) + l.Text
	}
	return s
}

// list is addresses without any pattern.
func list(r *rand.Rand) []int {
	var out []int
	for range r.Intn(9) {
		out = append(out, r.Intn(64))
	}
	return out
}

// valid is a letter of a kind that may be, without any pattern.
func valid(r *rand.Rand, kind int) Letter {
	l := Letter{Kind: kind, From: r.Intn(64), To: r.Intn(64), Seq: []int{0, 1, 255, 256, MostSeq, r.Intn(MostSeq)}[r.Intn(6)]}
	if slices.Contains(withID, kind) {
		r.Read(l.ID[:])
	}
	if slices.Contains(withLists, kind) {
		l.Peers, l.Holders = list(r), list(r)
	}
	if slices.Contains(withWhat, kind) {
		l.What = 1 + r.Intn(3)
	}
	if slices.Contains(withText, kind) {
		text := make([]byte, []int{0, 1, 255, 256, 512, r.Intn(513)}[r.Intn(6)])
		r.Read(text)
		l.Text = string(text)
	}
	return l
}

func TestExample(t *testing.T) {
	if s := (Letter{Kind: Ping, From: 1, To: 2}).Bytes(); s != "\x63\x76\x01\x01\x01\x01\x01\x02\x00" {
		t.Errorf("% x", s)
	}
}

func TestKinds(t *testing.T) {
	kinds := []int{Ping, Pong, Find, Near, Who, Have, Want, Block, Miss, Offer}
	if !slices.Equal(kinds, []int{1, 2, 3, 4, 5, 6, 7, 8, 9, 10}) {
		t.Errorf("the kinds are %v", kinds)
	}
}

// Each field at its ends, in a letter where nothing else stands in the way.
func TestCheckFields(t *testing.T) {
	eight, nine := make([]int, 8), make([]int, 9)
	for _, c := range []struct {
		what string
		l    Letter
		want api.Errno
	}{
		{"nothing", Letter{}, api.ErrForm},
		{"kind -1", Letter{Kind: -1}, api.ErrForm},
		{"the least kind", Letter{Kind: math.MinInt}, api.ErrForm},
		{"kind 1", Letter{Kind: 1}, api.OK},
		{"kind 10", Letter{Kind: 10}, api.OK},
		{"kind 11", Letter{Kind: 11}, api.ErrForm},
		{"kind 257", Letter{Kind: 257}, api.ErrForm},
		{"the greatest kind", Letter{Kind: math.MaxInt}, api.ErrForm},
		{"from 63", Letter{Kind: 1, From: 63}, api.OK},
		{"from 64", Letter{Kind: 1, From: 64}, api.ErrArg},
		{"from -1", Letter{Kind: 1, From: -1}, api.ErrArg},
		{"to 63", Letter{Kind: 1, To: 63}, api.OK},
		{"to 64", Letter{Kind: 1, To: 64}, api.ErrArg},
		{"to -1", Letter{Kind: 1, To: -1}, api.ErrArg},
		{"to itself", Letter{Kind: 1, From: 5, To: 5}, api.OK},
		{"number 2^32", Letter{Kind: 1, Seq: 1 << 32}, api.OK},
		{"number 2^32+1", Letter{Kind: 1, Seq: 1<<32 + 1}, api.ErrArg},
		{"number -1", Letter{Kind: 1, Seq: -1}, api.ErrArg},
		{"the least number", Letter{Kind: 1, Seq: math.MinInt}, api.ErrArg},
		{"the zero name", Letter{Kind: 3}, api.OK},
		{"eight peers", Letter{Kind: 4, Peers: eight}, api.OK},
		{"nine peers", Letter{Kind: 4, Peers: nine}, api.ErrBig},
		{"eight holders", Letter{Kind: 4, Holders: eight}, api.OK},
		{"nine holders", Letter{Kind: 4, Holders: nine}, api.ErrBig},
		{"eight of either", Letter{Kind: 4, Peers: eight, Holders: eight}, api.OK},
		{"empty lists", Letter{Kind: 1, Peers: []int{}, Holders: []int{}}, api.OK},
		{"an address that is in both lists, and twice", Letter{Kind: 4, Peers: []int{7, 7}, Holders: []int{7}}, api.OK},
		{"peer 63", Letter{Kind: 4, Peers: []int{0, 63}}, api.OK},
		{"peer 64", Letter{Kind: 4, Peers: []int{0, 64}}, api.ErrArg},
		{"peer -1", Letter{Kind: 4, Peers: []int{-1, 0}}, api.ErrArg},
		{"holder 63", Letter{Kind: 4, Holders: []int{63, 0}}, api.OK},
		{"holder 64", Letter{Kind: 4, Holders: []int{0, 0, 64}}, api.ErrArg},
		{"holder -1", Letter{Kind: 4, Holders: []int{-1}}, api.ErrArg},
		{"what 0", Letter{Kind: 7}, api.ErrForm},
		{"what 1", Letter{Kind: 7, What: 1}, api.OK},
		{"what 3", Letter{Kind: 9, What: 3}, api.OK},
		{"what 4", Letter{Kind: 9, What: 4}, api.ErrForm},
		{"what -1", Letter{Kind: 8, What: -1}, api.ErrForm},
		{"no text", Letter{Kind: 8, What: 1}, api.OK},
		{"512 bytes", Letter{Kind: 8, What: 2, Text: longest}, api.OK},
		{"513 bytes", Letter{Kind: 8, What: 2, Text: longest + "t"}, api.ErrBig},
	} {
		if got := c.l.Check(); got != c.want {
			t.Errorf("%s: %d, not %d", c.what, got, c.want)
		}
	}
}

// A kind has the fields of the chapter's table, and no others.
func TestCheckFieldsOfEachKind(t *testing.T) {
	r := rand.New(rand.NewSource(1))
	for kind := 1; kind <= 10; kind++ {
		for _, c := range []struct {
			what string
			with []int
			fill func(*Letter)
		}{
			{"a name", withID, func(l *Letter) { l.ID = api.ID{31: 1} }},
			{"peers", withLists, func(l *Letter) { l.Peers = []int{0} }},
			{"holders", withLists, func(l *Letter) { l.Holders = []int{0} }},
			{"what", withWhat, func(l *Letter) { l.What = 1 }},
			{"a text", withText, func(l *Letter) { l.Text = "\x00" }},
		} {
			l := valid(r, kind)
			c.fill(&l)
			want := api.ErrForm
			if slices.Contains(c.with, kind) {
				want = api.OK
			}
			if got := l.Check(); got != want {
				t.Errorf("kind %d with %s: %d, not %d", kind, c.what, got, want)
			}
		}
	}
}

// fault is what makes a letter one that may not be.
type fault struct {
	what  string
	step  int // in the order of the chapter
	e     api.Errno
	spoil func(*Letter)
}

func faults() []fault {
	nine := make([]int, 9)
	return []fault{
		{"kind 0", 1, api.ErrForm, func(l *Letter) { l.Kind = 0 }},
		{"kind 11", 1, api.ErrForm, func(l *Letter) { l.Kind = 11 }},
		{"from 64", 2, api.ErrArg, func(l *Letter) { l.From = 64 }},
		{"to -1", 2, api.ErrArg, func(l *Letter) { l.To = -1 }},
		{"number 2^32+1", 2, api.ErrArg, func(l *Letter) { l.Seq = MostSeq + 1 }},
		{"nine peers", 3, api.ErrBig, func(l *Letter) { l.Peers = nine }},
		{"nine holders", 3, api.ErrBig, func(l *Letter) { l.Holders = nine }},
		{"513 bytes", 3, api.ErrBig, func(l *Letter) { l.Text = longest + "t" }},
		{"a peer 64", 6, api.ErrArg, func(l *Letter) { l.Peers = append([]int{64}, l.Peers[min(1, len(l.Peers)):]...) }},
		{"a holder -1", 6, api.ErrArg, func(l *Letter) { l.Holders = append([]int{-1}, l.Holders[min(1, len(l.Holders)):]...) }},
		{"what 4", 5, api.ErrForm, func(l *Letter) { l.What = 4 }},
		{"a byte of text", 4, api.ErrForm, func(l *Letter) { l.Text += "x" }},
		{"a name", 4, api.ErrForm, func(l *Letter) { l.ID = api.ID{5} }},
	}
}

// checked is Check as the chapter says it, step by step.
func checked(l Letter) api.Errno {
	if l.Kind < 1 || l.Kind > 10 {
		return api.ErrForm
	}
	for _, n := range []int{l.From, l.To} {
		if n < 0 || n > 63 {
			return api.ErrArg
		}
	}
	if l.Seq < 0 || l.Seq > 4294967296 {
		return api.ErrArg
	}
	if len(l.Peers) > 8 || len(l.Holders) > 8 || len(l.Text) > 512 {
		return api.ErrBig
	}
	id, lists, what, text := slices.Contains(withID, l.Kind), slices.Contains(withLists, l.Kind), slices.Contains(withWhat, l.Kind), slices.Contains(withText, l.Kind)
	if !id && l.ID != (api.ID{}) || !lists && (len(l.Peers) > 0 || len(l.Holders) > 0) || !what && l.What != 0 || !text && l.Text != "" {
		return api.ErrForm
	}
	if what && l.What != 1 && l.What != 2 && l.What != 3 {
		return api.ErrForm
	}
	for _, n := range append(slices.Clone(l.Peers), l.Holders...) {
		if n < 0 || n > 63 {
			return api.ErrArg
		}
	}
	return api.OK
}

// Of two faults the one that the chapter names first counts.
func TestCheckOrder(t *testing.T) {
	r := rand.New(rand.NewSource(2))
	for kind := 1; kind <= 10; kind++ {
		for _, a := range faults() {
			for _, b := range faults() {
				l := valid(r, kind)
				a.spoil(&l)
				b.spoil(&l)
				got, want := l.Check(), checked(l)
				if got != want {
					t.Errorf("kind %d with %s and %s: %d, not %d", kind, a.what, b.what, got, want)
				}
				if first := min(a.step, b.step); first <= 3 && got != []api.Errno{0, api.ErrForm, api.ErrArg, api.ErrBig}[first] {
					t.Errorf("kind %d with %s and %s: %d", kind, a.what, b.what, got)
				}
			}
		}
	}
	for _, c := range []struct {
		what string
		l    Letter
		want api.Errno
	}{
		{"a stray text and what 0", Letter{Kind: 7, Text: "x"}, api.ErrForm},
		{"what 4 and a stray peer that is invalid", Letter{Kind: 7, What: 4, Peers: []int{64}}, api.ErrForm},
		{"a stray peer that is invalid", Letter{Kind: 3, Peers: []int{64}}, api.ErrForm},
		{"a stray what and a peer that is invalid", Letter{Kind: 4, What: 1, Peers: []int{64}}, api.ErrForm},
		{"nine stray peers", Letter{Kind: 1, Peers: make([]int, 9)}, api.ErrBig},
		{"a stray text that is too long", Letter{Kind: 1, Text: longest + "t"}, api.ErrBig},
	} {
		if got := c.l.Check(); got != c.want {
			t.Errorf("%s: %d, not %d", c.what, got, c.want)
		}
	}
}

func TestBytes(t *testing.T) {
	head := func(kind byte) string { return "cv\x01" + string([]byte{kind}) + "\x01\x3f\x00\x02\x01\x2c" }
	letter := func(kind int) Letter { return Letter{Kind: kind, From: 63, Seq: 300, ID: name} }
	near, want, block, miss := letter(4), letter(7), letter(8), letter(9)
	near.Peers, near.Holders = []int{1, 0, 1}, []int{63}
	want.What, block.What, miss.What = 1, 2, 3
	block.Text = "a\x00b"
	long := block
	long.Text = longest
	for _, c := range []struct {
		l    Letter
		want string
	}{
		{Letter{Kind: 1, From: 63, Seq: 300}, head(1)},
		{Letter{Kind: 2, From: 63, Seq: 300}, head(2)},
		{Letter{Kind: 2, To: 63, Seq: 1 << 32}, "cv\x01\x02\x00\x01\x3f\x05\x01\x00\x00\x00\x00"},
		{letter(3), head(3) + named},
		{letter(4), head(4) + named + "\x00\x00"},
		{near, head(4) + named + "\x01\x03\x01\x01\x00\x01\x01" + "\x01\x01\x01\x3f"},
		{letter(5), head(5) + named},
		{letter(6), head(6) + named},
		{want, head(7) + named + "\x01\x01"},
		{block, head(8) + named + "\x01\x02\x01\x03a\x00b"},
		{long, head(8) + named + "\x01\x02\x02\x02\x00" + longest},
		{miss, head(9) + named + "\x01\x03"},
		{letter(10), head(10) + named},
	} {
		if c.l.Check() != api.OK {
			t.Errorf("%+v: %d", c.l, c.l.Check())
		}
		if got := c.l.Bytes(); got != c.want {
			t.Errorf("%+v: %q, not %q", c.l, got, c.want)
		}
	}
}

// Fields that the kind does not have are not in the encoding.
func TestBytesWithoutOtherFields(t *testing.T) {
	r := rand.New(rand.NewSource(3))
	for kind := 1; kind <= 10; kind++ {
		l := Letter{Kind: kind, From: 1, To: 2, Seq: 3, ID: name, What: 2, Text: "text", Peers: list(r), Holders: list(r)}
		if got := l.Bytes(); got != expected(l) {
			t.Errorf("kind %d: %q, not %q", kind, got, expected(l))
		}
	}
}

// What may not be has an encoding, too, and Parse does not take it.
func TestBytesOfInvalidLetters(t *testing.T) {
	r := rand.New(rand.NewSource(4))
	for kind := 1; kind <= 10; kind++ {
		for _, f := range faults() {
			l := valid(r, kind)
			f.spoil(&l)
			s := l.Bytes()
			if got, e := Parse(s); e == api.OK && (got.Bytes() != s || got.Check() != api.OK) || e != api.OK && !zero(got) {
				t.Errorf("kind %d with %s: %+v, %d", kind, f.what, got, e)
			}
		}
	}
	wild := Letter{Kind: math.MinInt, From: math.MinInt, To: math.MaxInt, Seq: -1, Text: strings.Repeat("x", 5000), Peers: make([]int, 3000)}
	for kind := -1; kind <= 12; kind++ {
		wild.Kind = kind
		if _, e := Parse(wild.Bytes()); e == api.OK {
			t.Errorf("kind %d: Parse takes what may not be", kind)
		}
	}
}

func TestParseInvertsBytes(t *testing.T) {
	r := rand.New(rand.NewSource(5))
	for i := range 5000 {
		l := valid(r, 1+i%10)
		s := l.Bytes()
		if l.Check() != api.OK || s != expected(l) || len(s) > api.MaxFrame {
			t.Fatalf("%+v: %d, %q", l, l.Check(), s)
		}
		if got, e := Parse(s); e != api.OK || !same(got, l) {
			t.Errorf("%+v became %+v, %d", l, got, e)
		}
	}
}

// refuses checks that Parse returns an error and no letter.
func refuses(t *testing.T, what, s string, want api.Errno) {
	t.Helper()
	if l, e := Parse(s); e != want || !zero(l) {
		t.Errorf("%s: %+v, %d, not %d", what, l, e, want)
	}
}

func TestParseRefuses(t *testing.T) {
	// The start of a letter up to its sequence number, and up to its name.
	head := func(kind byte) string { return "cv\x01" + string([]byte{kind}) + "\x00\x00\x00" }
	with := func(kind byte) string { return head(kind) + named }
	for _, c := range []struct {
		what, s string
		want    api.Errno
	}{
		{"nothing", "", api.ErrForm},
		{"one byte", "c", api.ErrForm},
		{"other bytes", "cw\x01\x01\x00\x00\x00", api.ErrForm},
		{"capitals", "CV\x01\x01\x00\x00\x00", api.ErrForm},
		{"a byte ahead", "\x00cv\x01\x01\x00\x00\x00", api.ErrForm},
		{"1024 other bytes", strings.Repeat("x", 1024), api.ErrForm},
		{"1025 other bytes", strings.Repeat("x", 1025), api.ErrBig},
		{"1024 bytes", head(1) + strings.Repeat("x", 1017), api.ErrForm},
		{"1025 bytes", head(1) + strings.Repeat("x", 1018), api.ErrBig},
		{"no kind", "cv", api.ErrEnd},
		{"a kind that is cut off", "cv\x01", api.ErrEnd},
		{"a kind of nine bytes", "cv\x09", api.ErrForm},
		{"a kind with a zero ahead", "cv\x02\x00\x01\x00\x00\x00", api.ErrForm},
		{"kind 0 as a byte", "cv\x01\x00\x00\x00\x00", api.ErrForm},
		{"kind 0", "cv\x00\x00\x00\x00", api.ErrForm},
		{"kind 0 and more", "cv\x00\x00\x00\x00" + named, api.ErrForm},
		{"kind 0 and nothing more", "cv\x00", api.ErrEnd},
		{"kind 0 and from 64", "cv\x00\x01\x40", api.ErrBig},
		{"kind 11", "cv\x01\x0b\x00\x00\x00", api.ErrBig},
		{"kind 11 and nothing more", "cv\x01\x0b", api.ErrBig},
		{"kind 2^64-1", "cv\x08" + strings.Repeat("\xff", 8), api.ErrBig},
		{"no from", "cv\x01\x01", api.ErrEnd},
		{"from 64", "cv\x01\x01\x01\x40", api.ErrBig},
		{"from of nine bytes", "cv\x01\x01\x09", api.ErrForm},
		{"no to", "cv\x01\x01\x00", api.ErrEnd},
		{"to 64", "cv\x01\x01\x00\x01\x40", api.ErrBig},
		{"to with a zero ahead", "cv\x01\x01\x00\x01\x00", api.ErrForm},
		{"no number", "cv\x01\x01\x00\x00", api.ErrEnd},
		{"number 2^32+1", "cv\x01\x01\x00\x00\x05\x01\x00\x00\x00\x01", api.ErrBig},
		{"number 2^63", "cv\x01\x01\x00\x00\x08\x80\x00\x00\x00\x00\x00\x00\x00", api.ErrBig},
		{"a byte that is left of a Ping", head(1) + "\x00", api.ErrForm},
		{"a Pong with a name", with(2), api.ErrForm},
		{"a Find without a name", head(3), api.ErrEnd},
		{"a Find with 31 bytes", with(3)[:38], api.ErrEnd},
		{"a Find with 33 bytes", with(3) + "x", api.ErrForm},
		{"a Near without lists", with(4), api.ErrEnd},
		{"a Near without holders", with(4) + "\x00", api.ErrEnd},
		{"nine peers", with(4) + "\x01\x09" + strings.Repeat("\x00", 10), api.ErrBig},
		{"nine holders", with(4) + "\x00\x01\x09" + strings.Repeat("\x00", 9), api.ErrBig},
		{"nine peers, and none of them", with(4) + "\x01\x09", api.ErrBig},
		{"nine holders, and none of them", with(4) + "\x00\x01\x09", api.ErrBig},
		{"2^64-1 peers", with(4) + "\x08" + strings.Repeat("\xff", 8), api.ErrBig},
		{"one peer of two, and no holders", with(4) + "\x01\x02\x00", api.ErrEnd},
		{"peer 64", with(4) + "\x01\x01\x01\x40\x00", api.ErrBig},
		{"a peer with a zero ahead", with(4) + "\x01\x01\x01\x00\x00", api.ErrForm},
		{"holder 64", with(4) + "\x00\x01\x01\x01\x40", api.ErrBig},
		{"holder 64 and nine peers ahead", with(4) + "\x01\x09\x01\x01\x01\x40", api.ErrBig},
		{"a Near with more", with(4) + "\x00\x00\x00", api.ErrForm},
		{"a Who with more", with(5) + "\x00", api.ErrForm},
		{"a Have without a name", head(6), api.ErrEnd},
		{"a Want without what", with(7), api.ErrEnd},
		{"a Want of 0", with(7) + "\x00", api.ErrForm},
		{"a Want of 4", with(7) + "\x01\x04", api.ErrBig},
		{"a Want of 0 and more", with(7) + "\x00\x00", api.ErrForm},
		{"a Want with a text", with(7) + "\x01\x01\x01\x01x", api.ErrForm},
		{"a Block without a text", with(8) + "\x01\x01", api.ErrEnd},
		{"a Block of 0", with(8) + "\x00\x01\x01x", api.ErrForm},
		{"a Block of 4 without a text", with(8) + "\x01\x04", api.ErrBig},
		{"a Block of 0 without a text", with(8) + "\x00", api.ErrEnd},
		{"a Block of 0 that is too long", with(8) + "\x00\x02\x02\x01" + longest + "t", api.ErrBig},
		{"513 bytes", with(8) + "\x01\x01\x02\x02\x01" + longest + "t", api.ErrBig},
		{"513 bytes, and none of them", with(8) + "\x01\x01\x02\x02\x01", api.ErrBig},
		{"511 bytes of 512", with(8) + "\x01\x01\x02\x02\x00" + longest[1:], api.ErrEnd},
		{"513 bytes of 512", with(8) + "\x01\x01\x02\x02\x00" + longest + "t", api.ErrForm},
		{"a Miss without what", with(9), api.ErrEnd},
		{"a Miss with a text", with(9) + "\x01\x03\x00", api.ErrForm},
		{"an Offer with what", with(10) + "\x01\x01", api.ErrForm},
		{"an Offer of nothing", head(10), api.ErrEnd},
	} {
		refuses(t, c.what, c.s, c.want)
	}
	for _, s := range []string{head(1), with(3), with(4) + "\x00\x00", with(7) + "\x01\x03", with(8) + "\x01\x01\x00", with(10)} {
		if l, e := Parse(s); e != api.OK || l.Bytes() != s {
			t.Errorf("%q: %+v, %d", s, l, e)
		}
	}
}

// Whatever is cut off, something is wanting; whatever is added is left.
func TestParseAllOfIt(t *testing.T) {
	r := rand.New(rand.NewSource(6))
	for i := range 60 {
		s := valid(r, 1+i%10).Bytes()
		refuses(t, "a letter without its start", s[:1], api.ErrForm)
		for n := 2; n < len(s); n++ {
			refuses(t, "a letter that is cut off", s[:n], api.ErrEnd)
		}
		refuses(t, "a letter with more", s+"\x00", api.ErrForm)
		refuses(t, "a letter filled up", s+strings.Repeat("\x01", api.MaxFrame-len(s)), api.ErrForm)
		refuses(t, "a letter that is too long", s+strings.Repeat("\x01", api.MaxFrame+1-len(s)), api.ErrBig)
	}
}

// A letter has one encoding: what Parse takes is what Bytes returns.
func TestParseOfAlteredBytes(t *testing.T) {
	r := rand.New(rand.NewSource(7))
	taken := 0
	for i := range 30000 {
		s := []byte(valid(r, 1+i%10).Bytes())
		for range 1 + r.Intn(3) {
			s[r.Intn(1+r.Intn(len(s)))] = byte(r.Intn(256) >> r.Intn(9))
		}
		l, e := Parse(string(s))
		if e != api.OK {
			refuses(t, "altered bytes", string(s), e)
			continue
		}
		taken++
		if l.Check() != api.OK || l.Bytes() != string(s) || expected(l) != string(s) {
			t.Errorf("%q became %+v", s, l)
		}
	}
	if taken == 0 {
		t.Error("nothing was taken")
	}
}

// A reply goes back with the number, and with the name and What if its kind has them, and with nothing else.
func TestReply(t *testing.T) {
	full := Letter{From: 3, To: 4, Seq: 9, ID: name, What: 2, Text: "text", Peers: []int{1}, Holders: []int{2}}
	for from := -1; from <= 12; from++ {
		full.Kind = from
		for kind := -1; kind <= 12; kind++ {
			want := Letter{Kind: kind, From: 4, To: 3, Seq: 9}
			if slices.Contains(withID, kind) {
				want.ID = name
			}
			if slices.Contains(withWhat, kind) {
				want.What = 2
			}
			if got := full.Reply(kind); !same(got, want) {
				t.Errorf("a reply %d to %d: %+v, not %+v", kind, from, got, want)
			}
		}
	}
}

// The replies of the protocol may be, as they are or after a field was filled in.
func TestReplyMayBe(t *testing.T) {
	r := rand.New(rand.NewSource(8))
	for _, c := range []struct{ to, kind int }{{Ping, Pong}, {Find, Near}, {Who, Have}, {Want, Block}, {Want, Miss}} {
		for range 50 {
			l := valid(r, c.to)
			got := l.Reply(c.kind)
			if got.Check() != api.OK || got.From != l.To || got.To != l.From || got.Seq != l.Seq || got.ID != l.ID || got.What != l.What {
				t.Errorf("the reply to %+v is %+v", l, got)
			}
			if back := got.Reply(c.to); !same(back, l) {
				t.Errorf("%+v and back is %+v", l, back)
			}
		}
	}
}

// No two results share their lists, and none is an argument's.
func TestResultsAreApart(t *testing.T) {
	l := Letter{Kind: Near, Peers: []int{1, 2, 3}, Holders: []int{1, 2, 3}}
	s := l.Bytes()
	a, _ := Parse(s)
	b, _ := Parse(s)
	_ = append(a.Peers, 50, 51, 52, 53, 54, 55, 56, 57)
	a.Peers[0], a.Holders[1] = 60, 61
	if !same(b, l) || !slices.Equal(a.Peers, []int{60, 2, 3}) || !slices.Equal(a.Holders, []int{1, 61, 3}) {
		t.Errorf("%+v and %+v", a, b)
	}
	if again, _ := Parse(s); !same(again, l) {
		t.Errorf("then %+v", again)
	}
	if r := l.Reply(Near); r.Peers != nil || r.Holders != nil {
		t.Errorf("a reply has the lists of its letter: %+v", r)
	}
}

// What stands behind a list that is handed in is not the letter's.
func TestBehindTheLists(t *testing.T) {
	all := []int{1, 2, 3, 4}
	l := Letter{Kind: Near, Peers: all[:1], Holders: all[3:]}
	l.Check()
	l.Reply(Near)
	if got, e := Parse(l.Bytes()); e != api.OK || !same(got, l) || !slices.Equal(all, []int{1, 2, 3, 4}) {
		t.Errorf("%+v, %d, and the lists became %v", got, e, all)
	}
}

// A call changes nothing, and returns the same again.
func TestTheSameAgain(t *testing.T) {
	r := rand.New(rand.NewSource(9))
	for i := range 300 {
		l := valid(r, 1+i%10)
		if i%3 == 0 {
			faults()[r.Intn(len(faults()))].spoil(&l)
		}
		peers, holders := slices.Clone(l.Peers), slices.Clone(l.Holders)
		e, s, reply := l.Check(), l.Bytes(), l.Reply(Near)
		first, e1 := Parse(s)
		if l.Check() != e || l.Bytes() != s || !same(l.Reply(Near), reply) {
			t.Errorf("%+v: other results", l)
		}
		if again, e2 := Parse(s); e1 != e2 || !same(first, again) {
			t.Errorf("%q: %+v, %d and %+v, %d", s, first, e1, again, e2)
		}
		if !slices.Equal(l.Peers, peers) || !slices.Equal(l.Holders, holders) {
			t.Errorf("the lists became %v and %v", l.Peers, l.Holders)
		}
	}
}

func FuzzParse(f *testing.F) {
	r := rand.New(rand.NewSource(10))
	for kind := range 12 {
		f.Add([]byte(valid(r, kind).Bytes()))
	}
	f.Fuzz(func(t *testing.T, s []byte) {
		given := bytes.Clone(s)
		l, e := Parse(string(s))
		if !bytes.Equal(s, given) {
			t.Error("the bytes were changed")
		}
		if e != api.OK && !zero(l) {
			t.Errorf("%q: %+v, %d", s, l, e)
		}
		if e == api.OK && (l.Check() != api.OK || l.Bytes() != string(s) || len(s) > api.MaxFrame) {
			t.Errorf("%q became %+v", s, l)
		}
	})
}
