package swap

import (
	"encoding/hex"
	"math"
	"reflect"
	"slices"
	"strconv"
	"strings"
	"testing"

	"caravan/api"
	"caravan/frontier"
	"caravan/letter"
	"caravan/merkle"
	"caravan/oid"
	"caravan/quota"
	"caravan/reap"
	"caravan/repute"
)

// The signatures that the chapter lists; a swap has the methods of its book and of its quota, and its rate's fields.
var (
	_ func(int, quota.Rate) (*Swap, api.Errno)                                      = New
	_ func(*Swap) []frontier.Want                                                   = (*Swap).Open
	_ func(*Swap, int)                                                              = (*Swap).Tick
	_ func(s *Swap, now int, holders []int, wants ...frontier.Want) []letter.Letter = (*Swap).Ask
	_ func(*Swap, letter.Letter, int) (merkle.Object, api.Errno)                    = (*Swap).Block
	_ func(*Swap, letter.Letter, int) bool                                          = (*Swap).Miss
	_ func(*Swap, letter.Letter, reap.Source, int) (letter.Letter, bool)            = (*Swap).Serve
	_ func(*Swap, ...api.ID)                                                        = (*Swap).Forget
	_ func(*Swap, int)                                                              = (*Swap).Good
	_ func(s *Swap, n, now int)                                                     = (*Swap).Silent
	_ func(*Swap, int, repute.Proof) api.Errno                                      = (*Swap).Ban
	_ func(*Swap, int) (repute.Proof, bool)                                         = (*Swap).Banned
	_ func(*Swap, int) int                                                          = (*Swap).Score
	_ func(*Swap, int) int                                                          = (*Swap).Until
	_ func(s *Swap, n, now int) bool                                                = (*Swap).May
	_ func(s *Swap, now int, l ...int) []int                                        = (*Swap).Sort
	_ func(s *Swap, n, now int) int                                                 = (*Swap).Has
	_ func(s *Swap, n, cost, now int) bool                                          = (*Swap).Take
	_ func(s *Swap) (*repute.Book, *quota.Quota, quota.Rate)                        = func(s *Swap) (*repute.Book, *quota.Quota, quota.Rate) { return s.Book, s.Quota, s.Rate }
	_                                                                               = [1]int{}[MostOpen-8+MostEach-4+Patience-6+Memory-12]
)

// ends are numbers of addresses; any number is one.
var ends = []int{0, 1, -1, 63, 64, 1 << 40, math.MinInt, math.MaxInt}

// shelf is a source: what its Get returns for each name.
type shelf map[api.ID]entry

type entry struct {
	object merkle.Object
	e      api.Errno
}

func (s shelf) Get(id api.ID) (merkle.Object, api.Errno) {
	x, found := s[id]
	if !found {
		return merkle.Object{}, api.ErrUnknown
	}
	return x.object, x.e
}

func (s shelf) put(l ...merkle.Object) {
	for _, o := range l {
		s[o.ID] = entry{o, api.OK}
	}
}

// thing is the i-th of many objects, of each kind in turn.
func thing(i int) merkle.Object {
	return merkle.Make(oid.Chunk+i%3, "thing "+strconv.Itoa(i))
}

// need is a want of an object, with as many bytes as it has.
func need(o merkle.Object) frontier.Want {
	return frontier.Want{Kind: o.Kind, ID: o.ID, Most: len(o.Text)}
}

// needs are wants of the things from first to last.
func needs(first, last int) []frontier.Want {
	var wants []frontier.Want
	for i := first; i <= last; i++ {
		wants = append(wants, need(thing(i)))
	}
	return wants
}

func open(t *testing.T, own, each, most int) *Swap {
	t.Helper()
	s, e := New(own, quota.Rate{Each: each, Most: most})
	if e != api.OK || s == nil {
		t.Fatalf("New: %d", e)
	}
	return s
}

// asking is what a swap of address 1 sends to an address with a number.
func asking(to, seq int, want frontier.Want) letter.Letter {
	return letter.Letter{Kind: letter.Want, From: 1, To: to, Seq: seq, ID: want.ID, What: want.Kind}
}

// asks checks what a swap of address 1 sends: to these, for the wants from the i-th on, with numbers from seq on.
func asks(t *testing.T, s *Swap, now int, holders []int, wants []frontier.Want, seq, i int, to ...int) []letter.Letter {
	t.Helper()
	var want []letter.Letter
	for k, n := range to {
		want = append(want, asking(n, seq+k, wants[i+k]))
	}
	got := s.Ask(now, holders, wants...)
	if len(got) != len(want) || len(got) > 0 && !reflect.DeepEqual(got, want) {
		t.Errorf("Ask at %d: %+v, not %+v", now, got, want)
	}
	return got
}

// isOpen checks what is ordered.
func isOpen(t *testing.T, s *Swap, want ...frontier.Want) {
	t.Helper()
	if got := s.Open(); !slices.Equal(got, want) {
		t.Errorf("Open: %+v, not %+v", got, want)
	}
}

// answer is the letter that brings these bytes in reply.
func answer(l letter.Letter, text string) letter.Letter {
	b := l.Reply(letter.Block)
	b.Text = text
	return b
}

// comes checks what becomes of a letter with an object.
func comes(t *testing.T, s *Swap, l letter.Letter, now int, want api.Errno) {
	t.Helper()
	o, e := s.Block(l, now)
	right := merkle.Object{}
	if want == api.OK {
		right = merkle.Object{Kind: l.What, ID: l.ID, Text: l.Text}
	}
	if e != want || o != right {
		t.Errorf("Block at %d: %+v, %d, not %d", now, o, e, want)
	}
}

func misses(t *testing.T, s *Swap, l letter.Letter, now int, want bool) {
	t.Helper()
	if got := s.Miss(l, now); got != want {
		t.Errorf("Miss at %d: %v", now, got)
	}
}

// thought checks what is thought of an address.
func thought(t *testing.T, s *Swap, n, score, until int, banned bool) {
	t.Helper()
	_, ban := s.Banned(n)
	if s.Score(n) != score || s.Until(n) != until || ban != banned {
		t.Errorf("%d: score %d until %d banned %v, not %d, %d, %v", n, s.Score(n), s.Until(n), ban, score, until, banned)
	}
}

// The name and the bytes of the letter are as another program computed them.
func TestExample(t *testing.T) {
	const (
		hello = "bf028f29a3928796f5902a5d15ce71427073eb5f481d0f2e8d0d2c9985c22197"
		bytes = "6376" + "0107" + "0101" + "0103" + "0101" + hello + "0101"
	)
	raw, _ := hex.DecodeString(hello)
	want := frontier.Want{Kind: oid.Chunk, ID: api.ID(raw), Most: 5}
	s := open(t, 1, 5, 20)
	l := asks(t, s, 0, []int{3}, []frontier.Want{want}, 1, 0, 3)
	if got := hex.EncodeToString([]byte(l[0].Bytes())); got != bytes {
		t.Errorf("the letter is %s", got)
	}
	comes(t, s, answer(l[0], "hallo"), 1, api.ErrSum)
	if p, ok := s.Banned(3); !ok || p != (repute.Proof{Kind: oid.Chunk, ID: want.ID, Text: "hallo"}) {
		t.Errorf("Banned: %+v, %v", p, ok)
	}
	isOpen(t, s)
	l = asks(t, s, 1, []int{3, 4}, []frontier.Want{want}, 2, 0, 4)
	comes(t, s, answer(l[0], "hello"), 1, api.OK)
	thought(t, s, 4, 1, 0, false)
}

func TestNew(t *testing.T) {
	for _, c := range []struct {
		rate quota.Rate
		want api.Errno
	}{
		{quota.Rate{Each: 1, Most: 1}, api.OK},
		{quota.Rate{Each: 1024, Most: 8192}, api.OK},
		{quota.Rate{Each: 1 << 20, Most: 1 << 20}, api.OK},
		{quota.Rate{}, api.ErrArg},
		{quota.Rate{Each: 0, Most: 5}, api.ErrArg},
		{quota.Rate{Each: -1, Most: 5}, api.ErrArg},
		{quota.Rate{Each: 6, Most: 5}, api.ErrArg},
		{quota.Rate{Each: 1, Most: 1<<20 + 1}, api.ErrArg},
		{quota.Rate{Each: math.MinInt, Most: math.MaxInt}, api.ErrArg},
		{quota.Rate{Each: math.MaxInt, Most: math.MinInt}, api.ErrArg},
	} {
		for _, own := range ends {
			s, e := New(own, c.rate)
			if e != c.want || (s == nil) != (e != api.OK) {
				t.Errorf("New(%d, %+v): %v, %d", own, c.rate, s, e)
				continue
			}
			if e != api.OK {
				continue
			}
			if isOpen(t, s); s.Rate != c.rate {
				t.Errorf("the rate is %+v", s.Rate)
			}
			for _, n := range ends {
				if thought(t, s, n, 0, 0, false); s.Has(n, 0) != c.rate.Most {
					t.Errorf("%d has %d", n, s.Has(n, 0))
				}
			}
		}
	}
}

// What is asked of a swap without orders.
func TestNothingOrdered(t *testing.T) {
	s := open(t, 1, 5, 20)
	s.Tick(0)
	s.Tick(100)
	s.Forget()
	s.Forget(thing(1).ID)
	comes(t, s, letter.Letter{}, 100, api.ErrUnknown)
	comes(t, s, answer(asking(3, 1, need(thing(1))), thing(1).Text), 100, api.ErrUnknown)
	misses(t, s, letter.Letter{}, 100, false)
	misses(t, s, asking(3, 1, need(thing(1))).Reply(letter.Miss), 100, false)
	asks(t, s, 100, nil, nil, 1, 0)
	asks(t, s, 100, []int{3}, nil, 1, 0)
	asks(t, s, 100, nil, needs(1, 3), 1, 0)
	isOpen(t, s)
	thought(t, s, 3, 0, 0, false)
	asks(t, s, 100, []int{3}, needs(1, 1), 1, 0, 3)
}

// The first in the order of Sort is asked: the best, and of those that are equally good the smallest.
func TestBestFirst(t *testing.T) {
	s := open(t, 1, 5, 20)
	wants := needs(1, 8)
	for range 2 {
		s.Good(9)
		s.Good(7)
	}
	s.Good(30)
	s.Silent(4, 10) // until 12
	s.Ban(2, repute.Proof{Kind: oid.Chunk})
	asks(t, s, 11, []int{2, 4, 5, 30, 9, 7}, wants[:4], 1, 0, 7, 7, 7, 7)
	asks(t, s, 11, []int{2, 4, 5, 30, 9, 7}, wants[:6], 5, 4, 9, 9)
	s.Good(30)
	s.Good(30)
	asks(t, s, 11, []int{2, 4, 5, 30, 9, 7}, wants[:7], 7, 6, 30)
	s.Forget()
	asks(t, s, 11, []int{2, 4}, wants, 8, 0)
	asks(t, s, 12, []int{2, 4}, wants[:1], 8, 0, 4)
	// Score -1 comes behind score 0.
	asks(t, s, 12, []int{4, 5}, wants[1:2], 9, 0, 5)
}

func TestMostEach(t *testing.T) {
	s := open(t, 1, 5, 20)
	wants := needs(1, 10)
	l := asks(t, s, 0, []int{3, 3, 3}, wants, 1, 0, 3, 3, 3, 3)
	isOpen(t, s, wants[:4]...)
	asks(t, s, 0, []int{3}, wants, 5, 0)
	// For each order that is over there may be another one.
	misses(t, s, l[1].Reply(letter.Miss), 0, true)
	asks(t, s, 0, []int{3}, wants, 5, 4, 3)
	isOpen(t, s, wants[0], wants[2], wants[3], wants[4])
	comes(t, s, answer(l[0], thing(1).Text), 0, api.OK)
	asks(t, s, 0, []int{3}, wants[1:], 6, 4, 3)
	s.Forget(wants[5].ID, wants[4].ID)
	asks(t, s, 0, []int{3}, wants[6:], 7, 0, 3, 3)
	s.Tick(6)
	isOpen(t, s)
	asks(t, s, s.Until(3), []int{3}, wants[6:], 9, 0, 3, 3, 3, 3)
}

func TestMostOpen(t *testing.T) {
	s := open(t, 1, 5, 20)
	wants := needs(1, 12)
	l := asks(t, s, 0, []int{7, 1, 4, 9}, wants, 1, 0, 4, 4, 4, 4, 7, 7, 7, 7)
	isOpen(t, s, wants[:8]...)
	asks(t, s, 0, []int{9, 10}, wants, 9, 0)
	misses(t, s, l[5].Reply(letter.Miss), 0, true)
	misses(t, s, l[2].Reply(letter.Miss), 0, true)
	asks(t, s, 0, []int{9, 10}, wants[8:], 9, 0, 9, 9)
	isOpen(t, s, wants[0], wants[1], wants[3], wants[4], wants[6], wants[7], wants[8], wants[9])
	asks(t, s, 0, []int{9, 10}, wants, 11, 0)
}

// Whoever asks is never asked, however good he is.
func TestNotOneself(t *testing.T) {
	for _, own := range ends {
		s := open(t, own, 5, 20)
		s.Good(own)
		if l := s.Ask(0, []int{own, own}, needs(1, 2)...); len(l) != 0 {
			t.Errorf("Ask: %+v", l)
		}
		if l := s.Ask(0, []int{own, 5, own}, needs(1, 1)...); len(l) != 1 || l[0].To != 5 || l[0].From != own {
			t.Errorf("Ask: %+v", l)
		}
	}
}

// What is ordered is not ordered again, even with another kind or size, and takes no number.
func TestOrderedAlready(t *testing.T) {
	s := open(t, 1, 5, 20)
	first, second := need(thing(1)), need(thing(2))
	other, more := first, first
	other.Kind++
	more.Most++
	got := s.Ask(0, []int{3}, first, other, more, first, second)
	if want := []letter.Letter{asking(3, 1, first), asking(3, 2, second)}; !reflect.DeepEqual(got, want) {
		t.Errorf("Ask: %+v", got)
	}
	isOpen(t, s, first, second)
	asks(t, s, 0, []int{4}, []frontier.Want{more, other, second}, 3, 0)
	isOpen(t, s, first, second)
}

// Numbers are given to orders only, and each once.
func TestNumbers(t *testing.T) {
	s := open(t, 1, 5, 20)
	asks(t, s, 0, []int{1}, needs(1, 9), 1, 0)
	for seq := 1; seq < 300; seq++ {
		asks(t, s, 0, []int{3}, needs(seq, seq), seq, 0, 3)
		s.Forget()
	}
}

// A want that nobody can be asked for does not keep others from being asked for.
func TestNobodyForOne(t *testing.T) {
	s := open(t, 1, 5, 20)
	wants := needs(1, 3)
	l := asks(t, s, 0, []int{3}, wants[:1], 1, 0, 3)
	misses(t, s, l[0].Reply(letter.Miss), 0, true)
	asks(t, s, 0, []int{3}, wants, 2, 1, 3, 3)
	isOpen(t, s, wants[1:]...)
}

// Whatever is wanted, and of whomever, no call panics.
func TestStrangeWants(t *testing.T) {
	for i, n := range ends {
		for _, kind := range []int{0, oid.Peer, -1, 256 + oid.Chunk, math.MinInt, math.MaxInt} {
			s := open(t, n+1, 5, 20)
			want := frontier.Want{Kind: kind, ID: api.ID{byte(i)}, Most: ends[len(ends)-1-i]}
			got := s.Ask(0, []int{n}, want)
			if sent := (letter.Letter{Kind: letter.Want, From: n + 1, To: n, Seq: 1, ID: want.ID, What: kind}); !reflect.DeepEqual(got, []letter.Letter{sent}) {
				t.Errorf("Ask: %+v", got)
			}
			isOpen(t, s, want)
			comes(t, s, answer(got[0], "x"), 0, api.ErrSum)
			thought(t, s, n, 0, 0, true)
		}
	}
}

// Whoever has orders that are given up was silent for each of them.
func TestTick(t *testing.T) {
	s := open(t, 1, 5, 20)
	wants := needs(1, 8)
	asks(t, s, 0, []int{3}, wants[:2], 1, 0, 3, 3)
	l := asks(t, s, 2, []int{3, 5}, wants[:5], 3, 2, 3, 3, 5)
	asks(t, s, 3, []int{4}, wants[:6], 6, 5, 4)
	s.Tick(3)
	s.Tick(5)
	isOpen(t, s, wants[:6]...)
	thought(t, s, 3, 0, 0, false)
	s.Tick(6)
	isOpen(t, s, wants[2:6]...)
	thought(t, s, 3, -2, 10, false)
	thought(t, s, 5, 0, 0, false)
	s.Tick(7)
	isOpen(t, s, wants[2:6]...)
	// Also whoever is left alone may still answer.
	comes(t, s, answer(l[0], thing(3).Text), 7, api.OK)
	thought(t, s, 3, -1, 0, false)
	s.Tick(8)
	isOpen(t, s, wants[5])
	thought(t, s, 3, -2, 10, false)
	thought(t, s, 5, -1, 10, false)
	thought(t, s, 4, 0, 0, false)
	s.Tick(8)
	thought(t, s, 3, -2, 10, false)
	// An answer after that comes too late.
	comes(t, s, answer(l[1], thing(4).Text), 8, api.ErrUnknown)
	misses(t, s, l[2].Reply(letter.Miss), 8, false)
	s.Tick(1000)
	isOpen(t, s)
	thought(t, s, 4, -1, 1002, false)
}

// Only Tick gives up.
func TestWithoutTick(t *testing.T) {
	s := open(t, 1, 5, 20)
	l := asks(t, s, 0, []int{3}, needs(1, 2), 1, 0, 3, 3)
	asks(t, s, 100, []int{4}, needs(1, 2), 3, 0)
	isOpen(t, s, needs(1, 2)...)
	comes(t, s, answer(l[0], thing(1).Text), 100, api.OK)
	misses(t, s, l[1].Reply(letter.Miss), api.MaxTick, true)
	thought(t, s, 3, 1, 0, false)
}

// The answer to an order is from its address, with its number, name and kind.
func TestAnswers(t *testing.T) {
	o := thing(3)
	for _, c := range []struct {
		what  string
		spoil func(l *letter.Letter)
	}{
		{"another sender", func(l *letter.Letter) { l.From = 5 }},
		{"the asker", func(l *letter.Letter) { l.From = 1 }},
		{"another number", func(l *letter.Letter) { l.Seq = 0 }},
		{"the number of another order", func(l *letter.Letter) { l.Seq = 1 }},
		{"the number of an order that is over", func(l *letter.Letter) { l.Seq = 2 }},
		{"the number of no order yet", func(l *letter.Letter) { l.Seq = 5 }},
		{"the greatest number", func(l *letter.Letter) { l.Seq = letter.MostSeq }},
		{"another name", func(l *letter.Letter) { l.ID[31] ^= 1 }},
		{"the name of another order", func(l *letter.Letter) { l.ID = thing(1).ID }},
		{"no name", func(l *letter.Letter) { l.ID = api.ID{} }},
		{"another kind of object", func(l *letter.Letter) { l.What = oid.Path }},
		{"the name and kind of another order", func(l *letter.Letter) { l.ID, l.What = thing(1).ID, thing(1).Kind }},
		{"a letter of another kind", func(l *letter.Letter) { l.Kind = letter.Want }},
		{"what others send unasked", func(l *letter.Letter) { l.Kind, l.What = letter.Offer, 0 }},
	} {
		for _, kind := range []int{letter.Block, letter.Miss} {
			s := open(t, 1, 5, 20)
			l := asks(t, s, 0, []int{3}, []frontier.Want{need(thing(1)), need(thing(2)), need(o)}, 1, 0, 3, 3, 3)
			misses(t, s, l[1].Reply(letter.Miss), 0, true)
			asks(t, s, 0, []int{4}, needs(4, 4), 4, 0, 4)
			good := l[2].Reply(kind)
			if kind == letter.Block {
				good.Text = o.Text
			}
			bad := good
			c.spoil(&bad)
			if bad.Kind != letter.Block {
				bad.Text = ""
			}
			if e := bad.Check(); e != api.OK {
				t.Fatalf("%s: the letter is not valid: %d", c.what, e)
			}
			comes(t, s, bad, 1, api.ErrUnknown)
			misses(t, s, bad, 1, false)
			isOpen(t, s, need(thing(1)), need(o), need(thing(4)))
			for n := range 6 {
				thought(t, s, n, 0, 0, false)
			}
			// Neither function takes what the other one takes.
			if kind == letter.Block {
				misses(t, s, good, 1, false)
				comes(t, s, good, 1, api.OK)
			} else {
				comes(t, s, good, 1, api.ErrUnknown)
				misses(t, s, good, 1, true)
			}
			comes(t, s, good, 1, api.ErrUnknown)
			misses(t, s, good, 1, false)
			isOpen(t, s, need(thing(1)), need(thing(4)))
			if t.Failed() {
				t.Fatal(c.what)
			}
		}
	}
}

// An answer counts whomever it is addressed to.
func TestAnswerToAnybody(t *testing.T) {
	s := open(t, 1, 5, 20)
	l := asks(t, s, 0, []int{3}, needs(1, 2), 1, 0, 3, 3)
	b, m := answer(l[0], thing(1).Text), l[1].Reply(letter.Miss)
	b.To, m.To = 63, 63
	comes(t, s, b, 0, api.OK)
	misses(t, s, m, 0, true)
}

func TestBlock(t *testing.T) {
	for kind := oid.Chunk; kind <= oid.Path; kind++ {
		for _, c := range []struct {
			name, text string
			most       int
			want       api.Errno
		}{
			{"some bytes", "some bytes", 10, api.OK},
			{"some bytes", "some bytes", 11, api.OK},
			{"some bytes", "some bytes", math.MaxInt, api.OK},
			{"", "", 0, api.OK},
			{"\x00\xff", "\x00\xff", 2, api.OK},
			{strings.Repeat("z", 512), strings.Repeat("z", 512), 512, api.OK},
			{"some bytes", "some bytes", 9, api.ErrBig},
			{"some bytes", "some bytes", 0, api.ErrBig},
			{"some bytes", "some bytes", -1, api.ErrBig},
			{"some bytes", "some bytes", math.MinInt, api.ErrBig},
			{"", "", -1, api.ErrBig},
			{strings.Repeat("z", 512), strings.Repeat("z", 512), 511, api.ErrBig},
			{"some bytes", "some byteS", 10, api.ErrSum},
			{"some bytes", "", 10, api.ErrSum},
			{"some bytes", "some byte", 10, api.ErrSum},
			{"some bytes", "some bytes\x00", 11, api.ErrSum},
			{"", "\x00", 1, api.ErrSum},
			// Both are wrong.
			{"some bytes", "some bytes!", 10, api.ErrSum},
			{"some bytes", "other bytes", 0, api.ErrSum},
			{"some bytes", "", -1, api.ErrSum},
		} {
			s := open(t, 1, 5, 20)
			want := frontier.Want{Kind: kind, ID: oid.Of(kind, c.name), Most: c.most}
			l := asks(t, s, 0, []int{3}, []frontier.Want{want, need(thing(1))}, 1, 0, 3, 3)
			b := answer(l[0], c.text)
			comes(t, s, b, 1, c.want)
			isOpen(t, s, need(thing(1)))
			p, banned := s.Banned(3)
			if banned != (c.want == api.ErrSum) || banned && p != (repute.Proof{Kind: kind, ID: want.ID, Text: c.text}) {
				t.Errorf("%+v: banned %v by %+v", c, banned, p)
			}
			if good := s.Score(3) == 1; good != (c.want == api.OK) || s.Score(3) < 0 || s.Until(3) != 0 {
				t.Errorf("%+v: score %d until %d", c, s.Score(3), s.Until(3))
			}
			comes(t, s, b, 1, api.ErrUnknown)
			// It may be ordered again, of the same one if it neither lacks it nor is banned.
			to := 4
			if c.want == api.OK {
				to = 3
			}
			asks(t, s, 1, []int{3, 4}, []frontier.Want{want}, 3, 0, to)
		}
	}
}

// The bytes of another kind of object do not have the name.
func TestBlockOfAnotherKind(t *testing.T) {
	s := open(t, 1, 5, 20)
	want := frontier.Want{Kind: oid.Node, ID: oid.Of(oid.Chunk, "hello"), Most: 9}
	l := asks(t, s, 0, []int{3}, []frontier.Want{want}, 1, 0, 3)
	comes(t, s, answer(l[0], "hello"), 0, api.ErrSum)
	if p, ok := s.Banned(3); !ok || p != (repute.Proof{Kind: oid.Node, ID: want.ID, Text: "hello"}) {
		t.Errorf("Banned: %+v, %v", p, ok)
	}
}

// What else was ordered from whoever is banned stays ordered, and the first proof stays.
func TestBannedMeanwhile(t *testing.T) {
	s := open(t, 1, 5, 20)
	l := asks(t, s, 0, []int{3}, needs(1, 4), 1, 0, 3, 3, 3, 3)
	comes(t, s, answer(l[1], "x"), 0, api.ErrSum)
	isOpen(t, s, need(thing(1)), need(thing(3)), need(thing(4)))
	asks(t, s, 0, []int{3}, needs(5, 9), 5, 0)
	comes(t, s, answer(l[0], thing(1).Text), 0, api.OK)
	comes(t, s, answer(l[2], "y"), 0, api.ErrSum)
	if p, ok := s.Banned(3); !ok || p.Text != "x" {
		t.Errorf("Banned: %+v, %v", p, ok)
	}
	s.Tick(6)
	isOpen(t, s)
	thought(t, s, 3, 0, 8, true)
}

// Whoever does not have an object, or has too much of it, is not asked for it for 12 ticks; others are, and for others he is.
func TestMemory(t *testing.T) {
	for _, big := range []bool{false, true} {
		for _, tick := range []bool{false, true} {
			s := open(t, 1, 5, 20)
			wants := needs(1, 2)
			l := asks(t, s, 5, []int{3}, wants[:1], 1, 0, 3)
			if big {
				s.Forget()
				wants[0].Most--
				l = asks(t, s, 5, []int{3}, wants[:1], 2, 0, 3)
				comes(t, s, answer(l[0], thing(1).Text), 10, api.ErrBig)
			} else {
				s.Forget()
				l = asks(t, s, 5, []int{3}, wants[:1], 2, 0, 3)
				misses(t, s, l[0].Reply(letter.Miss), 10, true)
			}
			thought(t, s, 3, 0, 0, false)
			asks(t, s, 10, []int{3, 4}, wants, 3, 0, 4, 3)
			s.Forget()
			for now := 10; now < 22; now++ {
				if tick {
					s.Tick(now)
				}
				asks(t, s, now, []int{3}, wants[:1], 5, 0)
			}
			if tick {
				s.Tick(22)
			}
			asks(t, s, 22, []int{3}, wants[:1], 5, 0, 3)
			if t.Failed() {
				t.Fatalf("too big: %v, with ticks: %v", big, tick)
			}
		}
	}
}

// Who lacks an object once more lacks it for 12 more ticks.
func TestLacksAgain(t *testing.T) {
	s := open(t, 1, 5, 20)
	wants := needs(1, 1)
	asks(t, s, 0, []int{3}, wants, 1, 0, 3)
	misses(t, s, asking(3, 1, wants[0]).Reply(letter.Miss), 0, true)
	asks(t, s, 12, []int{3}, wants, 2, 0, 3)
	misses(t, s, asking(3, 2, wants[0]).Reply(letter.Miss), 14, true)
	s.Tick(25)
	asks(t, s, 25, []int{3}, wants, 3, 0)
	s.Tick(26)
	asks(t, s, 26, []int{3}, wants, 3, 0, 3)
	// Nothing is kept of what was forgotten.
	if len(s.lacks) != 0 {
		t.Errorf("%d lacks", len(s.lacks))
	}
}

// Orders are forgotten, but not who lacks what, and nobody was silent.
func TestForget(t *testing.T) {
	s := open(t, 1, 5, 20)
	wants := needs(1, 8)
	l := asks(t, s, 0, []int{3, 4}, wants, 1, 0, 3, 3, 3, 3, 4, 4, 4, 4)
	misses(t, s, l[0].Reply(letter.Miss), 0, true)
	keep := []api.ID{wants[6].ID, {}, wants[2].ID, thing(99).ID, wants[6].ID, wants[0].ID}
	given := slices.Clone(keep)
	s.Forget(keep...)
	isOpen(t, s, wants[2], wants[6])
	if !slices.Equal(keep, given) {
		t.Error("the argument was changed")
	}
	comes(t, s, answer(l[1], thing(2).Text), 0, api.ErrUnknown)
	misses(t, s, l[7].Reply(letter.Miss), 0, false)
	asks(t, s, 0, []int{3}, wants[:1], 9, 0)
	comes(t, s, answer(l[6], thing(7).Text), 0, api.OK)
	s.Forget(wants[2].ID)
	isOpen(t, s, wants[2])
	s.Forget()
	isOpen(t, s)
	s.Tick(100)
	thought(t, s, 3, 0, 0, false)
	thought(t, s, 4, 1, 0, false)
	asks(t, s, 100, []int{3}, wants[:1], 9, 0, 3)
}
