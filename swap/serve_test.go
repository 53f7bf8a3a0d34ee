package swap

import (
	"math"
	"reflect"
	"strings"
	"testing"

	"caravan/api"
	"caravan/letter"
	"caravan/merkle"
	"caravan/oid"
)

// from is a letter to 1 that asks for an object.
func from(n int, o merkle.Object) letter.Letter {
	return letter.Letter{Kind: letter.Want, From: n, To: 1, Seq: 77, ID: o.ID, What: o.Kind}
}

// serves checks the reply to a letter: of a kind (0: there is none), with these bytes; and what its sender has left.
func serves(t *testing.T, s *Swap, l letter.Letter, src shelf, now, kind int, text string, left int) {
	t.Helper()
	want := letter.Letter{}
	if kind != 0 {
		want = letter.Letter{Kind: kind, From: l.To, To: l.From, Seq: l.Seq, ID: l.ID, What: l.What, Text: text}
	}
	got, ok := s.Serve(l, src, now)
	if ok != (kind != 0) || !reflect.DeepEqual(got, want) {
		t.Errorf("Serve at %d: %+v, %v, not %+v", now, got, ok, want)
	}
	if s.Has(l.From, now) != left {
		t.Errorf("%d has %d left, not %d", l.From, s.Has(l.From, now), left)
	}
}

func TestServe(t *testing.T) {
	s := open(t, 1, 5, 1000)
	src := shelf{}
	left := 1000
	for kind := oid.Chunk; kind <= oid.Path; kind++ {
		for _, text := range []string{"hello", "", "\x00\xff", strings.Repeat("z", 256)} {
			o := merkle.Make(kind, text)
			left--
			serves(t, s, from(3, o), src, 0, letter.Miss, "", left)
			src.put(o)
			left -= 1 + len(text)
			if left < 0 {
				s = open(t, 1, 5, 1000)
				left = 1000 - 1 - len(text)
			}
			serves(t, s, from(3, o), src, 0, letter.Block, text, left)
		}
	}
	serves(t, s, from(4, merkle.Make(oid.Node, "hello")), src, 0, letter.Block, "hello", 994)
	if got, ok := s.Serve(from(5, thing(1)), src, 0); !ok || got.Check() != api.OK {
		t.Errorf("the reply is not valid: %+v", got)
	}
}

// There is no reply to what is no Want, is for somebody else, or is from whoever serves, and it costs nothing.
func TestServeNoReply(t *testing.T) {
	o := thing(1)
	src := shelf{}
	src.put(o)
	for _, own := range ends {
		s := open(t, own, 5, 20)
		for kind := -1; kind <= letter.Offer+1; kind++ {
			l := letter.Letter{Kind: kind, From: 3, To: own, ID: o.ID, What: o.Kind}
			if kind == letter.Want {
				l.To = own - 1
			}
			serves(t, s, l, src, 0, 0, "", 20)
		}
		l := letter.Letter{Kind: letter.Want, From: own, To: own, ID: o.ID, What: o.Kind}
		serves(t, s, l, src, 0, 0, "", 20)
		l.From = 3
		l.ID = thing(2).ID
		serves(t, s, l, src, 0, letter.Miss, "", 19)
		l.ID, l.From, l.To = o.ID, own, 3
		serves(t, s, l, src, 0, 0, "", 20)
	}
}

// An object is there if the source has it with that kind, and with bytes of that name.
func TestServeWhatIsThere(t *testing.T) {
	o, other := thing(1), thing(2)
	named := merkle.Object{Kind: o.Kind, ID: other.ID, Text: o.Text}
	for _, c := range []struct {
		what string
		x    entry
		kind int
	}{
		{"the object", entry{o, api.OK}, letter.Block},
		{"under another name, which Get says nowhere", entry{named, api.OK}, letter.Block},
		{"another kind", entry{merkle.Object{Kind: o.Kind + 1, ID: o.ID, Text: o.Text}, api.OK}, letter.Miss},
		{"no kind", entry{merkle.Object{ID: o.ID, Text: o.Text}, api.OK}, letter.Miss},
		{"a kind that is the same in eight bits", entry{merkle.Object{Kind: o.Kind + 256, ID: o.ID, Text: o.Text}, api.OK}, letter.Miss},
		{"other bytes", entry{merkle.Object{Kind: o.Kind, ID: o.ID, Text: o.Text + "!"}, api.OK}, letter.Miss},
		{"no bytes", entry{merkle.Object{Kind: o.Kind, ID: o.ID}, api.OK}, letter.Miss},
		{"another object", entry{other, api.OK}, letter.Miss},
		{"an error", entry{merkle.Object{}, api.ErrIO}, letter.Miss},
		{"the object with an error", entry{o, api.ErrSum}, letter.Miss},
		{"an end", entry{o, api.ErrEnd}, letter.Miss},
	} {
		s := open(t, 1, 5, 20)
		text, left := "", 19
		if c.kind == letter.Block {
			text, left = o.Text, 19-len(o.Text)
		}
		serves(t, s, from(3, o), shelf{o.ID: c.x}, 0, c.kind, text, left)
		if t.Failed() {
			t.Fatal(c.what)
		}
	}
	// The kind is that of the letter, not only that of the object.
	s := open(t, 1, 5, 20)
	l := from(3, o)
	l.What++
	serves(t, s, l, shelf{o.ID: entry{o, api.OK}}, 0, letter.Miss, "", 19)
	o.Kind++
	serves(t, s, l, shelf{o.ID: entry{o, api.OK}}, 0, letter.Miss, "", 18)
}

// A reply costs 1 plus its bytes; if that is not there, there is none, and nothing is taken.
func TestServeCost(t *testing.T) {
	o, big := merkle.Make(oid.Chunk, "12345"), merkle.Make(oid.Chunk, "1234567")
	none := thing(1)
	src := shelf{}
	src.put(o, big)
	s := open(t, 1, 2, 7)
	// What is there is no Miss, even if the quota is never enough.
	serves(t, s, from(3, big), src, 0, 0, "", 7)
	serves(t, s, from(3, big), src, api.MaxTick, 0, "", 7)
	s = open(t, 1, 2, 7)
	serves(t, s, from(3, none), src, 0, letter.Miss, "", 6)
	serves(t, s, from(3, o), src, 0, letter.Block, "12345", 0)
	serves(t, s, from(3, o), src, 0, 0, "", 0)
	serves(t, s, from(3, none), src, 0, 0, "", 0)
	// Each address has its own share.
	serves(t, s, from(4, o), src, 0, letter.Block, "12345", 1)
	serves(t, s, from(4, o), src, 0, 0, "", 1)
	serves(t, s, from(4, none), src, 0, letter.Miss, "", 0)
	serves(t, s, from(4, none), src, 0, 0, "", 0)
	// The shares grow.
	serves(t, s, from(3, o), src, 2, 0, "", 4)
	serves(t, s, from(3, none), src, 2, letter.Miss, "", 3)
	serves(t, s, from(3, o), src, 3, 0, "", 5)
	serves(t, s, from(3, o), src, 4, letter.Block, "12345", 1)
	serves(t, s, from(3, o), src, 6, 0, "", 5)
	serves(t, s, from(3, o), src, 7, letter.Block, "12345", 1)
	// What is taken otherwise counts, too.
	s.Take(5, 2, 7)
	serves(t, s, from(5, o), src, 7, 0, "", 5)
	serves(t, s, from(5, none), src, 7, letter.Miss, "", 4)
}

// Whoever is banned, or left alone, is served; whom a node serves is not what this layer decides.
func TestServeAnybody(t *testing.T) {
	o := thing(1)
	src := shelf{}
	src.put(o)
	for _, n := range ends[2:] {
		s := open(t, 1, 5, 20)
		l := asks(t, s, 0, []int{n}, needs(2, 3), 1, 0, n, n)
		s.Silent(n, 0)
		comes(t, s, answer(l[0], "x"), 0, api.ErrSum)
		serves(t, s, from(n, o), src, 0, letter.Block, o.Text, 19-len(o.Text))
		// Also what was itself ordered.
		serves(t, s, from(n, thing(2)), src, 0, letter.Miss, "", 18-len(o.Text))
		isOpen(t, s, need(thing(3)))
	}
}

// The reply has nothing of the letter but its number, name and kind of object.
func TestServeStrangeLetters(t *testing.T) {
	o := thing(1)
	src := shelf{}
	src.put(o)
	s := open(t, 1, 5, 20)
	l := from(3, o)
	l.Text, l.Peers, l.Holders = "more", []int{1}, []int{2}
	for _, seq := range []int{0, letter.MostSeq, -1, math.MinInt, math.MaxInt} {
		l.Seq = seq
		serves(t, s, l, src, 100*(seq&1), letter.Block, o.Text, 19-len(o.Text))
		s = open(t, 1, 5, 20)
	}
	l.ID = thing(2).ID
	serves(t, s, l, src, 0, letter.Miss, "", 19)
}
