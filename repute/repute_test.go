package repute

import (
	"bytes"
	"encoding/hex"
	"math"
	"math/rand"
	"slices"
	"strconv"
	"strings"
	"testing"

	"caravan/api"
	"caravan/oid"
)

// The signatures that the chapter lists: a variable number of addresses is sorted.
var (
	_ func(Proof) bool                       = Proof.Holds
	_ func() *Book                           = New
	_ func(*Book, int)                       = (*Book).Good
	_ func(b *Book, n, now int)              = (*Book).Silent
	_ func(*Book, int, Proof) api.Errno      = (*Book).Ban
	_ func(*Book, int) (Proof, bool)         = (*Book).Banned
	_ func(*Book, int) int                   = (*Book).Score
	_ func(*Book, int) int                   = (*Book).Until
	_ func(b *Book, n, now int) bool         = (*Book).May
	_ func(b *Book, now int, l ...int) []int = (*Book).Sort
	_                                        = Proof{Kind: 1, ID: api.ID{}, Text: ""} == Proof{}
	_                                        = [1]int{}[FirstWait-2+MostWait-32+MostScore-20]
	_ struct {
		Kind int
		ID   api.ID
		Text string
	} = Proof{}
)

// ends are numbers of addresses; any number is one.
var ends = []int{0, 1, -1, 63, 64, 1 << 40, math.MinInt, math.MaxInt}

// wrong is a proof that holds, and right is one that does not.
var (
	wrong = Proof{Kind: oid.Chunk, ID: api.ID{1}, Text: "x"}
	right = Proof{Kind: oid.Chunk, ID: oid.Of(oid.Chunk, "x"), Text: "x"}
)

// state checks all that a book knows of an address.
func state(t *testing.T, b *Book, n, score, until int, banned bool) {
	t.Helper()
	if b.Score(n) != score || b.Until(n) != until {
		t.Errorf("%d: score %d until %d, not %d until %d", n, b.Score(n), b.Until(n), score, until)
	}
	if p, ok := b.Banned(n); ok != banned || !ok && p != (Proof{}) {
		t.Errorf("%d: Banned: %+v, %v", n, p, ok)
	}
	for _, now := range []int{0, until - 1, until, until + 1, api.MaxTick} {
		if b.May(n, now) != (!banned && now >= until) {
			t.Errorf("%d: May at %d: %v", n, now, b.May(n, now))
		}
	}
}

func bans(t *testing.T, b *Book, n int, p Proof, want api.Errno) {
	t.Helper()
	if e := b.Ban(n, p); e != want {
		t.Errorf("Ban(%d, %+v): %d, not %d", n, p, e, want)
	}
}

func sorted(t *testing.T, b *Book, now int, l []int, want ...int) {
	t.Helper()
	given := slices.Clone(l)
	if got := b.Sort(now, l...); !slices.Equal(got, want) {
		t.Errorf("Sort at %d: %v, not %v", now, got, want)
	}
	if !slices.Equal(l, given) {
		t.Errorf("Sort made %v of %v", l, given)
	}
}

func TestExample(t *testing.T) {
	b := New()
	for _, until := range []int{2, 4, 8} {
		b.Silent(5, 0)
		if b.Until(5) != until || b.May(5, until-1) || !b.May(5, until) {
			t.Errorf("until %d, not %d", b.Until(5), until)
		}
	}
}

func TestInitial(t *testing.T) {
	b := New()
	for _, n := range ends {
		state(t, b, n, 0, 0, false)
	}
	sorted(t, b, 0, nil)
	sorted(t, b, 0, []int{})
	sorted(t, b, 0, ends, math.MinInt, -1, 0, 1, 63, 64, 1<<40, math.MaxInt)
}

// The names are as another program computed them.
func TestHolds(t *testing.T) {
	const (
		hello = "bf028f29a3928796f5902a5d15ce71427073eb5f481d0f2e8d0d2c9985c22197"
		node  = "8604a2c971eb21ebcafc40adedc18412194957c753f7bde1a03f4d64421bb8d9"
		empty = "361e4f8361c685c70b81436e2b4052a9e5e9a665b6cbc0debe827b345d0fe61d"
		peer  = "1a587eb2b9e5085584e1e9a4879857b500fa90011e8b044da13366c5a685b5bc"
		none  = "96485a221499373d631fac56845db5e73a011b9d7b0922ec09b7246b1dda6e84"
		last  = "e8ab0336c4b7e80f092a67ad15a11e0006467fed67565cba198e514528614f21"
	)
	zero := strings.Repeat("0", 64)
	for _, c := range []struct {
		kind     int
		id, text string
		want     bool
	}{
		{oid.Chunk, hello, "hello", false},
		{oid.Node, node, "hello", false},
		{oid.Path, empty, "", false},
		{oid.Peer, peer, "\x00\xff", false},
		{0, none, "x", false},
		{255, last, "x", false},
		// Only the lowest eight bits of a kind count.
		{256, none, "x", false},
		{-1, last, "x", false},
		{oid.Chunk - 256, hello, "hello", false},
		{math.MaxInt, last, "x", false},
		{math.MinInt, none, "x", false},
		{oid.Node, hello, "hello", true},
		{oid.Chunk, node, "hello", true},
		{oid.Chunk, hello, "hello ", true},
		{oid.Chunk, hello, "hell", true},
		{oid.Chunk, hello, "Hello", true},
		{oid.Chunk, hello, "", true},
		{oid.Chunk, hello, "hello\x00", true},
		{oid.Chunk, "be" + hello[2:], "hello", true},
		{oid.Chunk, hello[:62] + "96", "hello", true},
		{oid.Chunk, zero, "hello", true},
		{0, zero, "", true},
		{oid.Path, empty, "\x00", true},
		{oid.Peer, peer, "\x00\xfe", true},
		{256, last, "x", true},
	} {
		raw, _ := hex.DecodeString(c.id)
		p := Proof{c.kind, api.ID(raw), c.text}
		if p.Holds() != c.want {
			t.Errorf("%d %s %q: %v", c.kind, c.id[:8], c.text, p.Holds())
		}
		want := api.ErrArg
		if c.want {
			want = api.OK
		}
		b := New()
		bans(t, b, 3, p, want)
		state(t, b, 3, 0, 0, c.want)
	}
	if long := strings.Repeat("ab", 100000); (Proof{9, oid.Of(9, long), long}).Holds() || !(Proof{9, oid.Of(9, long), long[1:]}).Holds() {
		t.Error("a long text")
	}
}

func TestWaits(t *testing.T) {
	for _, n := range ends {
		b := New()
		for i, until := range []int{102, 104, 108, 116, 132, 132, 132} {
			b.Silent(n, 100)
			state(t, b, n, -i-1, until, false)
		}
		b.Silent(n, 101)
		state(t, b, n, -8, 133, false)
		b.Silent(n, api.MaxTick)
		state(t, b, n, -9, api.MaxTick+32, false)
	}
}

// Whoever is left alone for longer already is left alone for that long.
func TestLonger(t *testing.T) {
	b := New()
	for _, c := range []struct{ now, until int }{
		{100, 102}, {0, 102}, {93, 102}, {86, 102}, {69, 102}, {70, 102}, {71, 103}, {0, 103}, {103, 135},
	} {
		b.Silent(5, c.now)
		if b.Until(5) != c.until {
			t.Errorf("silent at %d: until %d, not %d", c.now, b.Until(5), c.until)
		}
	}
}

func TestGood(t *testing.T) {
	for _, n := range ends {
		b := New()
		for range 3 {
			b.Silent(n, 50)
		}
		b.Good(n)
		state(t, b, n, -2, 0, false)
		// There is no wait that could be doubled.
		b.Silent(n, 10)
		state(t, b, n, -3, 12, false)
		b.Silent(n, 11)
		state(t, b, n, -4, 15, false)
		b.Good(n)
		b.Good(n)
		state(t, b, n, -2, 0, false)
		b.Silent(n, 0)
		state(t, b, n, -3, 2, false)
	}
}

func TestScores(t *testing.T) {
	b := New()
	for i := range 25 {
		b.Good(1)
		state(t, b, 1, min(i+1, 20), 0, false)
	}
	for i := range 50 {
		b.Silent(1, 0)
		if want := max(19-i, -20); b.Score(1) != want {
			t.Errorf("after %d silences: %d, not %d", i+1, b.Score(1), want)
		}
	}
	for i := range 50 {
		b.Good(1)
		state(t, b, 1, min(i-19, 20), 0, false)
	}
	state(t, b, 2, 0, 0, false)
}

func TestBan(t *testing.T) {
	for _, n := range ends {
		b := New()
		bans(t, b, n, right, api.ErrArg)
		state(t, b, n, 0, 0, false)
		bans(t, b, n, wrong, api.OK)
		state(t, b, n, 0, 0, true)
		// The first proof counts.
		bans(t, b, n, Proof{oid.Node, right.ID, "x"}, api.OK)
		bans(t, b, n, Proof{oid.Chunk, wrong.ID, "y"}, api.OK)
		bans(t, b, n, right, api.ErrArg)
		if p, ok := b.Banned(n); !ok || p != wrong {
			t.Errorf("%d: banned by %+v, %v", n, p, ok)
		}
		for _, other := range ends {
			if other != n {
				state(t, b, other, 0, 0, false)
			}
		}
	}
}

// A proof that holds may have nothing in it.
func TestBanByNothing(t *testing.T) {
	b := New()
	bans(t, b, 4, Proof{}, api.OK)
	bans(t, b, 4, wrong, api.OK)
	if p, ok := b.Banned(4); !ok || p != (Proof{}) {
		t.Errorf("Banned: %+v, %v", p, ok)
	}
	state(t, b, 4, 0, 0, true)
	sorted(t, b, 0, []int{4, 5}, 5)
}

// A ban is for ever, whatever else is recorded, and what is recorded goes on.
func TestBannedGoesOn(t *testing.T) {
	b := New()
	b.Silent(5, 10)
	bans(t, b, 5, wrong, api.OK)
	state(t, b, 5, -1, 12, true)
	b.Silent(5, 10)
	state(t, b, 5, -2, 14, true)
	b.Good(5)
	state(t, b, 5, -1, 0, true)
	for range 30 {
		b.Good(5)
	}
	state(t, b, 5, 20, 0, true)
	bans(t, b, 5, right, api.ErrArg)
	if p, _ := b.Banned(5); p != wrong {
		t.Errorf("Banned: %+v", p)
	}
	sorted(t, b, api.MaxTick, []int{5})
}

func TestSort(t *testing.T) {
	b := New()
	for n, goods := range map[int]int{1: 2, 2: 5, 3: 2, 4: 20, 5: 30, 6: 1, math.MinInt: 2, math.MaxInt: 2} {
		for range goods {
			b.Good(n)
		}
	}
	b.Silent(2, 10) // score 4, until 12
	b.Silent(6, 10)
	b.Silent(6, 10) // score -1, until 14
	b.Silent(7, 10) // score -1, until 12
	b.Silent(7, 11) // score -2, until 15
	bans(t, b, 3, wrong, api.OK)
	for _, c := range []struct {
		now     int
		l, want []int
	}{
		{20, []int{1, 2, 3, 4, 5, 6, 7, 8}, []int{4, 5, 2, 1, 8, 6, 7}},
		{20, []int{8, 7, 6, 5, 4, 3, 2, 1}, []int{4, 5, 2, 1, 8, 6, 7}},
		{15, []int{8, 7, 6, 5, 4, 3, 2, 1}, []int{4, 5, 2, 1, 8, 6, 7}},
		{14, []int{8, 7, 6, 5, 4, 3, 2, 1}, []int{4, 5, 2, 1, 8, 6}},
		{13, []int{8, 7, 6, 5, 4, 3, 2, 1}, []int{4, 5, 2, 1, 8}},
		{12, []int{8, 7, 6, 5, 4, 3, 2, 1}, []int{4, 5, 2, 1, 8}},
		{11, []int{8, 7, 6, 5, 4, 3, 2, 1}, []int{4, 5, 1, 8}},
		{0, []int{8, 7, 6, 5, 4, 3, 2, 1}, []int{4, 5, 1, 8}},
		{api.MaxTick, []int{7, 6, 5}, []int{5, 6, 7}},
		{20, []int{5, math.MaxInt, 9, 1, math.MinInt, -9, 0, 4}, []int{4, 5, math.MinInt, 1, math.MaxInt, -9, 0, 9}},
		{20, []int{3}, nil},
		{0, []int{3, 2, 7, 6, 3}, nil},
		// Who is named repeatedly is there repeatedly.
		{20, []int{8, 1, 8, 3, 1, 4, 3}, []int{4, 1, 1, 8, 8}},
	} {
		sorted(t, b, c.now, c.l, c.want...)
	}
}

// event is one call of a log, from which a slow model tells what the book should know.
type event struct {
	what   string
	n, now int
	p      Proof
}

// replay returns the score of an address, until when it is left alone, and the proofs against it that hold.
func replay(log []event, n int) (score, until int, against []Proof) {
	silences := 0 // since it was good
	for _, e := range log {
		if e.n != n {
			continue
		}
		switch e.what {
		case "good":
			if score < 20 {
				score++
			}
			silences, until = 0, 0
		case "silent":
			if score > -20 {
				score--
			}
			wait := []int{2, 4, 8, 16, 32}[min(silences, 4)]
			silences++
			if e.now+wait > until {
				until = e.now + wait
			}
		case "ban":
			if oid.Of(e.p.Kind, e.p.Text) != e.p.ID {
				against = append(against, e.p)
			}
		}
	}
	return score, until, against
}

// agree compares a book with a log at some addresses and a tick.
func agree(t *testing.T, b *Book, log []event, now int, l []int) {
	t.Helper()
	var may []int
	scores := map[int]int{}
	for _, n := range l {
		score, until, against := replay(log, n)
		p, banned := b.Banned(n)
		if b.Score(n) != score || b.Until(n) != until || banned != (len(against) > 0) || banned && p != against[0] || !banned && p != (Proof{}) {
			t.Fatalf("%d: %d until %d, %v, after %d calls", n, b.Score(n), b.Until(n), banned, len(log))
		}
		if b.May(n, now) != (!banned && until <= now) {
			t.Fatalf("%d: May at %d: %v", n, now, b.May(n, now))
		}
		if !banned && until <= now {
			may = append(may, n)
		}
		scores[n] = score
	}
	// The slowest of all sorts: whoever is worse goes behind.
	for range may {
		for i := range len(may) - 1 {
			x, y := may[i], may[i+1]
			if scores[x] < scores[y] || scores[x] == scores[y] && x > y {
				may[i], may[i+1] = y, x
			}
		}
	}
	if got := b.Sort(now, l...); !slices.Equal(got, may) {
		t.Fatalf("Sort at %d of %v: %v, not %v", now, l, got, may)
	}
}

// call makes one call on a book, and returns it for the log.
func call(t *testing.T, b *Book, k, n, now int) event {
	t.Helper()
	switch {
	case k < 9:
		b.Silent(n, now)
		return event{what: "silent", n: n, now: now}
	case k < 17:
		b.Good(n)
		return event{what: "good", n: n}
	case k < 19:
		p := Proof{k, oid.Of(k, strconv.Itoa(now)), strconv.Itoa(now)}
		bans(t, b, n, p, api.ErrArg)
		return event{what: "ban", n: n, p: p}
	}
	p := Proof{k, oid.Of(k, "x"), strconv.Itoa(now)}
	bans(t, b, n, p, api.OK)
	return event{what: "ban", n: n, p: p}
}

func TestRandomHistories(t *testing.T) {
	histories := 60
	if testing.Short() {
		histories = 6
	}
	for seed := range histories {
		r := rand.New(rand.NewSource(int64(seed)))
		l := slices.Clone(ends[:2+r.Intn(len(ends)-2)])
		b, log, now := New(), []event(nil), r.Intn(3)*(api.MaxTick/2-200)
		for range 300 {
			// In some histories the ticks go back, too.
			at := max(0, now-r.Intn(1+20*(seed%2)))
			now += r.Intn(1 + 12*r.Intn(2))
			k := r.Intn(20)
			if k > 18 && r.Intn(8) > 0 {
				k = 0
			}
			log = append(log, call(t, b, k, l[r.Intn(len(l))], at))
			r.Shuffle(len(l), func(i, j int) { l[i], l[j] = l[j], l[i] })
			agree(t, b, log, at+r.Intn(40), l)
		}
	}
}

// Whoever never sent bytes under a wrong name is never banned, whatever the others do.
func TestJust(t *testing.T) {
	r := rand.New(rand.NewSource(23))
	b := New()
	liars := map[int]bool{}
	for step := range 3000 {
		n := r.Intn(20)
		text := strings.Repeat("z", r.Intn(300))
		kind := 1 + r.Intn(4)
		p := Proof{kind, oid.Of(kind, text), text}
		want := api.ErrArg
		if n%3 == 0 && r.Intn(4) == 0 {
			p.ID[r.Intn(32)] ^= 1 << r.Intn(8)
			liars[n], want = true, api.OK
		}
		bans(t, b, n, p, want)
		b.Silent(r.Intn(20), step)
		for n := range 20 {
			if _, banned := b.Banned(n); banned != liars[n] || b.May(n, step+32) == banned {
				t.Fatalf("step %d, %d: %v", step, n, banned)
			}
		}
	}
	if len(liars) != 7 {
		t.Errorf("%d liars", len(liars))
	}
}

// Nobody is left alone for more than 32 ticks after the last silence.
func TestNotForLong(t *testing.T) {
	r := rand.New(rand.NewSource(24))
	b := New()
	var last [8]int
	longest := 0
	for step := range 5000 {
		now := step / 3
		n := r.Intn(8)
		if r.Intn(9) == 0 {
			b.Good(n)
		} else {
			b.Silent(n, now)
			last[n] = now
		}
		for n := range 8 {
			longest = max(longest, b.Until(n)-last[n])
			if !b.May(n, last[n]+32) {
				t.Fatalf("%d is left alone until %d after its silence at %d", n, b.Until(n), last[n])
			}
		}
	}
	if longest != 32 {
		t.Errorf("at most %d ticks", longest)
	}
}

func TestResultsAreApart(t *testing.T) {
	b := New()
	b.Good(2)
	l := []int{1, 2, 3}
	got, again := b.Sort(0, l...), b.Sort(0, l...)
	clear(again)
	_ = append(again[:0], 9, 9, 9)
	clear(l)
	b.Good(3)
	b.Good(3)
	b.Silent(2, 0)
	bans(t, b, 1, wrong, api.OK)
	if !slices.Equal(got, []int{2, 1, 3}) {
		t.Errorf("the result became %v", got)
	}
	sorted(t, b, 0, []int{1, 2, 3}, 3)
}

func TestBooksAreApart(t *testing.T) {
	x, y := New(), New()
	x.Good(1)
	x.Silent(2, 5)
	bans(t, x, 3, wrong, api.OK)
	for n := range 4 {
		state(t, y, n, 0, 0, false)
	}
	y.Silent(1, 9)
	y.Good(2)
	state(t, x, 1, 1, 0, false)
	state(t, x, 2, -1, 7, false)
	state(t, x, 3, 0, 0, true)
}

// The same calls return the same again, and asking changes nothing.
func TestTheSameAgain(t *testing.T) {
	run := func(ask bool) string {
		r := rand.New(rand.NewSource(4))
		b := New()
		var out bytes.Buffer
		for step := range 2000 {
			n := r.Intn(30) - 10
			call(t, b, r.Intn(19), n, step)
			if r.Intn(300) == 0 {
				bans(t, b, n, wrong, api.OK)
			}
			for _, n := range b.Sort(step, r.Perm(25)...) {
				out.WriteString(strconv.Itoa(n) + " " + strconv.Itoa(b.Score(n)) + " ")
			}
			if ask {
				b.Score(n + 50)
				b.Until(n + 50)
				b.May(n, api.MaxTick)
				b.Banned(n + 50)
				b.Sort(0, n, n+50)
				b.Ban(n, right)
			}
		}
		return out.String()
	}
	if a, b, c := run(false), run(false), run(true); a != b || a != c {
		t.Error("other results")
	}
}

func FuzzHistories(f *testing.F) {
	f.Add([]byte("\x00\x03\x0a\x01\x03\x05\x42\x00\x09\x13\x03\x00"))
	f.Add(bytes.Repeat([]byte{1, 2, 3, 5, 8, 13, 21, 34, 55, 89, 144, 233}, 20))
	f.Fuzz(func(t *testing.T, calls []byte) {
		b := New()
		var log []event
		l := []int{-2, -1, 0, 1, 2, 3}
		for i := 0; i+2 < min(len(calls), 600); i += 3 {
			n, now := l[int(calls[i+1])%len(l)], int(calls[i+2])
			log = append(log, call(t, b, int(calls[i]%20), n, now))
			agree(t, b, log, now, l)
		}
	})
}
