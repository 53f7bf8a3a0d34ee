package seek

import (
	"bytes"
	"maps"
	"math"
	"math/big"
	"math/rand"
	"slices"
	"strconv"
	"testing"

	"caravan/api"
	"caravan/bucket"
	"caravan/hash"
	"caravan/letter"
)

// The signatures that the chapter lists: a search begins with, and hears of, a variable number of addresses.
var (
	_ func(goal api.ID, own int, known ...int) *Seek = New
	_ func(*Seek) api.ID                             = (*Seek).Goal
	_ func(*Seek, int) []int                         = (*Seek).Ask
	_ func(*Seek, letter.Letter) bool                = (*Seek).Hear
	_ func(s *Seek, l ...int)                        = (*Seek).Has
	_ func(*Seek) []int                              = (*Seek).Holders
	_ func(*Seek) bool                               = (*Seek).Over
	_ func(*Seek) []int                              = (*Seek).Nearest
	_                                                = [1]int{}[Wide-3+Near-6+Waits-8]
)

var goal = api.ID{0x55}

// order is all addresses in ascending order of distance from the goal, as another program computed it.
var order = []int{60, 59, 36, 4, 14, 38, 20, 46, 12, 47, 40, 34, 10, 62, 17, 57, 8, 39, 52, 2, 19, 51, 24, 13, 0, 21, 42, 27, 25, 28, 18, 15, 16, 53, 37, 30, 6, 33, 41, 44, 1, 31, 55, 54, 5, 61, 22, 23, 32, 11, 49, 45, 7, 9, 56, 63, 29, 35, 48, 43, 50, 3, 58, 26}

// strange are numbers that are no addresses.
var strange = []int{-1, 64, 65, 255, 256, 316, -196, math.MinInt, math.MaxInt}

// near is an answer of an address.
func near(from int, peers ...int) letter.Letter {
	return letter.Letter{Kind: letter.Near, From: from, ID: goal, Peers: peers}
}

// asks checks whom a search asks at a tick.
func asks(t *testing.T, s *Seek, now int, want ...int) {
	t.Helper()
	if got := s.Ask(now); !slices.Equal(got, want) {
		t.Errorf("at %d it asks %v, not %v", now, got, want)
	}
}

// hears gives a search an answer that counts.
func hears(t *testing.T, s *Seek, from int, peers ...int) {
	t.Helper()
	if !s.Hear(near(from, peers...)) {
		t.Errorf("the answer of %d does not count", from)
	}
}

// refuses gives a search an answer that does not count.
func refuses(t *testing.T, s *Seek, from int, peers ...int) {
	t.Helper()
	if s.Hear(near(from, peers...)) {
		t.Errorf("the answer of %d counts", from)
	}
}

// is checks whether a search is over, and which addresses have told.
func is(t *testing.T, s *Seek, over bool, nearest ...int) {
	t.Helper()
	if s.Over() != over {
		t.Errorf("over: %v", s.Over())
	}
	if got := s.Nearest(); !slices.Equal(got, nearest) {
		t.Errorf("the nearest are %v, not %v", got, nearest)
	}
}

func holds(t *testing.T, s *Seek, want ...int) {
	t.Helper()
	if got := s.Holders(); !slices.Equal(got, want) {
		t.Errorf("the holders are %v, not %v", got, want)
	}
}

// phases of the model below.
const (
	isFresh = iota + 1
	isAsked
	hasTold
	isSilent
)

// search is a search as the chapter says it, with nothing to make it quick.
type search struct {
	goal    api.ID
	own     int
	phases  map[int]int
	since   map[int]*big.Int
	holders map[int]bool
}

func newSearch(goal api.ID, own int, known ...int) *search {
	w := &search{goal: goal, own: own, phases: map[int]int{}, since: map[int]*big.Int{}, holders: map[int]bool{}}
	w.meet(known)
	return w
}

func (w *search) meet(l []int) {
	for _, n := range l {
		if _, met := w.phases[n]; !met && n != w.own && 0 <= n && n <= 63 {
			w.phases[n] = isFresh
		}
	}
}

// distance is the distance of an address from the goal, as a number.
func (w *search) distance(address int) *big.Int {
	name := hash.Of("crv\x04\x00\x00\x00\x01" + string([]byte{byte(address)}))
	return new(big.Int).Xor(new(big.Int).SetBytes(w.goal[:]), new(big.Int).SetBytes(name[:]))
}

// first is at most six addresses for which ok holds, the nearest first.
func (w *search) first(ok func(phase int) bool) []int {
	distances := map[int]*big.Int{}
	for n, phase := range w.phases {
		if ok(phase) {
			distances[n] = w.distance(n)
		}
	}
	var l []int
	for len(l) < 6 && len(distances) > 0 {
		least := -1
		for n, d := range distances {
			if least < 0 || d.Cmp(distances[least]) < 0 {
				least = n
			}
		}
		l = append(l, least)
		delete(distances, least)
	}
	return l
}

func (w *search) theNearest() []int {
	return w.first(func(phase int) bool { return phase != isSilent })
}

// asked is whom the search waits for, in ascending order.
func (w *search) asked() []int {
	var l []int
	for n, phase := range w.phases {
		if phase == isAsked {
			l = append(l, n)
		}
	}
	slices.Sort(l)
	return l
}

func (w *search) ask(now int) []int {
	tick := big.NewInt(int64(now))
	for n, phase := range w.phases {
		if phase == isAsked && new(big.Int).Sub(tick, w.since[n]).Cmp(big.NewInt(8)) >= 0 {
			w.phases[n] = isSilent
		}
	}
	var l []int
	for _, n := range w.theNearest() {
		if w.phases[n] == isFresh && len(w.asked()) < 3 {
			w.phases[n], w.since[n] = isAsked, tick
			l = append(l, n)
		}
	}
	return l
}

func (w *search) hear(l letter.Letter) bool {
	if l.Kind != 4 || l.ID != w.goal || w.phases[l.From] != isAsked {
		return false
	}
	w.phases[l.From] = hasTold
	w.meet(l.Peers)
	w.has(l.Holders)
	return true
}

func (w *search) has(l []int) {
	for _, n := range l {
		if n != w.own && 0 <= n && n <= 63 {
			w.holders[n] = true
		}
	}
}

func (w *search) over() bool {
	for _, n := range w.theNearest() {
		if w.phases[n] != hasTold {
			return false
		}
	}
	return true
}

// same reports whether a search says of itself what the model says.
func (w *search) same(s *Seek) bool {
	nearest := w.first(func(phase int) bool { return phase == hasTold })
	return s.Goal() == w.goal && s.Over() == w.over() && slices.Equal(s.Nearest(), nearest) &&
		slices.Equal(s.Holders(), slices.Sorted(maps.Keys(w.holders)))
}

func TestExample(t *testing.T) {
	for _, known := range [][]int{nil, {}, {5}, {5, 5, -1, 64, math.MinInt, math.MaxInt}} {
		s := New(goal, 5, known...)
		is(t, s, true)
		holds(t, s)
		asks(t, s, 0)
		asks(t, s, 100)
		is(t, s, true)
	}
}

func TestGoal(t *testing.T) {
	for _, name := range []api.ID{{}, goal, bucket.ID(3), {31: 1}} {
		if s := New(name, 0, 1, 2, 3); s.Goal() != name {
			t.Errorf("the goal is %x", s.Goal())
		}
	}
}

func TestNew(t *testing.T) {
	s := New(goal, 4, append([]int{60, 4, 59, 60, 60}, strange...)...)
	is(t, s, false)
	holds(t, s)
	asks(t, s, 0, 60, 59)
	asks(t, s, 0)
	// An own number that is no address has the name of one, which is met as any other.
	for _, own := range []int{-196, 316, math.MaxInt} {
		s = New(goal, own, 60, own)
		asks(t, s, 0, 60)
		s.Has(60, own)
		holds(t, s, 60)
	}
}

// Those that are met in whatever order are asked in the order of their distance.
func TestOrder(t *testing.T) {
	r := rand.New(rand.NewSource(1))
	for range 20 {
		s := New(goal, -1, r.Perm(64)...)
		for i := range 6 {
			if i == 0 {
				asks(t, s, 0, order[:3]...)
			} else if i < 4 {
				asks(t, s, 0, order[i+2])
			} else {
				asks(t, s, 0)
			}
			is(t, s, false, order[:i]...)
			hears(t, s, order[i])
		}
		is(t, s, true, order[:6]...)
		asks(t, s, 0)
		asks(t, s, 100)
	}
}

func TestWide(t *testing.T) {
	s := New(goal, 0, order[:6]...)
	asks(t, s, 0, order[:3]...)
	asks(t, s, 7)
	hears(t, s, order[1])
	hears(t, s, order[2])
	is(t, s, false, order[1:3]...)
	asks(t, s, 7, order[3:5]...)
	asks(t, s, 7)
	hears(t, s, order[3])
	asks(t, s, 7, order[5])
	hears(t, s, order[5])
	asks(t, s, 7)
	hears(t, s, order[4])
	asks(t, s, 7)
	is(t, s, false, order[1:6]...)
	hears(t, s, order[0])
	is(t, s, true, order[:6]...)
}

// Those that are asked count even if others turned out to be nearer, and the search does not need their answers then.
func TestAskedAreFarther(t *testing.T) {
	s := New(goal, 0, 3, 58, 26)
	asks(t, s, 0, 3, 58, 26)
	hears(t, s, 3, order[:8]...)
	is(t, s, false, 3)
	asks(t, s, 1, order[0])
	asks(t, s, 1)
	hears(t, s, order[0])
	asks(t, s, 2, order[1])
	hears(t, s, order[1])
	is(t, s, false, order[0], order[1], 3)
	asks(t, s, 7, order[2])
	asks(t, s, 8, order[3:5]...)
}

func TestOverWhileSomebodyIsAsked(t *testing.T) {
	s := New(goal, 0, 3, 58, 26)
	asks(t, s, 0, 3, 58, 26)
	hears(t, s, 26, order[:8]...)
	for i := range 6 {
		is(t, s, false, slices.Concat(order[:i], []int{26})...)
		asks(t, s, 1, order[i])
		hears(t, s, order[i])
	}
	is(t, s, true, order[:6]...)
	asks(t, s, 1)
	hears(t, s, 58)
	is(t, s, true, order[:6]...)
	asks(t, s, 8)
	refuses(t, s, 3)
	is(t, s, true, order[:6]...)
}

// A late answer may name nearer ones, so that a search that was over goes on.
func TestOverNoMore(t *testing.T) {
	s := New(goal, 0, 58, 26)
	asks(t, s, 0, 58, 26)
	hears(t, s, 58, order[10:16]...)
	asks(t, s, 1, order[10:12]...)
	hears(t, s, order[10])
	hears(t, s, order[11])
	asks(t, s, 1, order[12:14]...)
	hears(t, s, order[12])
	hears(t, s, order[13])
	asks(t, s, 1, order[14:16]...)
	hears(t, s, order[14])
	hears(t, s, order[15])
	is(t, s, true, order[10:16]...)
	hears(t, s, 26, 26, 58, 0, order[10], order[9])
	is(t, s, false, order[10:16]...)
	asks(t, s, 2, order[9])
	hears(t, s, order[9])
	is(t, s, true, order[9:15]...)
	asks(t, s, 99)
}

func TestFewerThanNear(t *testing.T) {
	s := New(goal, 0, 26, 60)
	asks(t, s, 0, 60, 26)
	hears(t, s, 60)
	is(t, s, false, 60)
	asks(t, s, 7)
	is(t, s, false, 60)
	asks(t, s, 8)
	is(t, s, true, 60)
}

func TestSilent(t *testing.T) {
	s := New(goal, 0, order[:9]...)
	asks(t, s, 5, order[:3]...)
	asks(t, s, 12)
	hears(t, s, order[1])
	asks(t, s, 12, order[3])
	is(t, s, false, order[1])
	asks(t, s, 13, order[4:6]...)
	// Who is silent leaves his place, is not heard any more, and is not asked again.
	refuses(t, s, order[0], 26)
	refuses(t, s, order[2])
	hears(t, s, order[5], order[0], order[2])
	hears(t, s, order[4])
	asks(t, s, 14, order[6:8]...)
	hears(t, s, order[6])
	hears(t, s, order[7])
	asks(t, s, 19)
	is(t, s, false, order[1], order[4], order[5], order[6], order[7])
	asks(t, s, 20, order[8])
	hears(t, s, order[8], order[3])
	is(t, s, true, order[1], order[4], order[5], order[6], order[7], order[8])
	asks(t, s, 99)
}

func TestNobodyAnswers(t *testing.T) {
	s := New(goal, -1, order...)
	for i := range 21 {
		asks(t, s, 8*i, order[3*i:3*i+3]...)
		asks(t, s, 8*i+7)
		is(t, s, false)
	}
	asks(t, s, 168, order[63])
	asks(t, s, 175)
	is(t, s, false)
	asks(t, s, 176)
	is(t, s, true)
}

func TestTicks(t *testing.T) {
	for _, c := range []struct {
		since, now int
		silent     bool
	}{
		{0, 0, false}, {0, 7, false}, {0, 8, true}, {0, 9, true}, {100, 107, false}, {100, 108, true},
		{-4, 3, false}, {-4, 4, true}, {8, 0, false}, {9, 0, false}, {0, -8, false}, {0, -9, false}, {api.MaxTick - 8, api.MaxTick, true},
		{math.MinInt, math.MinInt + 7, false}, {math.MinInt, math.MinInt + 8, true},
		{math.MinInt, -1, true}, {math.MinInt, 0, true}, {math.MinInt, math.MaxInt, true}, {-1, math.MaxInt, true}, {0, math.MaxInt, true},
		{math.MaxInt, math.MinInt, false}, {math.MaxInt, math.MinInt + 7, false}, {math.MaxInt - 7, math.MaxInt, false}, {math.MaxInt - 8, math.MaxInt, true},
		{0, math.MinInt, false}, {1, math.MinInt, false}, {math.MaxInt, -1, false}, {math.MaxInt - 3, math.MinInt + 4, false},
	} {
		s := New(goal, 0, order[:4]...)
		asks(t, s, c.since, order[:3]...)
		if c.silent {
			asks(t, s, c.now, order[3])
		} else {
			asks(t, s, c.now)
		}
		if s.Hear(near(order[0])) == c.silent {
			t.Errorf("asked at %d, at %d: silent %v", c.since, c.now, !c.silent)
		}
	}
}

// midway returns a search in which 59 and 36 have told, 60 and 3 are silent, 14, 20 and 46 are asked since tick 8, and 12 is fresh.
func midway(t *testing.T) *Seek {
	t.Helper()
	s := New(goal, 0, 3, 60, 59)
	asks(t, s, 0, 60, 59, 3)
	hears(t, s, 59, 36, 14, 20, 46, 12)
	asks(t, s, 0, 36)
	hears(t, s, 36)
	asks(t, s, 8, 14, 20, 46)
	return s
}

// finish checks that a search is still midway, and leads it to its end.
func finish(t *testing.T, s *Seek) {
	t.Helper()
	is(t, s, false, 59, 36)
	asks(t, s, 9)
	hears(t, s, 14)
	asks(t, s, 9, 12)
	for _, n := range []int{20, 46, 12} {
		hears(t, s, n)
	}
	is(t, s, true, 59, 36, 14, 20, 46, 12)
	asks(t, s, 99)
}

func TestHearRefuses(t *testing.T) {
	for _, c := range []struct {
		what string
		l    letter.Letter
	}{
		{"another name", letter.Letter{Kind: letter.Near, From: 14, ID: api.ID{0x55, 31: 1}}},
		{"the zero name", letter.Letter{Kind: letter.Near, From: 14}},
		{"Have", letter.Letter{Kind: letter.Have, From: 14, ID: goal}},
		{"Find", letter.Letter{Kind: letter.Find, From: 14, ID: goal}},
		{"Who", letter.Letter{Kind: letter.Who, From: 14, ID: goal}},
		{"Offer", letter.Letter{Kind: letter.Offer, From: 14, ID: goal}},
		{"Miss", letter.Letter{Kind: letter.Miss, From: 14, ID: goal, What: 3}},
		{"Pong", letter.Letter{Kind: letter.Pong, From: 14}},
		{"the searcher itself", near(0)},
		{"a fresh one", near(12)},
		{"one that was never met", near(4)},
		{"one that has told", near(36)},
		{"one that is silent", near(60)},
		{"another one that is silent", near(3)},
	} {
		s := midway(t)
		if c.l.Kind == letter.Near {
			c.l.Peers, c.l.Holders = []int{38, 63, 12}, []int{7, 8}
		}
		if e := c.l.Check(); e != api.OK {
			t.Fatalf("%s: the letter is not valid: %d", c.what, e)
		}
		if s.Hear(c.l) {
			t.Errorf("%s: it counts", c.what)
		}
		holds(t, s)
		finish(t, s)
		if t.Failed() {
			t.Fatal(c.what)
		}
	}
}

// The letter counts whomever it is for, and whatever its number.
func TestHearAnyNumber(t *testing.T) {
	s := midway(t)
	for i, n := range []int{14, 20, 46} {
		l := near(n)
		l.To, l.Seq = 63, []int{0, 5, letter.MostSeq}[i]
		if !s.Hear(l) || s.Hear(l) {
			t.Errorf("the answer of %d does not count once", n)
		}
	}
	asks(t, s, 8, 12)
	is(t, s, false, 59, 36, 14, 20, 46)
}

// Numbers that are no addresses do no harm, even in a letter that is not valid.
func TestHearNoAddresses(t *testing.T) {
	for _, n := range strange {
		s := midway(t)
		refuses(t, s, n, 38)
		l := near(14, n)
		l.Holders = []int{n}
		if !s.Hear(l) {
			t.Error("the answer does not count")
		}
		holds(t, s)
		asks(t, s, 9, 12)
		is(t, s, false, 59, 36, 14)
	}
}

// Those that are met already stay what they are.
func TestMetAgain(t *testing.T) {
	s := midway(t)
	hears(t, s, 46, 0, 3, 60, 59, 36, 14, 12, 46)
	asks(t, s, 15, 12)
	asks(t, s, 16)
	refuses(t, s, 14)
	refuses(t, s, 20)
	hears(t, s, 12)
	is(t, s, true, 59, 36, 46, 12)
}

func TestHolders(t *testing.T) {
	s := New(goal, 5, 60, 59)
	s.Has()
	holds(t, s)
	s.Has(63, 0, 5, 63)
	holds(t, s, 0, 63)
	s.Has(strange...)
	holds(t, s, 0, 63)
	asks(t, s, 0, 60, 59)
	l := near(60, 7)
	l.Holders = []int{9, 5, 0, 8, 60}
	if !s.Hear(l) {
		t.Error("the answer does not count")
	}
	holds(t, s, 0, 8, 9, 60, 63)
	l.Holders = []int{1}
	if s.Hear(l) {
		t.Error("it counts twice")
	}
	holds(t, s, 0, 8, 9, 60, 63)
	// Who has the name is not met by that.
	asks(t, s, 0, 7)
	hears(t, s, 59)
	hears(t, s, 7)
	is(t, s, true, 60, 59, 7)
	s.Has(36)
	holds(t, s, 0, 8, 9, 36, 60, 63)
	is(t, s, true, 60, 59, 7)
	asks(t, s, 9)
}

// world is other nodes: whom each of them names, and after how many ticks it answers; 0: never.
type world struct {
	names [64][]int
	delay [64]int
}

// newWorld makes a world at random, in which one of so many does not answer in time.
func newWorld(r *rand.Rand, silentOf int) *world {
	w := &world{}
	for n := range 64 {
		for range r.Intn(9) {
			w.names[n] = append(w.names[n], r.Intn(64))
		}
		w.delay[n] = 1 + r.Intn(8)
		if r.Intn(silentOf) == 0 {
			w.delay[n] = []int{0, 9, 20}[r.Intn(3)]
		}
	}
	return w
}

func (w *world) answers(n int) bool {
	return w.delay[n] > 0 && w.delay[n] <= 8
}

// run leads a search from some addresses to its end, tick by tick, and returns how many answers it took and whom it met.
func (w *world) run(t *testing.T, s *Seek, own int, known []int) (count int, met []int) {
	t.Helper()
	since := map[int]int{}
	met = slices.Clone(known)
	for now := 0; now < 64*8; now++ {
		open := 0
		for n := range 64 {
			at, asked := since[n]
			if !asked || w.delay[n] == 0 || now-at != w.delay[n] {
				continue
			}
			if s.Hear(letter.Letter{Kind: letter.Near, From: n, ID: s.Goal(), Peers: w.names[n]}) != w.answers(n) {
				t.Fatalf("asked at %d, at %d the answer of %d counts: %v", at, now, n, !w.answers(n))
			}
			if w.answers(n) {
				count++
				met = append(met, w.names[n]...)
			}
		}
		for _, n := range s.Ask(now) {
			if _, ok := since[n]; ok || n == own {
				t.Fatalf("%d is asked twice, or by itself", n)
			}
			since[n] = now
		}
		for n, at := range since {
			if now-at < 8 && (w.delay[n] == 0 || now-at < w.delay[n]) {
				open++
			}
		}
		if open > 3 {
			t.Fatalf("%d are asked at a time", open)
		}
		if s.Over() {
			return count, met
		}
	}
	t.Fatal("it does not end")
	return 0, nil
}

// ENDS, and the answers of the nearest: whether others answer or not, and whomever they name.
func TestEnds(t *testing.T) {
	r := rand.New(rand.NewSource(2))
	for i := range 300 {
		var name api.ID
		r.Read(name[:])
		w := newWorld(r, 1+i%6)
		own, known := r.Intn(64), r.Perm(64)[:r.Intn(64)>>r.Intn(4)]
		s := New(name, own, known...)
		count, met := w.run(t, s, own, known)
		if count > 64 {
			t.Fatalf("%d answers", count)
		}
		met = slices.DeleteFunc(met, func(n int) bool { return n == own || !w.answers(n) })
		slices.Sort(met)
		want := bucket.Sort(name, slices.Compact(met)...)
		if want = want[:min(len(want), 6)]; !slices.Equal(s.Nearest(), want) {
			t.Fatalf("world %d: the nearest are %v, not %v", i, s.Nearest(), want)
		}
	}
}

// A row of nodes, each of which names only the next nearer ones, is followed to its end.
func TestWayToTheGoal(t *testing.T) {
	w := &world{}
	for i, n := range order {
		w.delay[n] = 1
		w.names[n] = order[max(i-2, 0):i]
	}
	s := New(goal, 40, 26)
	count, _ := w.run(t, s, 40, nil)
	is(t, s, true, order[:6]...)
	if count > 63 {
		t.Errorf("%d answers", count)
	}
}

// agree does a random call to a search and to its model, and reports whether the results are the same.
func agree(r *rand.Rand, s *Seek, w *search, now *int) bool {
	same := true
	some := func() []int {
		var l []int
		for range r.Intn(9) {
			l = append(l, r.Intn(64))
		}
		return l
	}
	switch r.Intn(8) {
	case 0, 1, 2:
		*now += r.Intn(4)
		if r.Intn(30) == 0 {
			*now = []int{0, -5, math.MaxInt - 9, math.MinInt + 3}[r.Intn(4)]
		}
		same = slices.Equal(s.Ask(*now), w.ask(*now))
	case 3:
		l := append(some(), r.Intn(600)-300)
		s.Has(l...)
		w.has(l)
	default:
		l := letter.Letter{Kind: letter.Near, From: r.Intn(64), ID: w.goal, Peers: some(), Holders: some()}
		if asked := w.asked(); len(asked) > 0 && r.Intn(4) > 0 {
			l.From = asked[r.Intn(len(asked))]
		}
		if r.Intn(8) == 0 {
			l.ID[r.Intn(32)] ^= 1
		}
		if r.Intn(8) == 0 {
			l.Kind = []int{letter.Find, letter.Who, letter.Have, letter.Offer}[r.Intn(4)]
			l.Peers, l.Holders = nil, nil
		}
		same = s.Hear(l) == w.hear(l)
	}
	return same && w.same(s)
}

func TestRandomHistories(t *testing.T) {
	histories := 100
	if testing.Short() {
		histories = 10
	}
	for seed := range histories {
		r := rand.New(rand.NewSource(int64(seed)))
		var name api.ID
		r.Read(name[:])
		own := r.Intn(70) - 3
		known := r.Perm(70)[:r.Intn(70)>>r.Intn(4)]
		s, w := New(name, own, known...), newSearch(name, own, known...)
		now := r.Intn(10)
		for i := range 80 {
			if !agree(r, s, w, &now) {
				t.Fatalf("history %d, call %d: other results", seed, i)
			}
		}
	}
}

func TestResultsAreApart(t *testing.T) {
	known := slices.Clone(order[:8])
	s := New(goal, 0, known...)
	for i := range known {
		known[i] = 26
	}
	asked := s.Ask(0)
	l := near(60, 59, 36, 3)
	l.Holders = []int{7, 8}
	if !s.Hear(l) || !slices.Equal(l.Peers, []int{59, 36, 3}) || !slices.Equal(l.Holders, []int{7, 8}) {
		t.Error("the letter was changed")
	}
	l.Peers[2], l.Holders[0] = 26, 26
	more := []int{9, 8}
	s.Has(more...)
	more[0] = 26
	nearest, holders := s.Nearest(), s.Holders()
	for _, l := range [][]int{s.Nearest(), s.Holders()} {
		for i := range l {
			l[i] = 26
		}
		_ = append(l, 26)
	}
	hears(t, s, 59)
	s.Has(1)
	s.Ask(1)
	if !slices.Equal(asked, order[:3]) || !slices.Equal(nearest, []int{60}) || !slices.Equal(holders, []int{7, 8, 9}) {
		t.Errorf("the results became %v, %v, %v", asked, nearest, holders)
	}
	asked[2] = 26
	hears(t, s, 36)
	is(t, s, false, 60, 59, 36)
	holds(t, s, 1, 7, 8, 9)
}

func TestSearchesAreApart(t *testing.T) {
	a, b := New(goal, 0, order[:6]...), New(goal, 0, order[:6]...)
	asks(t, a, 0, order[:3]...)
	hears(t, a, order[0], order[7:]...)
	a.Has(5)
	refuses(t, b, order[0])
	is(t, b, false)
	holds(t, b)
	asks(t, b, 20, order[:3]...)
	is(t, a, false, order[0])
}

// The same calls return the same again, and asking what is known changes nothing.
func TestTheSameAgain(t *testing.T) {
	run := func(ask bool) string {
		r := rand.New(rand.NewSource(3))
		var out bytes.Buffer
		for range 30 {
			w := newWorld(r, 3)
			s := New(bucket.ID(r.Intn(256)), 5, w.names[0]...)
			s.Has(w.names[1]...)
			for now := range 60 {
				for _, n := range s.Ask(now) {
					out.WriteString(strconv.Itoa(n) + " ")
					if w.answers(n) {
						s.Hear(letter.Letter{Kind: letter.Near, From: n, ID: s.Goal(), Peers: w.names[n], Holders: w.names[63-n]})
					}
				}
				if ask {
					s.Over()
					s.Nearest()
					s.Holders()
					s.Has()
					s.Has(5, 64)
					s.Hear(letter.Letter{Kind: letter.Ping, From: now})
				}
			}
			for _, n := range slices.Concat(s.Nearest(), s.Holders()) {
				out.WriteString(strconv.Itoa(n) + ",")
			}
			out.WriteString(strconv.FormatBool(s.Over()))
		}
		return out.String()
	}
	if a, b, c := run(false), run(false), run(true); a != b || a != c {
		t.Error("other results")
	}
}

func FuzzHistories(f *testing.F) {
	f.Add(int64(1), 5, []byte("\x00\x01\x02\x03\x04\x05"))
	f.Add(int64(2), 300, []byte("\x3c\x3b\x24"))
	f.Fuzz(func(t *testing.T, seed int64, own int, from []byte) {
		r := rand.New(rand.NewSource(seed))
		var known []int
		for _, b := range from[:min(len(from), 99)] {
			known = append(known, int(int8(b)))
		}
		s, w := New(goal, own, known...), newSearch(goal, own, known...)
		now := 0
		for i := range 20 {
			if !agree(r, s, w, &now) {
				t.Fatalf("call %d: other results", i)
			}
		}
	})
}
