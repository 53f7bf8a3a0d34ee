package mesh

import (
	"math"
	"math/rand"
	"slices"
	"strconv"
	"strings"
	"testing"

	"caravan/api"
)

// The signatures that the chapter lists: a packet is sent to a variable number of addresses.
var (
	_ func(int) *Mesh                                        = New
	_ func(*Mesh) int                                        = (*Mesh).Len
	_ func(*Mesh) int                                        = (*Mesh).Lost
	_ func(m *Mesh, from int, s string, to ...int) api.Errno = (*Mesh).Send
	_ func(m *Mesh, from int, s string)                      = (*Mesh).Cast
	_ func(m *Mesh, to int) (Packet, bool)                   = (*Mesh).Take
	_ func(m *Mesh, to, from int) int                        = (*Mesh).Waits
	_ func(*Mesh) int                                        = (*Mesh).All
	_ func(m *Mesh, to, from, i int) bool                    = (*Mesh).Drop
	_ func(m *Mesh, to, from, i int) bool                    = (*Mesh).Again
	_ func(m *Mesh, to, from, i int) bool                    = (*Mesh).Late
	_                                                        = Packet{From: 1, Text: "x"}
	_                                                        = [1]int{}[MostWaits-8]
)

// network is a mesh as the chapter says it, with nothing to make it quick: one list of all packets in the order in which they were sent.
type network struct {
	n, lost int
	packets []packet
	last    map[int]int // by address: the source that was served last
}

type packet struct {
	to int
	Packet
}

func newNetwork(n int) *network {
	return &network{n: min(max(n, 0), 64), last: map[int]int{}}
}

func (w *network) is(n int) bool {
	return 0 <= n && n < w.n
}

// places are where the packets of a queue are in the list.
func (w *network) places(to, from int) []int {
	var list []int
	for i, p := range w.packets {
		if p.to == to && p.From == from {
			list = append(list, i)
		}
	}
	return list
}

func (w *network) send(from int, text string, to ...int) api.Errno {
	e := api.OK
	for _, at := range to {
		switch {
		case !w.is(at) || !w.is(from):
			e = api.ErrArg
		case len(text) > 1024:
			e = api.ErrBig
			w.lost++
		case len(w.places(at, from)) == 8:
			e = api.ErrFull
			w.lost++
		default:
			w.packets = append(w.packets, packet{at, Packet{from, text}})
		}
	}
	return e
}

func (w *network) cast(from int, text string) {
	for at := range w.n {
		if at != from {
			w.send(from, text, at)
		}
	}
}

func (w *network) take(to int) (Packet, bool) {
	var waiting []int
	for _, p := range w.packets {
		if p.to == to {
			waiting = append(waiting, p.From)
		}
	}
	if len(waiting) == 0 {
		return Packet{}, false
	}
	slices.Sort(waiting)
	from := waiting[0]
	if last, ok := w.last[to]; ok {
		for _, x := range waiting {
			if x > last {
				from = x
				break
			}
		}
	}
	w.last[to] = from
	return w.remove(to, from, 0)
}

func (w *network) remove(to, from, i int) (Packet, bool) {
	places := w.places(to, from)
	if i < 0 || i >= len(places) {
		return Packet{}, false
	}
	p := w.packets[places[i]]
	w.packets = slices.Delete(w.packets, places[i], places[i]+1)
	return p.Packet, true
}

func (w *network) again(to, from, i int) bool {
	places := w.places(to, from)
	return i >= 0 && i < len(places) && w.send(from, w.packets[places[i]].Text, to) == api.OK
}

func (w *network) late(to, from, i int) bool {
	p, ok := w.remove(to, from, i)
	return ok && w.send(from, p.Text, to) == api.OK
}

// holds checks how many packets wait, and were lost.
func holds(t *testing.T, m *Mesh, all, lost int) {
	t.Helper()
	if m.All() != all || m.Lost() != lost {
		t.Errorf("%d packets wait and %d are lost, not %d and %d", m.All(), m.Lost(), all, lost)
	}
}

// sends sends where nothing stands in the way, one packet for each text.
func sends(t *testing.T, m *Mesh, to, from int, texts ...string) {
	t.Helper()
	for _, text := range texts {
		if e := m.Send(from, text, to); e != api.OK {
			t.Fatalf("Send of %q from %d to %d: %d", text, from, to, e)
		}
	}
}

// takes takes everything at an address, as "source:text".
func takes(t *testing.T, m *Mesh, to int, want ...string) {
	t.Helper()
	var got []string
	for p, ok := m.Take(to); ok; p, ok = m.Take(to) {
		got = append(got, strconv.Itoa(p.From)+":"+p.Text)
	}
	if !slices.Equal(got, want) {
		t.Errorf("at %d there were %q, not %q", to, got, want)
	}
	if p, ok := m.Take(to); ok || p != (Packet{}) {
		t.Errorf("then %+v, %v", p, ok)
	}
}

func TestExample(t *testing.T) {
	m := New(3)
	sends(t, m, 0, 1, "a", "b")
	sends(t, m, 0, 2, "c")
	takes(t, m, 0, "1:a", "2:c", "1:b")
}

func TestNew(t *testing.T) {
	for _, c := range []struct{ n, len int }{
		{math.MinInt, 0}, {-1, 0}, {0, 0}, {1, 1}, {2, 2}, {63, 63}, {64, 64}, {65, 64}, {math.MaxInt, 64},
	} {
		m := New(c.n)
		if m.Len() != c.len {
			t.Errorf("New(%d) has %d addresses", c.n, m.Len())
		}
		holds(t, m, 0, 0)
		for to := range c.len {
			takes(t, m, to)
		}
		for _, at := range []int{-1, c.len, 64, math.MinInt, math.MaxInt} {
			if e := m.Send(0, "x", at); e != api.ErrArg {
				t.Errorf("New(%d): Send to %d: %d", c.n, at, e)
			}
			if e := m.Send(at, "x", 0); e != api.ErrArg {
				t.Errorf("New(%d): Send from %d: %d", c.n, at, e)
			}
		}
		for at := range c.len {
			sends(t, m, at, c.len-1-at, "x")
		}
		holds(t, m, c.len, 0)
	}
}

func TestSend(t *testing.T) {
	m := New(4)
	if e := m.Send(1, "a", 0, 2, 0); e != api.OK {
		t.Errorf("Send: %d", e)
	}
	sends(t, m, 1, 1, "")
	sends(t, m, 0, 1, strings.Repeat("\xff", 1024))
	holds(t, m, 5, 0)
	if m.Waits(0, 1) != 3 || m.Waits(2, 1) != 1 || m.Waits(1, 1) != 1 || m.Waits(1, 0) != 0 {
		t.Error("the packets wait elsewhere")
	}
	takes(t, m, 0, "1:a", "1:a", "1:"+strings.Repeat("\xff", 1024))
	takes(t, m, 1, "1:")
	takes(t, m, 2, "1:a")
	takes(t, m, 3)
}

func TestSendRefuses(t *testing.T) {
	long := strings.Repeat("x", 1025)
	for _, c := range []struct {
		what      string
		from      int
		text      string
		to        []int
		want      api.Errno
		all, lost int // how many more
	}{
		{"to nobody", 0, "x", nil, api.OK, 0, 0},
		{"from nobody to nobody", 9, long, []int{}, api.OK, 0, 0},
		{"from -1", -1, "x", []int{0}, api.ErrArg, 0, 0},
		{"from 3", 3, "x", []int{0}, api.ErrArg, 0, 0},
		{"to -1", 0, "x", []int{-1}, api.ErrArg, 0, 0},
		{"to 3", 0, "x", []int{3}, api.ErrArg, 0, 0},
		{"1025 bytes", 0, long, []int{0}, api.ErrBig, 0, 1},
		{"1025 bytes, twice", 0, long, []int{0, 0}, api.ErrBig, 0, 2},
		{"1025 bytes to 3", 0, long, []int{3}, api.ErrArg, 0, 0},
		{"1025 bytes from 3", 3, long, []int{0}, api.ErrArg, 0, 0},
		{"a full queue", 1, "x", []int{2}, api.ErrFull, 0, 1},
		{"a full queue, three times", 1, "x", []int{2, 2, 2}, api.ErrFull, 0, 3},
		{"1025 bytes and a full queue", 1, long, []int{2}, api.ErrBig, 0, 1},
		{"a full queue and another one", 1, "x", []int{2, 0}, api.ErrFull, 1, 1},
		{"another one and a full queue", 1, "x", []int{0, 2}, api.ErrFull, 1, 1},
		{"a full queue and to 3", 1, "x", []int{2, 3}, api.ErrArg, 0, 1},
		{"to 3 and a full queue", 1, "x", []int{3, 2}, api.ErrFull, 0, 1},
		{"to 3, a full queue and another one", 1, "x", []int{3, 2, 0}, api.ErrFull, 1, 1},
		{"all of it", 1, "x", []int{0, 2, -1, 1}, api.ErrArg, 2, 1},
		{"nine to one", 0, "x", make([]int, 9), api.ErrFull, 8, 1},
	} {
		m := New(3)
		sends(t, m, 2, 1, "1", "2", "3", "4", "5", "6", "7", "8")
		to := slices.Clone(c.to)
		if e := m.Send(c.from, c.text, c.to...); e != c.want {
			t.Errorf("%s: %d, not %d", c.what, e, c.want)
		}
		if !slices.Equal(c.to, to) {
			t.Errorf("%s: the addresses became %v", c.what, c.to)
		}
		holds(t, m, 8+c.all, c.lost)
		takes(t, m, 2, "1:1", "1:2", "1:3", "1:4", "1:5", "1:6", "1:7", "1:8")
	}
}

// A queue is one source's at one address: others are not full with it, and it has room again when one is taken.
func TestQueuesAreApart(t *testing.T) {
	m := New(3)
	sends(t, m, 0, 1, "a", "b", "c", "d", "e", "f", "g", "h")
	sends(t, m, 0, 2, "x")
	sends(t, m, 1, 0, "y")
	sends(t, m, 2, 1, "z")
	if e := m.Send(1, "i", 0); e != api.ErrFull {
		t.Errorf("Send: %d", e)
	}
	if p, ok := m.Take(0); p != (Packet{1, "a"}) || !ok {
		t.Errorf("Take: %+v", p)
	}
	sends(t, m, 0, 1, "i")
	if e := m.Send(1, "j", 0); e != api.ErrFull || m.Waits(0, 1) != 8 {
		t.Errorf("Send: %d, %d wait", e, m.Waits(0, 1))
	}
	holds(t, m, 11, 2)
	takes(t, m, 0, "2:x", "1:b", "1:c", "1:d", "1:e", "1:f", "1:g", "1:h", "1:i")
	holds(t, m, 2, 2)
}

func TestCast(t *testing.T) {
	m := New(4)
	m.Cast(2, "hi")
	holds(t, m, 3, 0)
	takes(t, m, 2)
	for _, to := range []int{0, 1, 3} {
		takes(t, m, to, "2:hi")
	}
	for _, from := range []int{-1, 4, math.MinInt, math.MaxInt} {
		m.Cast(from, "x")
		m.Cast(from, strings.Repeat("x", 1025))
	}
	holds(t, m, 0, 0)
	m.Cast(0, strings.Repeat("x", 1025))
	holds(t, m, 0, 3)
	sends(t, m, 1, 0, "1", "2", "3", "4", "5", "6", "7", "8")
	m.Cast(0, "9")
	holds(t, m, 10, 4)
	New(0).Cast(0, "x")
	alone := New(1)
	alone.Cast(0, "x")
	holds(t, alone, 0, 0)
}

func TestTakeOrder(t *testing.T) {
	m := New(64)
	for _, from := range []int{63, 5, 0, 5, 17, 63} {
		sends(t, m, 9, from, "a")
	}
	takes(t, m, 9, "0:a", "5:a", "17:a", "63:a", "5:a", "63:a")
	// The one that was served last stays the same while nothing waits: it was 63.
	for _, from := range []int{63, 62, 0} {
		sends(t, m, 9, from, "b")
	}
	takes(t, m, 9, "0:b", "62:b", "63:b")
}

// Who comes in between is served in its turn; each address has its own turns.
func TestTakeInBetween(t *testing.T) {
	m := New(8)
	take := func(to, from int) {
		t.Helper()
		if p, ok := m.Take(to); !ok || p.From != from {
			t.Errorf("at %d: %+v, %v, not of %d", to, p, ok, from)
		}
	}
	sends(t, m, 0, 3, "a", "b", "c", "d")
	sends(t, m, 1, 3, "a", "b")
	sends(t, m, 1, 1, "a")
	take(0, 3)
	sends(t, m, 0, 2, "x")
	sends(t, m, 0, 4, "y")
	take(0, 4)
	take(1, 1)
	take(0, 2)
	take(1, 3)
	take(0, 3)
	sends(t, m, 0, 0, "z")
	take(0, 0)
	take(1, 3)
	take(0, 3)
	take(0, 3)
	holds(t, m, 0, 0)
}

// A packet that is dropped was not served, and neither is one that goes behind the others.
func TestDropIsNoTurn(t *testing.T) {
	m := New(4)
	sends(t, m, 0, 1, "a", "b")
	sends(t, m, 0, 2, "c", "d")
	sends(t, m, 0, 3, "e")
	if !m.Drop(0, 1, 0) || !m.Late(0, 3, 0) || !m.Late(0, 2, 0) {
		t.Error("nothing was there")
	}
	takes(t, m, 0, "1:b", "2:d", "3:e", "2:c")
}

func TestNoSuchAddress(t *testing.T) {
	m := New(2)
	for to := range 2 {
		for from := range 2 {
			sends(t, m, to, from, "x", "y")
		}
	}
	for _, at := range []int{-1, 2, 63, 64, math.MinInt, math.MaxInt} {
		takes(t, m, at)
		for _, other := range []int{0, 1, -1, 2, at} {
			if m.Waits(at, other) != 0 || m.Waits(other, at) != 0 {
				t.Errorf("packets wait at or of %d", at)
			}
			if m.Drop(at, other, 0) || m.Drop(other, at, 0) || m.Again(at, other, 0) || m.Again(other, at, 0) || m.Late(at, other, 0) || m.Late(other, at, 0) {
				t.Errorf("a packet is there at or of %d", at)
			}
		}
	}
	holds(t, m, 8, 0)
}

func TestDropAgainAndLate(t *testing.T) {
	full := []string{"1:a", "1:b", "1:c", "1:d", "1:e", "1:f", "1:g", "1:h"}
	for _, c := range []struct {
		what string
		n    int // how many packets wait
		call func(m *Mesh, to, from, i int) bool
		i    int
		ok   bool
		want []string
		lost int
	}{
		{"Drop the first", 3, (*Mesh).Drop, 0, true, []string{"1:b", "1:c"}, 0},
		{"Drop the second", 3, (*Mesh).Drop, 1, true, []string{"1:a", "1:c"}, 0},
		{"Drop the last", 3, (*Mesh).Drop, 2, true, []string{"1:a", "1:b"}, 0},
		{"Drop the only one", 1, (*Mesh).Drop, 0, true, nil, 0},
		{"Drop of nothing", 0, (*Mesh).Drop, 0, false, nil, 0},
		{"Drop behind the last", 3, (*Mesh).Drop, 3, false, full[:3], 0},
		{"Drop of -1", 3, (*Mesh).Drop, -1, false, full[:3], 0},
		{"Drop of the least number", 3, (*Mesh).Drop, math.MinInt, false, full[:3], 0},
		{"Drop of the greatest number", 3, (*Mesh).Drop, math.MaxInt, false, full[:3], 0},
		{"Drop of the eighth", 8, (*Mesh).Drop, 7, true, full[:7], 0},
		{"Again the first", 3, (*Mesh).Again, 0, true, []string{"1:a", "1:b", "1:c", "1:a"}, 0},
		{"Again the last", 3, (*Mesh).Again, 2, true, []string{"1:a", "1:b", "1:c", "1:c"}, 0},
		{"Again the seventh", 7, (*Mesh).Again, 6, true, append(slices.Clone(full[:7]), "1:g"), 0},
		{"Again of nothing", 0, (*Mesh).Again, 0, false, nil, 0},
		{"Again behind the last", 3, (*Mesh).Again, 3, false, full[:3], 0},
		{"Again of -1", 3, (*Mesh).Again, -1, false, full[:3], 0},
		{"Again into a full queue", 8, (*Mesh).Again, 3, false, full, 1},
		{"Again behind a full queue", 8, (*Mesh).Again, 8, false, full, 0},
		{"Late the first", 3, (*Mesh).Late, 0, true, []string{"1:b", "1:c", "1:a"}, 0},
		{"Late the second", 3, (*Mesh).Late, 1, true, []string{"1:a", "1:c", "1:b"}, 0},
		{"Late the last", 3, (*Mesh).Late, 2, true, full[:3], 0},
		{"Late the only one", 1, (*Mesh).Late, 0, true, full[:1], 0},
		{"Late of nothing", 0, (*Mesh).Late, 0, false, nil, 0},
		{"Late behind the last", 3, (*Mesh).Late, 3, false, full[:3], 0},
		{"Late of -1", 3, (*Mesh).Late, -1, false, full[:3], 0},
		{"Late in a full queue", 8, (*Mesh).Late, 0, true, append(slices.Clone(full[1:]), "1:a"), 0},
		{"Late behind a full queue", 8, (*Mesh).Late, 8, false, full, 0},
	} {
		m := New(3)
		for i := range c.n {
			sends(t, m, 0, 1, full[i][2:])
			sends(t, m, 1, 0, full[i][2:])
		}
		if ok := c.call(m, 0, 1, c.i); ok != c.ok {
			t.Errorf("%s: %v", c.what, ok)
		}
		if m.Waits(0, 1) != len(c.want) {
			t.Errorf("%s: %d wait", c.what, m.Waits(0, 1))
		}
		holds(t, m, len(c.want)+c.n, c.lost)
		if t.Failed() {
			t.Log(c.what)
		}
		takes(t, m, 0, c.want...)
		takes(t, m, 1, strings.Split(strings.ReplaceAll(strings.Join(full[:c.n], " "), "1:", "0:"), " ")[:c.n]...)
	}
}

// A packet that is refused is as good as none: what waits in a full queue is not changed by it.
func TestLostPacketsAreCounted(t *testing.T) {
	m := New(2)
	for i := range 300 {
		m.Send(0, strconv.Itoa(i), 1)
	}
	m.Send(0, strings.Repeat("x", 1<<20), 1, 1, 0)
	m.Send(0, "x", 2)
	holds(t, m, 8, 295)
	takes(t, m, 1, "0:0", "0:1", "0:2", "0:3", "0:4", "0:5", "0:6", "0:7")
	holds(t, m, 0, 295)
}

// FAIR: of n sources each is among the next n packets, whatever was served before and however much others have sent.
func TestFair(t *testing.T) {
	r := rand.New(rand.NewSource(1))
	for range 400 {
		n := 1 + r.Intn(64)
		m := New(n)
		to := r.Intn(n)
		for range 1 + r.Intn(10) {
			for range r.Intn(100) {
				m.Send(r.Intn(n), "x", to)
			}
			waiting := map[int]int{}
			for from := range n {
				if m.Waits(to, from) > 0 {
					waiting[from] = 1
				}
			}
			for range len(waiting) {
				p, ok := m.Take(to)
				if !ok || waiting[p.From] != 1 {
					t.Fatalf("%d was served again, or nobody: %v", p.From, ok)
				}
				waiting[p.From]++
			}
			for range r.Intn(20) {
				m.Take(to)
			}
		}
	}
}

// Somebody who sends without end keeps nobody waiting.
func TestFairAmongFloods(t *testing.T) {
	m := New(4)
	flood := func() {
		for _, from := range []int{0, 3} {
			for range 9 {
				m.Send(from, "flood", 1)
			}
		}
	}
	flood()
	sends(t, m, 1, 2, "a", "b", "c")
	var got []string
	for range 9 {
		p, _ := m.Take(1)
		if p.From == 2 {
			got = append(got, p.Text)
		}
		flood()
	}
	if !slices.Equal(got, []string{"a", "b", "c"}) {
		t.Errorf("of nine packets these were of 2: %q", got)
	}
}

// call is one call, with all that any of them is given.
type call struct {
	what, to, from, i int
	text              string
	list              []int
}

// agree does the same call to a mesh and to a network, and reports whether the results are the same.
func agree(m *Mesh, w *network, c call) bool {
	same := true
	switch c.what {
	case 0, 1:
		same = m.Send(c.from, c.text, c.list...) == w.send(c.from, c.text, c.list...)
	case 2:
		m.Cast(c.from, c.text)
		w.cast(c.from, c.text)
	case 3, 4:
		p, ok := m.Take(c.to)
		q, is := w.take(c.to)
		same = p == q && ok == is
	case 5:
		_, is := w.remove(c.to, c.from, c.i)
		same = m.Drop(c.to, c.from, c.i) == is
	case 6:
		same = m.Again(c.to, c.from, c.i) == w.again(c.to, c.from, c.i)
	case 7:
		same = m.Late(c.to, c.from, c.i) == w.late(c.to, c.from, c.i)
	}
	return same && m.Len() == w.n && m.All() == len(w.packets) && m.Lost() == w.lost && m.Waits(c.to, c.from) == len(w.places(c.to, c.from))
}

// random is a call without any pattern, among n addresses and their neighbors.
func random(r *rand.Rand, n int) call {
	at := func() int { return r.Intn(n+2) - r.Intn(2) }
	c := call{what: r.Intn(8), to: at(), from: at(), i: r.Intn(11) - 1, text: strconv.Itoa(r.Intn(1000))}
	if r.Intn(20) == 0 {
		c.text = strings.Repeat("y", 1023+r.Intn(3))
	}
	for range r.Intn(5) {
		c.list = append(c.list, at())
	}
	return c
}

func TestRandomHistories(t *testing.T) {
	histories := 400
	if testing.Short() {
		histories = 60
	}
	for seed := range histories {
		r := rand.New(rand.NewSource(int64(seed)))
		n := []int{0, 1, 2, 3, 5, 64}[r.Intn(6)]
		m, w := New(n), newNetwork(n)
		for range 300 {
			if c := random(r, n); !agree(m, w, c) {
				t.Fatalf("history %d, %+v: other results", seed, c)
			}
		}
		for len(w.packets) > 0 {
			if c := (call{what: 3, to: w.packets[0].to}); !agree(m, w, c) {
				t.Fatalf("history %d, at the end, %+v: other results", seed, c)
			}
		}
	}
}

func TestMeshesAreApart(t *testing.T) {
	a, b := New(2), New(2)
	sends(t, a, 0, 1, "x")
	a.Send(1, strings.Repeat("x", 1025), 0)
	holds(t, a, 1, 1)
	holds(t, b, 0, 0)
	sends(t, b, 0, 0, "y")
	takes(t, b, 0, "0:y")
	takes(t, a, 0, "1:x")
}

// The same calls return the same again, and asking changes nothing.
func TestTheSameAgain(t *testing.T) {
	run := func(ask bool) string {
		r := rand.New(rand.NewSource(3))
		m := New(5)
		out := ""
		for range 2000 {
			to, from, i := r.Intn(5), r.Intn(5), r.Intn(4)
			switch r.Intn(4) {
			case 0, 1:
				out += strconv.Itoa(int(m.Send(from, strconv.Itoa(i), to, (to+1)%5)))
			case 2:
				p, ok := m.Take(to)
				out += strconv.Itoa(p.From) + p.Text + strconv.FormatBool(ok)
			case 3:
				out += strconv.FormatBool(m.Late(to, from, i))
			}
			if ask {
				m.All()
				m.Lost()
				m.Len()
				m.Waits(to, from)
				m.Drop(to, from, 8)
				m.Again(to, from, -1)
				m.Late(5, from, 0)
				m.Take(5)
				m.Send(from, "x")
				m.Send(from, "x", 5)
			}
		}
		return out
	}
	if a, b, c := run(false), run(false), run(true); a != b || a != c {
		t.Error("other results")
	}
}

func FuzzHistories(f *testing.F) {
	f.Add([]byte("\x00\x01\x02\x20\x41\x62\x83\xa4\xc5\xe6"))
	f.Add([]byte(strings.Repeat("\x09\x52\xa4", 30)))
	f.Fuzz(func(t *testing.T, calls []byte) {
		m, w := New(4), newNetwork(4)
		for i, b := range calls {
			to, from := int(b&3), int(b>>2&3)
			c := call{what: int(b >> 5), to: to, from: from, i: i % 9, text: strconv.Itoa(i), list: []int{to}}
			if !agree(m, w, c) {
				t.Fatalf("call %d, %+v: other results", i, c)
			}
		}
	})
}
