package quota

import (
	"bytes"
	"math"
	"math/rand"
	"strconv"
	"testing"

	"caravan/api"
)

// The signatures that the chapter lists; a quota has its rate's fields.
var (
	_ func(Rate) (*Quota, api.Errno)            = New
	_ func(q *Quota, n, now int) int            = (*Quota).Has
	_ func(q *Quota, n, cost, now int) bool     = (*Quota).Take
	_ struct{ Each, Most int }                  = Rate{}
	_                                           = Quota{Rate: Rate{Each: 1, Most: 2}}
	_ func(q Quota) (each, most int, rate Rate) = func(q Quota) (int, int, Rate) { return q.Each, q.Most, q.Rate }
)

// ends are numbers of addresses; any number is one.
var ends = []int{0, 1, -1, 63, 64, 1 << 40, math.MinInt, math.MaxInt}

func open(t *testing.T, each, most int) *Quota {
	t.Helper()
	q, e := New(Rate{Each: each, Most: most})
	if e != api.OK || q == nil {
		t.Fatalf("New(%d, %d): %d", each, most, e)
	}
	return q
}

func has(t *testing.T, q *Quota, n, now, want int) {
	t.Helper()
	if got := q.Has(n, now); got != want {
		t.Errorf("Has(%d, %d): %d, not %d", n, now, got, want)
	}
}

func takes(t *testing.T, q *Quota, n, cost, now int, want bool) {
	t.Helper()
	if got := q.Take(n, cost, now); got != want {
		t.Errorf("Take(%d, %d, %d): %v", n, cost, now, got)
	}
}

func TestExample(t *testing.T) {
	q := open(t, 2, 5)
	takes(t, q, 7, 5, 0, true)
	has(t, q, 7, 1, 2)
	has(t, q, 7, 9, 5)
}

func TestNew(t *testing.T) {
	for _, c := range []struct {
		each, most int
		want       api.Errno
	}{
		{1, 1, api.OK},
		{1, 2, api.OK},
		{7, 7, api.OK},
		{1, 1 << 20, api.OK},
		{1 << 20, 1 << 20, api.OK},
		{1<<20 - 1, 1 << 20, api.OK},
		{1024, 8192, api.OK},
		{0, 0, api.ErrArg},
		{0, 1, api.ErrArg},
		{0, 1 << 20, api.ErrArg},
		{-1, 5, api.ErrArg},
		{-5, -1, api.ErrArg},
		{math.MinInt, 5, api.ErrArg},
		{math.MinInt, math.MaxInt, api.ErrArg},
		{2, 1, api.ErrArg},
		{1, 0, api.ErrArg},
		{1, -1, api.ErrArg},
		{5, math.MinInt, api.ErrArg},
		{1, 1<<20 + 1, api.ErrArg},
		{1<<20 + 1, 1<<20 + 1, api.ErrArg},
		{1<<20 + 1, 1 << 20, api.ErrArg},
		{1, math.MaxInt, api.ErrArg},
		{math.MaxInt, math.MaxInt, api.ErrArg},
		{math.MaxInt, 5, api.ErrArg},
		{1<<32 + 1, 1<<32 + 5, api.ErrArg},
	} {
		q, e := New(Rate{c.each, c.most})
		if e != c.want || (q == nil) != (e != api.OK) {
			t.Errorf("New(%d, %d): %v, %d", c.each, c.most, q, e)
		}
		if q != nil && (q.Rate != Rate{c.each, c.most} || q.Has(0, 0) != c.most) {
			t.Errorf("New(%d, %d): %v, %d", c.each, c.most, q.Rate, q.Has(0, 0))
		}
	}
}

func TestFull(t *testing.T) {
	q := open(t, 2, 5)
	for _, n := range ends {
		for _, now := range []int{0, 1, 9, api.MaxTick} {
			has(t, q, n, now, 5)
		}
		takes(t, q, n, 6, 0, false)
		takes(t, q, n, 6, api.MaxTick, false)
		takes(t, q, n, -1, 0, false)
		has(t, q, n, 0, 5)
		takes(t, q, n, 5, 0, true)
		has(t, q, n, 0, 0)
	}
}

func TestHas(t *testing.T) {
	q := open(t, 3, 10)
	takes(t, q, 1, 8, 100, true)
	for _, c := range []struct{ now, want int }{
		{0, 2}, {99, 2}, {100, 2}, {101, 5}, {102, 8}, {103, 10}, {104, 10}, {200, 10}, {api.MaxTick, 10}, {101, 5}, {0, 2},
	} {
		has(t, q, 1, c.now, c.want)
	}
	takes(t, q, 1, 6, 102, true)
	for _, c := range []struct{ now, want int }{
		{100, 2}, {101, 2}, {102, 2}, {103, 5}, {104, 8}, {105, 10}, {106, 10},
	} {
		has(t, q, 1, c.now, c.want)
	}
	// What is above Most is lost.
	takes(t, q, 1, 10, 150, true)
	has(t, q, 1, 150, 0)
	has(t, q, 1, 151, 3)
}

func TestTake(t *testing.T) {
	q := open(t, 3, 10)
	for i, c := range []struct {
		cost, now int
		want      bool
		left      int // at that tick
	}{
		{4, 50, true, 6},
		{6, 50, true, 0},
		{1, 50, false, 0},
		{0, 50, true, 0},
		{-1, 50, false, 0},
		{math.MinInt, 50, false, 0},
		{math.MaxInt, 50, false, 0},
		{4, 51, false, 3},
		{3, 51, true, 0},
		{1, 51, false, 0},
		{2, 52, true, 1},
		{-1, 60, false, 10},
		{11, 60, false, 10},
		{10, 60, true, 0},
		{1, 60, false, 0},
		{10, api.MaxTick, true, 0},
		{1, api.MaxTick, false, 0},
	} {
		takes(t, q, 1, c.cost, c.now, c.want)
		if got := q.Has(1, c.now); got != c.left {
			t.Errorf("%d: %d left, not %d", i, got, c.left)
		}
	}
	has(t, q, 2, 0, 10)
}

// Earlier ticks add nothing, and a share keeps its date if that is later.
func TestEarlier(t *testing.T) {
	q := open(t, 3, 10)
	takes(t, q, 1, 6, 50, true)
	takes(t, q, 1, 5, 10, false)
	takes(t, q, 1, 1, 10, true)
	has(t, q, 1, 0, 3)
	has(t, q, 1, 11, 3)
	has(t, q, 1, 50, 3)
	has(t, q, 1, 51, 6)
	takes(t, q, 1, 3, 0, true)
	takes(t, q, 1, 1, 49, false)
	has(t, q, 1, 50, 0)
	has(t, q, 1, 52, 6)
}

// What costs nothing is always free, and the share dates from then, too.
func TestForNothing(t *testing.T) {
	q := open(t, 3, 10)
	takes(t, q, 1, 10, 50, true)
	takes(t, q, 1, 0, 40, true)
	has(t, q, 1, 50, 0)
	has(t, q, 1, 51, 3)
	takes(t, q, 1, 0, 52, true)
	has(t, q, 1, 50, 6)
	has(t, q, 1, 51, 6)
	has(t, q, 1, 53, 9)
	takes(t, q, 1, 0, 60, true)
	has(t, q, 1, 0, 10)
	takes(t, q, 1, 4, 55, true)
	has(t, q, 1, 60, 6)
	has(t, q, 1, 61, 9)
	takes(t, q, 2, 0, 70, true)
	has(t, q, 2, 0, 10)
	takes(t, q, 2, 10, 60, true)
	has(t, q, 2, 70, 0)
	has(t, q, 2, 71, 3)
}

// What is refused changes nothing, neither the share nor its date.
func TestRefused(t *testing.T) {
	q := open(t, 3, 10)
	takes(t, q, 1, 10, 50, true)
	for _, cost := range []int{-1, 7, 11, math.MinInt, math.MaxInt} {
		takes(t, q, 1, cost, 52, false)
		has(t, q, 1, 50, 0)
		has(t, q, 1, 51, 3)
		has(t, q, 1, 52, 6)
	}
	for _, cost := range []int{-1, 11, math.MinInt, math.MaxInt} {
		takes(t, q, 2, cost, 52, false)
	}
	takes(t, q, 2, 10, 40, true)
	has(t, q, 2, 41, 3)
}

// Addresses have shares of their own.
func TestApart(t *testing.T) {
	q := open(t, 1, 9)
	for i, n := range ends {
		takes(t, q, n, i, 5, true)
	}
	for i, n := range ends {
		has(t, q, n, 0, 9-i)
		has(t, q, n, 6, min(10-i, 9))
	}
	x, y := open(t, 1, 9), open(t, 2, 8)
	takes(t, x, 1, 9, 0, true)
	has(t, y, 1, 0, 8)
	takes(t, y, 1, 8, 0, true)
	has(t, x, 1, 3, 3)
	has(t, y, 1, 3, 6)
}

// The greatest rate and the greatest tick.
func TestGreat(t *testing.T) {
	for _, each := range []int{1, 3, 1 << 19, 1<<20 - 1, 1 << 20} {
		q := open(t, each, 1<<20)
		takes(t, q, 1, 1<<20+1, 0, false)
		takes(t, q, 1, 1<<20, 0, true)
		has(t, q, 1, 1, each)
		has(t, q, 1, 2, min(2*each, 1<<20))
		has(t, q, 1, 1<<20, 1<<20)
		has(t, q, 1, 1<<20-1, min(each*(1<<20-1), 1<<20))
		has(t, q, 1, api.MaxTick, 1<<20)
		takes(t, q, 1, 1<<20, api.MaxTick, true)
		has(t, q, 1, 0, 0)
		has(t, q, 1, api.MaxTick, 0)
		takes(t, q, 1, 1, api.MaxTick, false)
	}
}

// The longest time that it takes to fill a share.
func TestSlow(t *testing.T) {
	q := open(t, 1, 1000)
	takes(t, q, 1, 1000, 7, true)
	for ticks := range 1010 {
		has(t, q, 1, 7+ticks, min(ticks, 1000))
	}
}

// taken is one Take of a log that was not refused, from which a slow model tells what a share should be.
type taken struct{ n, cost, now int }

// replay counts the share of an address at a tick, tick by tick.
func replay(r Rate, log []taken, n, now int) int {
	left, at := r.Most, 0
	forward := func(to int) {
		for ; at < to && left < r.Most; at++ {
			left = min(left+r.Each, r.Most)
		}
		at = max(at, to)
	}
	for _, x := range log {
		if x.n == n {
			forward(x.now)
			left -= x.cost
		}
	}
	forward(now)
	return left
}

// attempt takes from a quota as a slow model says, and returns the log.
func attempt(t *testing.T, q *Quota, log []taken, n, cost, now int) []taken {
	t.Helper()
	want := replay(q.Rate, log, n, now)
	if got := q.Has(n, now); got != want {
		t.Fatalf("Has(%d, %d): %d, not %d, after %v", n, now, got, want, log)
	}
	ok := q.Take(n, cost, now)
	if ok != (cost >= 0 && cost <= want) {
		t.Fatalf("Take(%d, %d, %d) of %d: %v", n, cost, now, want, ok)
	}
	if ok {
		log = append(log, taken{n, cost, now})
	}
	for _, at := range []int{0, now, now + 1, now + 5} {
		if got, want := q.Has(n, at), replay(q.Rate, log, n, at); got != want {
			t.Fatalf("Has(%d, %d): %d, not %d, after %v", n, at, got, want, log)
		}
	}
	return log
}

func TestRandomHistories(t *testing.T) {
	histories := 200
	if testing.Short() {
		histories = 20
	}
	for seed := range histories {
		r := rand.New(rand.NewSource(int64(seed)))
		most := 1 + r.Intn(40)
		q := open(t, 1+r.Intn(most), most)
		var log []taken
		now := r.Intn(2) * (api.MaxTick - 1000)
		for range 200 {
			now += r.Intn(4) * r.Intn(2)
			// In some histories the ticks go back, too.
			at := max(0, now-r.Intn(1+9*(seed%2)))
			log = attempt(t, q, log, ends[r.Intn(4)], r.Intn(most+3)-1, at)
		}
	}
}

// In n ticks nobody obtains more than Most plus n times Each, however it is asked for.
func TestBounded(t *testing.T) {
	for seed := range 40 {
		r := rand.New(rand.NewSource(int64(seed)))
		most := 1 + r.Intn(30)
		each := 1 + r.Intn(most)
		q := open(t, each, most)
		var obtained [100]int // at each tick
		for now := range obtained {
			for range r.Intn(4) {
				cost := r.Intn(most + 2)
				if seed%2 == 0 {
					cost = q.Has(1, now)
				}
				if q.Take(1, cost, now) {
					obtained[now] += cost
				}
			}
		}
		for from := range obtained {
			sum := 0
			for to := from; to < len(obtained); to++ {
				sum += obtained[to]
				if sum > most+(to-from)*each {
					t.Fatalf("%d from %d to %d, with %d at most and %d each", sum, from, to, most, each)
				}
			}
		}
	}
	// It is as much as that for one who takes all there is.
	q, sum := open(t, 3, 10), 0
	for now := range 21 {
		sum += q.Has(1, now)
		takes(t, q, 1, q.Has(1, now), now, true)
	}
	if sum != 10+20*3 {
		t.Errorf("%d", sum)
	}
}

// The same calls return the same again, and asking changes nothing.
func TestTheSameAgain(t *testing.T) {
	run := func(ask bool) string {
		r := rand.New(rand.NewSource(4))
		q := open(t, 3, 20)
		var out bytes.Buffer
		for step := range 3000 {
			n, cost, now := r.Intn(20), r.Intn(22)-1, step/8-r.Intn(4)*r.Intn(2)
			out.WriteString(strconv.FormatBool(q.Take(n, cost, max(now, 0))))
			out.WriteString(strconv.Itoa(q.Has(n, step/8)))
			if ask {
				q.Has(n, api.MaxTick)
				q.Has(n+50, 0)
				q.Take(n, -1, api.MaxTick)
				q.Take(n, 21, api.MaxTick)
				q.Take(n+50, 21, api.MaxTick)
			}
		}
		return out.String()
	}
	if a, b, c := run(false), run(false), run(true); a != b || a != c {
		t.Error("other results")
	}
}

func FuzzHistories(f *testing.F) {
	f.Add(byte(2), byte(5), []byte("\x00\x05\x00\x00\x01\x01\x00\x05\x09"))
	f.Add(byte(3), byte(10), bytes.Repeat([]byte{1, 2, 3, 5, 8, 13, 21, 34, 55, 89, 144, 233}, 20))
	f.Fuzz(func(t *testing.T, each, most byte, calls []byte) {
		q, e := New(Rate{int(each), int(most)})
		if (e == api.OK) != (1 <= each && each <= most) || (q == nil) != (e != api.OK) {
			t.Fatalf("New(%d, %d): %d", each, most, e)
		}
		var log []taken
		for i := 0; q != nil && i+2 < min(len(calls), 600); i += 3 {
			log = attempt(t, q, log, int(calls[i]%4), int(calls[i+1])-1, int(calls[i+2]))
		}
	})
}
