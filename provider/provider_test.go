package provider

import (
	"bytes"
	"math"
	"math/rand"
	"slices"
	"strconv"
	"testing"

	"caravan/api"
)

// The signatures that the chapter lists: a variable number of addresses is dropped.
var (
	_ func() *Table                               = New
	_ func(*Table, api.ID, int, int) api.Errno    = (*Table).Put
	_ func(t *Table, id api.ID, now int) []int    = (*Table).Get
	_ func(t *Table, id api.ID, addresses ...int) = (*Table).Drop
	_ func(*Table, int)                           = (*Table).Expire
	_ func(*Table) []api.ID                       = (*Table).Names
	_                                             = Table{of: map[api.ID]map[int]int{}}
	_                                             = [1]int{}[MostOf-8+MostNames-64]
)

var a, b = api.ID{1}, api.ID{2}

// strange are numbers that are no addresses.
var strange = []int{-1, 64, 65, 255, 256, 259, -253, math.MinInt, math.MaxInt}

func puts(t *testing.T, x *Table, id api.ID, until int, l ...int) {
	t.Helper()
	for _, n := range l {
		if e := x.Put(id, n, until); e != api.OK {
			t.Errorf("Put(%x, %d, %d): %d", id[:1], n, until, e)
		}
	}
}

func refuses(t *testing.T, x *Table, want api.Errno, id api.ID, until int, l ...int) {
	t.Helper()
	for _, n := range l {
		if e := x.Put(id, n, until); e != want {
			t.Errorf("Put(%x, %d, %d): %d, not %d", id[:1], n, until, e, want)
		}
	}
}

func has(t *testing.T, x *Table, id api.ID, now int, want ...int) {
	t.Helper()
	if got := x.Get(id, now); !slices.Equal(got, want) {
		t.Errorf("Get(%x, %d): %v, not %v", id[:1], now, got, want)
	}
}

func names(t *testing.T, x *Table, want ...api.ID) {
	t.Helper()
	if got := x.Names(); !slices.Equal(got, want) {
		t.Errorf("Names: %x, not %x", got, want)
	}
}

func TestExample(t *testing.T) {
	x := New()
	puts(t, x, a, 10, 3)
	has(t, x, a, 9, 3)
	has(t, x, a, 10)
}

func TestEmpty(t *testing.T) {
	x := New()
	x.Drop(a)
	x.Drop(a, 3)
	x.Expire(math.MaxInt)
	has(t, x, a, math.MinInt)
	has(t, x, api.ID{}, 0)
	names(t, x)
}

func TestGet(t *testing.T) {
	x := New()
	puts(t, x, a, 10, 9, 0, 63, 5)
	puts(t, x, a, 20, 30, 1)
	puts(t, x, a, 0, 7)
	puts(t, x, a, math.MaxInt, 40)
	puts(t, x, b, 15, 5)
	for _, c := range []struct {
		now  int
		want []int
	}{
		{math.MinInt, []int{0, 1, 5, 7, 9, 30, 40, 63}},
		{-1, []int{0, 1, 5, 7, 9, 30, 40, 63}},
		{0, []int{0, 1, 5, 9, 30, 40, 63}},
		{9, []int{0, 1, 5, 9, 30, 40, 63}},
		{10, []int{1, 30, 40}},
		{11, []int{1, 30, 40}},
		{19, []int{1, 30, 40}},
		{20, []int{40}},
		{math.MaxInt - 1, []int{40}},
		{math.MaxInt, nil},
		{0, []int{0, 1, 5, 9, 30, 40, 63}},
	} {
		has(t, x, a, c.now, c.want...)
	}
	has(t, x, b, 14, 5)
	has(t, x, b, 15)
	has(t, x, api.ID{3}, 0)
	names(t, x, a, b)
}

// An address has a name for the longest time that anybody said, never for a shorter one.
func TestLonger(t *testing.T) {
	x := New()
	for _, c := range []struct{ until, last int }{
		{10, 9}, {4, 9}, {10, 9}, {0, 9}, {-1, 9}, {math.MinInt, 9}, {11, 10}, {30, 29}, {29, 29}, {math.MaxInt, math.MaxInt - 1}, {5, math.MaxInt - 1},
	} {
		puts(t, x, a, c.until, 3)
		has(t, x, a, c.last, 3)
		has(t, x, a, c.last+1)
	}
}

// What is over may be had again, and what was removed is forgotten.
func TestAgain(t *testing.T) {
	x := New()
	puts(t, x, a, 10, 3)
	has(t, x, a, 50)
	puts(t, x, a, 60, 3)
	has(t, x, a, 59, 3)
	x.Drop(a, 3)
	puts(t, x, a, 5, 3)
	has(t, x, a, 4, 3)
	has(t, x, a, 5)
	puts(t, x, a, 60, 3)
	x.Expire(60)
	puts(t, x, a, 5, 3)
	has(t, x, a, 4, 3)
	has(t, x, a, 5)
}

// For a new address an until below 0 counts as 0.
func TestBelowZero(t *testing.T) {
	for _, until := range []int{0, -1, -70, math.MinInt} {
		x := New()
		puts(t, x, a, until, 3)
		has(t, x, a, 0)
		has(t, x, a, -1, 3)
		x.Expire(-1)
		has(t, x, a, -1, 3)
		names(t, x, a)
		puts(t, x, a, 1, 3)
		has(t, x, a, 0, 3)
		x.Expire(0)
		puts(t, x, a, until, 4)
		has(t, x, a, 0, 3)
		has(t, x, a, -1, 3, 4)
		x.Expire(0)
		has(t, x, a, -1, 3)
		x.Expire(1)
		names(t, x)
	}
}

func TestStrangeAddresses(t *testing.T) {
	x := New()
	refuses(t, x, api.ErrArg, a, 10, strange...)
	names(t, x)
	puts(t, x, a, 10, 0, 63)
	refuses(t, x, api.ErrArg, a, 10, strange...)
	x.Drop(a, strange...)
	x.Drop(b, strange...)
	has(t, x, a, 9, 0, 63)
	names(t, x, a)
}

func TestManyAddresses(t *testing.T) {
	x := New()
	puts(t, x, a, 10, 0, 10, 20, 30, 40, 50, 60, 63)
	refuses(t, x, api.ErrFull, a, 99, 1, 2, 62)
	refuses(t, x, api.ErrArg, a, 99, strange...)
	has(t, x, a, 9, 0, 10, 20, 30, 40, 50, 60, 63)
	has(t, x, a, 10)
	// Those that are known already go on, and other names have room of their own.
	puts(t, x, a, 20, 0, 63)
	has(t, x, a, 10, 0, 63)
	puts(t, x, b, 10, 1, 2, 3, 4, 5, 6, 7, 8)
	refuses(t, x, api.ErrFull, b, 10, 9)
	// What is over has its place until it is removed.
	has(t, x, a, 15, 0, 63)
	refuses(t, x, api.ErrFull, a, 99, 1)
	x.Expire(9)
	refuses(t, x, api.ErrFull, a, 99, 1)
	x.Drop(a, 1, 2)
	refuses(t, x, api.ErrFull, a, 99, 1)
	x.Drop(a, 20)
	puts(t, x, a, 99, 1)
	refuses(t, x, api.ErrFull, a, 99, 20)
	x.Expire(10)
	has(t, x, a, 0, 0, 1, 63)
	puts(t, x, a, 10, 20, 30, 40, 50, 60)
	refuses(t, x, api.ErrFull, a, 10, 10)
	names(t, x, a)
}

func TestManyNames(t *testing.T) {
	x := New()
	var all []api.ID
	for i := range 64 {
		all = append(all, api.ID{byte(3 * i), 7})
		puts(t, x, all[i], 10+i, 5)
	}
	names(t, x, all...)
	refuses(t, x, api.ErrFull, a, 99, 5, 6)
	refuses(t, x, api.ErrArg, a, 99, strange...)
	has(t, x, a, 0)
	names(t, x, all...)
	puts(t, x, all[0], 99, 6)
	puts(t, x, all[63], 99, 5)
	// What is over has its place until it is removed.
	has(t, x, all[5], 15)
	refuses(t, x, api.ErrFull, a, 99, 5)
	x.Drop(all[0], 6)
	x.Drop(all[1], 6)
	refuses(t, x, api.ErrFull, a, 99, 5)
	x.Drop(all[0], 5)
	puts(t, x, a, 99, 5)
	refuses(t, x, api.ErrFull, all[0], 99, 5)
	names(t, x, slices.Concat([]api.ID{a}, all[1:])...)
	x.Expire(11)
	puts(t, x, all[0], 99, 5)
	refuses(t, x, api.ErrFull, b, 99, 5)
	x.Expire(71)
	names(t, x, all[0], a, all[62], all[63])
	puts(t, x, b, 99, 5)
}

func TestDrop(t *testing.T) {
	for _, c := range []struct {
		id   api.ID
		l    []int
		want []int
	}{
		{a, nil, []int{2, 3, 5}},
		{a, []int{}, []int{2, 3, 5}},
		{a, []int{4}, []int{2, 3, 5}},
		{b, []int{2, 3}, []int{2, 3, 5}},
		{api.ID{}, []int{2, 3, 5}, []int{2, 3, 5}},
		{a, []int{3}, []int{2, 5}},
		{a, []int{5, 5, 9, 2, 5, -1}, []int{3}},
		{a, []int{3, 2, 5}, nil},
		{a, []int{9, 5, 3, 2, 2}, nil},
	} {
		x := New()
		puts(t, x, a, 10, 5, 2, 3)
		puts(t, x, b, 10, 1, 7)
		given := slices.Clone(c.l)
		x.Drop(c.id, c.l...)
		if !slices.Equal(c.l, given) {
			t.Errorf("the addresses became %v", c.l)
		}
		has(t, x, a, 9, c.want...)
		has(t, x, b, 9, 1, 7)
		if len(c.want) == 0 {
			names(t, x, b)
		} else {
			names(t, x, a, b)
		}
	}
}

func TestExpire(t *testing.T) {
	for _, c := range []struct {
		now  int
		a, b []int
	}{
		{math.MinInt, []int{1, 2, 3}, []int{1, 4}},
		{-1, []int{1, 2, 3}, []int{1, 4}},
		{0, []int{1, 2, 3}, []int{1}},
		{9, []int{1, 2, 3}, []int{1}},
		{10, []int{2, 3}, []int{1}},
		{11, []int{2, 3}, []int{1}},
		{20, []int{3}, nil},
		{29, []int{3}, nil},
		{30, nil, nil},
		{math.MaxInt, nil, nil},
	} {
		x := New()
		puts(t, x, a, 10, 1)
		puts(t, x, a, 20, 2)
		puts(t, x, a, 30, 3)
		puts(t, x, b, 20, 1)
		puts(t, x, b, 0, 4)
		x.Expire(c.now)
		has(t, x, a, math.MinInt, c.a...)
		has(t, x, b, math.MinInt, c.b...)
		var left []api.ID
		if len(c.a) > 0 {
			left = append(left, a)
		}
		if len(c.b) > 0 {
			left = append(left, b)
		}
		names(t, x, left...)
	}
	x := New()
	puts(t, x, a, math.MaxInt, 1)
	x.Expire(math.MaxInt - 1)
	names(t, x, a)
	x.Expire(math.MaxInt)
	names(t, x)
}

func TestNames(t *testing.T) {
	x := New()
	sorted := []api.ID{{}, {31: 1}, {0, 0, 9}, {0, 1}, {1}, {1, 0, 0, 1}, {127, 255}, {128}, {255}, {255, 31: 255}}
	for i := range sorted {
		puts(t, x, sorted[(7*i+3)%len(sorted)], 10-i, i)
	}
	names(t, x, sorted...)
}

// claim is one record of a slow model, which is a list of them.
type claim struct {
	id             api.ID
	address, until int
}

type model []claim

func (m model) find(id api.ID, address int) int {
	return slices.IndexFunc(m, func(c claim) bool { return c.id == id && c.address == address })
}

func (m model) names() []api.ID {
	var l []api.ID
	for _, c := range m {
		if !slices.Contains(l, c.id) {
			l = append(l, c.id)
		}
	}
	slices.SortFunc(l, func(a, b api.ID) int { return bytes.Compare(a[:], b[:]) })
	return l
}

func (m model) get(id api.ID, now int) []int {
	var l []int
	for _, c := range m {
		if c.id == id && c.until > now {
			l = append(l, c.address)
		}
	}
	slices.Sort(l)
	return l
}

func (m model) put(id api.ID, address, until int) (model, api.Errno) {
	if address < 0 || address > 63 {
		return m, api.ErrArg
	}
	i := m.find(id, address)
	if i >= 0 {
		m[i].until = max(m[i].until, until)
		return m, api.OK
	}
	if known := m.names(); !slices.Contains(known, id) && len(known) == 64 || len(m.get(id, math.MinInt)) == 8 {
		return m, api.ErrFull
	}
	return append(m, claim{id, address, max(until, 0)}), api.OK
}

func (m model) drop(id api.ID, l []int) model {
	return slices.DeleteFunc(m, func(c claim) bool { return c.id == id && slices.Contains(l, c.address) })
}

func (m model) expire(now int) model {
	return slices.DeleteFunc(m, func(c claim) bool { return c.until <= now })
}

// agree compares a table with a slow model.
func agree(x *Table, m model, ids []api.ID, now int) bool {
	for _, id := range ids {
		if !slices.Equal(x.Get(id, now), m.get(id, now)) || !slices.Equal(x.Get(id, -1), m.get(id, -1)) {
			return false
		}
	}
	return slices.Equal(x.Names(), m.names())
}

func TestRandomHistories(t *testing.T) {
	histories := 40
	if testing.Short() {
		histories = 5
	}
	full := 0
	for seed := range histories {
		r := rand.New(rand.NewSource(int64(seed)))
		var ids []api.ID
		for i := range []int{3, 80}[seed%2] {
			ids = append(ids, api.ID{byte(r.Intn(3)), byte(i), byte(r.Intn(256))})
		}
		x, m := New(), model(nil)
		for step := range 300 {
			id, address, until := ids[r.Intn(len(ids))], r.Intn(66)-1, step+r.Intn(150)-30
			switch k := r.Intn(20); {
			case k == 0:
				x.Expire(step)
				m = m.expire(step)
			case k < 4:
				l := r.Perm(64)[:r.Intn(40)]
				x.Drop(id, l...)
				m = m.drop(id, l)
			default:
				var want api.Errno
				m, want = m.put(id, address, until)
				if got := x.Put(id, address, until); got != want {
					t.Fatalf("history %d, step %d: Put: %d, not %d", seed, step, got, want)
				}
				if want == api.ErrFull {
					full++
				}
			}
			asked := []api.ID{id}
			if step%30 == 0 {
				asked = ids
			}
			if !agree(x, m, asked, step) {
				t.Fatalf("history %d, step %d: other results", seed, step)
			}
		}
	}
	if full < histories {
		t.Errorf("only %d refusals for want of room", full)
	}
}

func TestResultsAreApart(t *testing.T) {
	x := New()
	puts(t, x, a, 10, 3, 5)
	puts(t, x, b, 10, 5)
	got, all := x.Get(a, 0), x.Names()
	for _, l := range [][]int{x.Get(a, 0), x.Get(b, 0)} {
		clear(l)
		_ = append(l[:0], 9, 9)
	}
	clear(x.Names())
	x.Drop(a, 3, 5)
	puts(t, x, api.ID{}, 10, 0)
	if !slices.Equal(got, []int{3, 5}) || !slices.Equal(all, []api.ID{a, b}) {
		t.Errorf("the results became %v, %x", got, all)
	}
	names(t, x, api.ID{}, b)
	has(t, x, b, 0, 5)
}

func TestTablesAreApart(t *testing.T) {
	x, y := New(), New()
	puts(t, x, a, 10, 3)
	puts(t, y, a, 20, 4)
	y.Expire(15)
	x.Drop(a, 4)
	has(t, x, a, 9, 3)
	has(t, y, a, 9, 4)
}

// The same calls return the same again, and asking changes nothing.
func TestTheSameAgain(t *testing.T) {
	run := func(ask bool) string {
		r := rand.New(rand.NewSource(4))
		x := New()
		var out bytes.Buffer
		for step := range 2000 {
			id := api.ID{byte(r.Intn(70))}
			out.WriteString(strconv.Itoa(int(x.Put(id, r.Intn(70), step+r.Intn(50)))))
			for _, n := range x.Get(id, step) {
				out.WriteString(strconv.Itoa(n))
			}
			for _, id := range x.Names() {
				out.Write(id[:1])
			}
			if r.Intn(9) == 0 {
				x.Drop(id, r.Perm(64)[:30]...)
			}
			if step%100 == 99 {
				x.Expire(step)
			}
			if ask {
				x.Get(id, math.MaxInt)
				x.Get(api.ID{255}, 0)
				x.Names()
				x.Put(api.ID{255}, 64, math.MaxInt)
				x.Drop(api.ID{255}, 5)
				x.Drop(id)
				x.Expire(-1)
			}
		}
		return out.String()
	}
	if a, b, c := run(false), run(false), run(true); a != b || a != c {
		t.Error("other results")
	}
}

func FuzzHistories(f *testing.F) {
	f.Add([]byte("\x01\x03\x0a\x01\x03\x05\x42\x00\x09\x81\x03\x00"))
	f.Add(bytes.Repeat([]byte{1, 2, 3, 5, 8, 13, 21, 34, 55, 89, 144, 233}, 20))
	f.Fuzz(func(t *testing.T, calls []byte) {
		x, m := New(), model(nil)
		var ids []api.ID
		for i := range 64 {
			ids = append(ids, api.ID{byte(i)})
		}
		for i := 0; i+2 < min(len(calls), 300); i += 3 {
			id, address, until := ids[calls[i]&63], int(int8(calls[i+1])), int(int8(calls[i+2]))
			switch calls[i] >> 6 {
			case 0, 1:
				var want api.Errno
				m, want = m.put(id, address, until)
				if got := x.Put(id, address, until); got != want {
					t.Fatalf("call %d: Put: %d, not %d", i/3, got, want)
				}
			case 2:
				x.Drop(id, address, address^1)
				m = m.drop(id, []int{address, address ^ 1})
			default:
				x.Expire(until)
				m = m.expire(until)
			}
			if !agree(x, m, []api.ID{id}, until) {
				t.Fatalf("call %d: other results", i/3)
			}
		}
	})
}
