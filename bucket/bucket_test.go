package bucket

import (
	"bytes"
	"math"
	"math/big"
	"math/rand"
	"slices"
	"strconv"
	"strings"
	"testing"

	"caravan/api"
	"caravan/hash"
	"caravan/oid"
)

// The signatures that the chapter lists: a variable number of addresses is sorted.
var (
	_ func(int) api.ID                                = ID
	_ func(int) *Table                                = New
	_ func(*Table) int                                = (*Table).Own
	_ func(*Table, int) (int, bool)                   = (*Table).Heard
	_ func(*Table, int) bool                          = (*Table).Gone
	_ func(*Table, int) bool                          = (*Table).Knows
	_ func(*Table) []int                              = (*Table).All
	_ func(goal api.ID, l ...int) []int               = Sort
	_ func(t *Table, goal api.ID, n int) (near []int) = (*Table).Near
	_                                                 = [1]int{}[Most-4]
)

// The buckets of 0, by the length of the common prefix, as another program computed them.
var (
	first  = []int{1, 3, 5, 7, 9, 11, 22, 23, 26, 29, 31, 32, 33, 35, 41, 43, 44, 45, 48, 49, 50, 54, 55, 56, 58, 61, 63}
	second = []int{2, 4, 8, 10, 12, 14, 17, 19, 20, 34, 36, 38, 39, 40, 46, 47, 51, 52, 57, 59, 60, 62}
	third  = []int{6, 15, 16, 18, 25, 27, 28, 30, 37, 53}
	fourth = []int{21, 42}
	fifth  = []int{13, 24}
)

// All addresses in ascending order of distance from the zero name and from the name that begins with 55, as another program computed them.
var (
	fromZero = []int{21, 42, 13, 24, 0, 53, 16, 6, 37, 30, 25, 27, 28, 18, 15, 12, 46, 20, 38, 36, 59, 60, 14, 4, 10, 40, 34, 39, 51, 52, 2, 19, 62, 17, 57, 8, 47, 3, 43, 50, 35, 29, 63, 48, 58, 26, 61, 23, 22, 41, 33, 5, 44, 1, 54, 31, 55, 7, 56, 9, 32, 45, 11, 49}
	from55   = []int{60, 59, 36, 4, 14, 38, 20, 46, 12, 47, 40, 34, 10, 62, 17, 57, 8, 39, 52, 2, 19, 51, 24, 13, 0, 21, 42, 27, 25, 28, 18, 15, 16, 53, 37, 30, 6, 33, 41, 44, 1, 31, 55, 54, 5, 61, 22, 23, 32, 11, 49, 45, 7, 9, 56, 63, 29, 35, 48, 43, 50, 3, 58, 26}
)

// strange are numbers that are no addresses.
var strange = []int{-1, 64, 65, 255, 256, 257, 320, -64, -255, -256, math.MinInt, math.MaxInt}

// distance is the distance of an address from a goal, as a number.
func distance(goal api.ID, address int) *big.Int {
	name := hash.Of("crv\x04\x00\x00\x00\x01" + string([]byte{byte(address)}))
	return new(big.Int).Xor(new(big.Int).SetBytes(goal[:]), new(big.Int).SetBytes(name[:]))
}

// slowSort inserts one address after the other, ahead of the first one that is farther.
func slowSort(goal api.ID, l ...int) []int {
	var sorted []int
	for _, n := range l {
		i := 0
		for ; i < len(sorted); i++ {
			c := distance(goal, sorted[i]).Cmp(distance(goal, n))
			if c > 0 || c == 0 && sorted[i] > n {
				break
			}
		}
		sorted = slices.Insert(sorted, i, n)
	}
	return sorted
}

// book is a table as the chapter says it, with nothing to make it quick: one list of all addresses in the order in which they were heard of.
type book struct {
	own   int
	known []int
	waits []int // at most one of each bucket
}

// group is the number of an address's bucket.
func (w *book) group(address int) int {
	return 256 - distance(ID(w.own), address).BitLen()
}

// of is what a list has of an address's bucket.
func (w *book) of(list []int, address int) []int {
	var l []int
	for _, n := range list {
		if w.group(n) == w.group(address) {
			l = append(l, n)
		}
	}
	return l
}

func without(list []int, address int) []int {
	return slices.DeleteFunc(slices.Clone(list), func(n int) bool { return n == address })
}

func (w *book) heard(address int) (int, bool) {
	if address == w.own || address < 0 || address > 63 {
		return 0, false
	}
	known, waits := w.of(w.known, address), w.of(w.waits, address)
	switch {
	case slices.Contains(known, address):
		if known[0] == address {
			for _, n := range waits {
				w.waits = without(w.waits, n)
			}
		}
		w.known = append(without(w.known, address), address)
	case len(known) < 4:
		w.known = append(w.known, address)
	case len(waits) == 0:
		w.waits = append(w.waits, address)
		return known[0], true
	}
	return 0, false
}

func (w *book) gone(address int) bool {
	if !slices.Contains(w.known, address) {
		return false
	}
	w.known = without(w.known, address)
	for _, n := range w.of(w.waits, address) {
		w.waits = without(w.waits, n)
		w.known = append(w.known, n)
	}
	return true
}

func (w *book) all() []int {
	return slices.Sorted(slices.Values(w.known))
}

// hears records addresses that are not to lead to a question.
func hears(t *testing.T, x *Table, addresses ...int) {
	t.Helper()
	for _, n := range addresses {
		if silent, ask := x.Heard(n); silent != 0 || ask {
			t.Errorf("Heard(%d): %d, %v", n, silent, ask)
		}
	}
}

// asks records an address that is to lead to the question whether another one still exists.
func asks(t *testing.T, x *Table, address, silent int) {
	t.Helper()
	if n, ask := x.Heard(address); n != silent || !ask {
		t.Errorf("Heard(%d): %d, %v, not %d", address, n, ask, silent)
	}
}

// has checks which addresses a table knows.
func has(t *testing.T, x *Table, want ...int) {
	t.Helper()
	slices.Sort(want)
	if !slices.Equal(x.All(), want) {
		t.Errorf("it knows %v, not %v", x.All(), want)
	}
	for n := -70; n < 330; n++ {
		if x.Knows(n) != slices.Contains(want, n) {
			t.Errorf("Knows(%d): %v", n, x.Knows(n))
		}
	}
}

func goes(t *testing.T, x *Table, address int) {
	t.Helper()
	if !x.Gone(address) {
		t.Errorf("Gone(%d): false", address)
	}
}

func TestID(t *testing.T) {
	for _, c := range []struct {
		address int
		want    string
	}{
		{0, "1a3325be97d3a05b39378a20129cb3ccd5d2124ff84aeae835939711088d9c92"},
		{1, "dcf9ba34b0c65fd4c4c3513f6899c97e899437855f494a3e4bae3cdb0b0e6872"},
		{2, "6b757d0f430f936f50cb2965da312be24a42d72d65fe8e4ae363edec28e69bf1"},
		{63, "94efef91561b1825783bf6433d715e042de4dad7f848ef2743d3302bec386951"},
		{255, "7d90754f4f67735f50b5d62c69575f8bf20843669e8f7c0d576d2379dba50e2e"},
		{256, "1a3325be97d3a05b39378a20129cb3ccd5d2124ff84aeae835939711088d9c92"},
		{0x1202, "6b757d0f430f936f50cb2965da312be24a42d72d65fe8e4ae363edec28e69bf1"},
		{-1, "7d90754f4f67735f50b5d62c69575f8bf20843669e8f7c0d576d2379dba50e2e"},
		{-255, "dcf9ba34b0c65fd4c4c3513f6899c97e899437855f494a3e4bae3cdb0b0e6872"},
		{math.MinInt, "1a3325be97d3a05b39378a20129cb3ccd5d2124ff84aeae835939711088d9c92"},
		{math.MaxInt, "7d90754f4f67735f50b5d62c69575f8bf20843669e8f7c0d576d2379dba50e2e"},
	} {
		if got := hash.Hex(ID(c.address)); got != c.want {
			t.Errorf("ID(%d) = %s, not %s", c.address, got, c.want)
		}
	}
	for n := range 256 {
		if ID(n) != oid.Of(oid.Peer, string([]byte{byte(n)})) {
			t.Errorf("ID(%d) is not the name of an object of kind Peer", n)
		}
	}
}

func TestExample(t *testing.T) {
	x := New(0)
	hears(t, x, first[:4]...)
	asks(t, x, first[4], first[0])
	has(t, x, first[:4]...)
	goes(t, x, first[0])
	has(t, x, first[1:5]...)
}

func TestNew(t *testing.T) {
	for _, own := range append([]int{0, 1, 44, 63}, strange...) {
		x := New(own)
		if x.Own() != own {
			t.Errorf("New(%d) is of %d", own, x.Own())
		}
		has(t, x)
		if x.Gone(5) || x.Gone(own) || len(x.Near(api.ID{}, 9)) != 0 {
			t.Errorf("New(%d) knows somebody", own)
		}
		hears(t, x, own)
		has(t, x)
	}
}

func TestHeardHasNoEffect(t *testing.T) {
	x := New(0)
	hears(t, x, first[:4]...)
	hears(t, x, strange...)
	hears(t, x, 0, 0)
	has(t, x, first[:4]...)
	for _, n := range append([]int{0, first[5], second[0]}, strange...) {
		if x.Gone(n) {
			t.Errorf("Gone(%d)", n)
		}
	}
	asks(t, x, first[4], first[0])
}

// An own number that is no address has the name of one, which is an ordinary address in the table.
func TestOwnIsNoAddress(t *testing.T) {
	for _, own := range []int{256, -256, math.MinInt} {
		x := New(own)
		hears(t, x, 0, 21, 42, 13, 24)
		has(t, x, 0, 21, 42, 13, 24)
		hears(t, x, first[:4]...)
		hears(t, x, 0)
		asks(t, x, first[4], first[0])
		goes(t, x, 0)
		has(t, x, append([]int{21, 42, 13, 24}, first[:4]...)...)
	}
}

func TestBuckets(t *testing.T) {
	for _, bucket := range [][]int{first, second, third, fourth, fifth} {
		x := New(0)
		room := min(len(bucket), 4)
		hears(t, x, bucket[:room]...)
		has(t, x, bucket[:room]...)
		for i, n := range bucket[room:] {
			if i == 0 {
				asks(t, x, n, bucket[0])
			} else {
				hears(t, x, n)
			}
		}
		has(t, x, bucket[:room]...)
	}
}

// A full bucket does not keep others out of the other ones, and what waits there belongs there.
func TestBucketsAreApart(t *testing.T) {
	x := New(0)
	all := slices.Concat(first[:4], second[:4], third[:4], fourth, fifth)
	hears(t, x, all...)
	has(t, x, all...)
	asks(t, x, second[4], second[0])
	asks(t, x, first[4], first[0])
	asks(t, x, third[4], third[0])
	hears(t, x, first[5], second[5], third[5])
	hears(t, x, second[0])
	goes(t, x, fourth[0])
	has(t, x, without(all, fourth[0])...)
	goes(t, x, first[0])
	goes(t, x, third[2])
	goes(t, x, second[2])
	has(t, x, slices.Concat(first[1:5], second[:2], second[3:4], third[:2], third[3:5], fourth[1:], fifth)...)
}

func TestHeardAgain(t *testing.T) {
	x := New(0)
	hears(t, x, first[:4]...)
	hears(t, x, first[0], first[2], first[2])
	asks(t, x, first[4], first[1])
	x = New(0)
	hears(t, x, first[:3]...)
	hears(t, x, first[0], first[3], first[1])
	has(t, x, first[:4]...)
	asks(t, x, first[4], first[2])
}

func TestWho(t *testing.T) {
	for _, c := range []struct {
		what  string
		then  func(t *testing.T, x *Table)
		known []int
	}{
		{"nothing", func(t *testing.T, x *Table) {}, []int{1, 3, 5, 7}},
		{"the first one responds", func(t *testing.T, x *Table) { hears(t, x, 1) }, []int{1, 3, 5, 7}},
		{"the first one is gone", func(t *testing.T, x *Table) { goes(t, x, 1) }, []int{3, 5, 7, 9}},
		{"another one is gone", func(t *testing.T, x *Table) { goes(t, x, 5) }, []int{1, 3, 7, 9}},
		{"the last one is gone", func(t *testing.T, x *Table) { goes(t, x, 7) }, []int{1, 3, 5, 9}},
		{"two are gone", func(t *testing.T, x *Table) { goes(t, x, 1); goes(t, x, 3) }, []int{5, 7, 9}},
		{"the first one responds and is gone", func(t *testing.T, x *Table) { hears(t, x, 1); goes(t, x, 1) }, []int{3, 5, 7}},
		{"the first one responds, the next one is gone", func(t *testing.T, x *Table) { hears(t, x, 1); goes(t, x, 3) }, []int{1, 5, 7}},
		{"the others respond, the first one is gone", func(t *testing.T, x *Table) { hears(t, x, 3, 5, 7, 3); goes(t, x, 1) }, []int{3, 5, 7, 9}},
		{"one of the others responds", func(t *testing.T, x *Table) { hears(t, x, 3) }, []int{1, 3, 5, 7}},
		{"the one that waits is heard of again", func(t *testing.T, x *Table) { hears(t, x, 9); goes(t, x, 1) }, []int{3, 5, 7, 9}},
		{"the one that waits is said to be gone", func(t *testing.T, x *Table) {
			if x.Gone(9) {
				t.Error("Gone(9)")
			}
			goes(t, x, 1)
		}, []int{3, 5, 7, 9}},
		{"another one is heard of", func(t *testing.T, x *Table) { hears(t, x, 11); goes(t, x, 1) }, []int{3, 5, 7, 9}},
		{"the first one responds, then another one waits", func(t *testing.T, x *Table) { hears(t, x, 1); asks(t, x, 11, 3); goes(t, x, 3) }, []int{1, 5, 7, 11}},
		{"the first one responds, then it waits again", func(t *testing.T, x *Table) { hears(t, x, 1); asks(t, x, 9, 3); goes(t, x, 7) }, []int{1, 3, 5, 9}},
		{"all respond, then another one waits", func(t *testing.T, x *Table) { hears(t, x, 1, 3, 5, 7); asks(t, x, 11, 1); goes(t, x, 1) }, []int{3, 5, 7, 11}},
		{"one is gone, then others wait", func(t *testing.T, x *Table) {
			goes(t, x, 5)
			asks(t, x, 11, 1)
			hears(t, x, 22)
			goes(t, x, 1)
			asks(t, x, 22, 3)
			hears(t, x, 3)
			asks(t, x, 22, 7)
			goes(t, x, 7)
			asks(t, x, 23, 9)
		}, []int{3, 9, 11, 22}},
	} {
		t.Run(c.what, func(t *testing.T) {
			x := New(0)
			hears(t, x, 1, 3, 5, 7)
			asks(t, x, 9, 1)
			c.then(t, x)
			has(t, x, c.known...)
		})
	}
}

// An address that was removed is as one that was never heard of.
func TestBackAgain(t *testing.T) {
	x := New(0)
	hears(t, x, first[:4]...)
	goes(t, x, first[0])
	if x.Gone(first[0]) {
		t.Error("it was removed already")
	}
	hears(t, x, first[0])
	asks(t, x, first[4], first[1])
	goes(t, x, first[1])
	asks(t, x, first[1], first[2])
}

// STAY: those that always respond when they are asked are never displaced, however many others come.
func TestStay(t *testing.T) {
	r := rand.New(rand.NewSource(1))
	for range 100 {
		own := r.Intn(64)
		x := New(own)
		for range 40 {
			x.Heard(r.Intn(64))
		}
		known := x.All()
		for range 500 {
			if n, ask := x.Heard(r.Intn(64)); ask {
				if !x.Knows(n) {
					t.Fatalf("of %d: %d is to be asked, which is not in the table", own, n)
				}
				x.Heard(n)
			}
		}
		for _, n := range known {
			if !x.Knows(n) {
				t.Fatalf("of %d: %d was displaced", own, n)
			}
		}
	}
}

// Those that do not respond make room in time.
func TestTheSilentGo(t *testing.T) {
	x := New(0)
	hears(t, x, first[:4]...)
	here := first[10:14]
	for range 5 {
		for _, n := range here {
			if silent, ask := x.Heard(n); ask && !slices.Contains(here, silent) {
				x.Gone(silent)
			}
		}
	}
	has(t, x, here...)
}

func TestSort(t *testing.T) {
	var all []int
	for n := range 64 {
		all = append(all, n)
	}
	if got := Sort(api.ID{}, all...); !slices.Equal(got, fromZero) {
		t.Errorf("from 0: %v", got)
	}
	if got := Sort(api.ID{0x55}, all...); !slices.Equal(got, from55) {
		t.Errorf("from 55: %v", got)
	}
	for n := range 64 {
		if got := Sort(ID(n), all...); got[0] != n || len(got) != 64 {
			t.Errorf("from %d itself: %v", n, got)
		}
	}
	for _, c := range []struct{ l, want []int }{
		{nil, nil},
		{[]int{}, nil},
		{[]int{7}, []int{7}},
		{[]int{7, 7, 0, 7}, []int{0, 7, 7, 7}},
		{[]int{56, 1, 21}, []int{21, 1, 56}},
		{[]int{277, 21, -235, 42, 21}, []int{-235, 21, 21, 277, 42}},
		{[]int{math.MaxInt, 255, -1}, []int{-1, 255, math.MaxInt}},
		{[]int{256, 0, math.MinInt}, []int{math.MinInt, 0, 256}},
	} {
		given := slices.Clone(c.l)
		if got := Sort(api.ID{}, c.l...); !slices.Equal(got, c.want) {
			t.Errorf("Sort of %v: %v, not %v", c.l, got, c.want)
		}
		if !slices.Equal(c.l, given) {
			t.Errorf("the addresses became %v", c.l)
		}
	}
}

func TestSortRandom(t *testing.T) {
	r := rand.New(rand.NewSource(2))
	for range 300 {
		var goal api.ID
		r.Read(goal[:])
		if r.Intn(3) == 0 {
			goal = ID(r.Intn(64))
		}
		l := make([]int, r.Intn(20))
		for i := range l {
			l[i] = r.Intn(600) - 300
		}
		if got, want := Sort(goal, l...), slowSort(goal, l...); !slices.Equal(got, want) {
			t.Fatalf("Sort of %v: %v, not %v", l, got, want)
		}
	}
}

func TestNear(t *testing.T) {
	x := New(9)
	hears(t, x, 21, 45, 3, 60)
	for _, c := range []struct {
		goal api.ID
		n    int
		want []int
	}{
		{api.ID{}, 4, []int{21, 60, 3, 45}},
		{api.ID{}, 3, []int{21, 60, 3}},
		{api.ID{}, 1, []int{21}},
		{api.ID{}, 0, nil},
		{api.ID{}, -1, nil},
		{api.ID{}, math.MinInt, nil},
		{api.ID{}, 5, []int{21, 60, 3, 45}},
		{api.ID{}, math.MaxInt, []int{21, 60, 3, 45}},
		{api.ID{0x55}, 2, []int{60, 21}},
		{api.ID{0x55}, 9, []int{60, 21, 45, 3}},
		{ID(3), 1, []int{3}},
		{ID(45), 1, []int{45}},
	} {
		if got := x.Near(c.goal, c.n); !slices.Equal(got, c.want) {
			t.Errorf("Near(%x, %d): %v, not %v", c.goal[:2], c.n, got, c.want)
		}
	}
	has(t, x, 3, 21, 45, 60)
}

// Who waits is not yet one of those that the table knows.
func TestNearOfThoseThatWait(t *testing.T) {
	x := New(0)
	hears(t, x, first[:4]...)
	asks(t, x, first[4], first[0])
	if got := x.Near(ID(first[4]), 9); len(got) != 4 || slices.Contains(got, first[4]) {
		t.Errorf("Near: %v", got)
	}
	goes(t, x, first[2])
	if got := x.Near(ID(first[4]), 1); !slices.Equal(got, first[4:5]) {
		t.Errorf("Near: %v", got)
	}
}

// agree does the same call to a table and to a book, and reports whether the results are the same.
func agree(x *Table, w *book, gone bool, address int) bool {
	if gone {
		if x.Gone(address) != w.gone(address) {
			return false
		}
	} else {
		n, ask := x.Heard(address)
		if m, is := w.heard(address); n != m || ask != is {
			return false
		}
	}
	return x.Own() == w.own && slices.Equal(x.All(), w.all()) && x.Knows(address) == slices.Contains(w.known, address)
}

func TestRandomHistories(t *testing.T) {
	histories := 60
	if testing.Short() {
		histories = 6
	}
	for seed := range histories {
		r := rand.New(rand.NewSource(int64(seed)))
		own := r.Intn(64)
		if r.Intn(5) == 0 {
			own = r.Intn(600) - 300
		}
		x, w := New(own), &book{own: own}
		among := 8 + r.Intn(57)
		for range 200 {
			address := r.Intn(among)
			if r.Intn(20) == 0 {
				address = r.Intn(600) - 300
			}
			gone := r.Intn(4) == 0
			if !agree(x, w, gone, address) {
				t.Fatalf("history %d, of %d: gone %v, %d: other results", seed, own, gone, address)
			}
		}
		var goal api.ID
		r.Read(goal[:])
		n := r.Intn(20)
		if want := slowSort(goal, w.all()...); !slices.Equal(x.Near(goal, n), want[:min(n, len(want))]) {
			t.Fatalf("history %d: Near: %v", seed, x.Near(goal, n))
		}
	}
}

func TestResultsAreApart(t *testing.T) {
	x := New(0)
	hears(t, x, first[:4]...)
	all, near, given := x.All(), x.Near(api.ID{}, 2), []int{7, 5}
	sorted := Sort(api.ID{}, given...)
	for _, l := range [][]int{x.All(), x.Near(api.ID{}, 2), x.Near(api.ID{}, 9)} {
		for i := range l {
			l[i] = -1
		}
		_ = append(l[:0], 9, 9)
	}
	given[0], given[1] = 0, 0
	x.Heard(first[5])
	x.Gone(first[0])
	x.Heard(second[0])
	if !slices.Equal(all, first[:4]) || !slices.Equal(near, []int{3, 5}) || !slices.Equal(sorted, []int{5, 7}) {
		t.Errorf("the results became %v, %v, %v", all, near, sorted)
	}
	has(t, x, first[1], first[2], first[3], first[5], second[0])
}

func TestTablesAreApart(t *testing.T) {
	a, b := New(0), New(0)
	hears(t, a, first[:4]...)
	hears(t, b, first[2:6]...)
	asks(t, a, first[6], first[0])
	asks(t, b, first[7], first[2])
	goes(t, a, first[2])
	has(t, a, first[0], first[1], first[3], first[6])
	has(t, b, first[2:6]...)
}

// The same calls return the same again, and asking changes nothing.
func TestTheSameAgain(t *testing.T) {
	run := func(ask bool) string {
		r := rand.New(rand.NewSource(3))
		x := New(5)
		var out bytes.Buffer
		for range 2000 {
			address := r.Intn(64)
			if r.Intn(5) == 0 {
				out.WriteString(strconv.FormatBool(x.Gone(address)))
			} else {
				n, ok := x.Heard(address)
				out.WriteString(strconv.Itoa(n) + strconv.FormatBool(ok))
			}
			if ask {
				x.All()
				x.Own()
				x.Knows(address)
				x.Near(ID(address), 7)
				x.Heard(5)
				x.Heard(-1)
				x.Gone(5)
				x.Gone(64 + address)
				Sort(ID(address), address, 5)
			}
		}
		return out.String()
	}
	if a, b, c := run(false), run(false), run(true); a != b || a != c {
		t.Error("other results")
	}
}

func FuzzHistories(f *testing.F) {
	f.Add(5, []byte("\x01\x03\x05\x07\x09\x0b\x41\x0d\x43"))
	f.Add(300, []byte(strings.Repeat("\x2c\x6c\x15\x2a", 9)))
	f.Fuzz(func(t *testing.T, own int, calls []byte) {
		x, w := New(own), &book{own: own}
		for i, b := range calls[:min(len(calls), 60)] {
			if !agree(x, w, b>>6 == 1, int(b&63)) {
				t.Fatalf("call %d, %x: other results", i, b)
			}
		}
	})
}
