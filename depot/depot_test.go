package depot

import (
	"bytes"
	"crypto/sha256"
	"encoding/binary"
	"math"
	"math/rand"
	"slices"
	"strconv"
	"strings"
	"testing"

	"caravan/api"
	"caravan/book"
	"caravan/merkle"
	"caravan/oid"
	"caravan/sector"
)

// The signatures that the chapter lists: a depot embeds its book, whose methods are promoted, and so are those of the book's disk.
var (
	_ func(*book.Book, []book.Record) *Depot                            = Load
	_ func(*Depot, ...api.ID) bool                                      = (*Depot).Has
	_ func(*Depot, ...api.ID) []api.ID                                  = (*Depot).Lacks
	_ func(*Depot) []api.ID                                             = (*Depot).List
	_ func(*Depot, ...merkle.Object) api.Errno                          = (*Depot).Put
	_ func(*Depot, ...merkle.Object) int                                = (*Depot).Cost
	_ func(*Depot, api.ID) (merkle.Object, api.Errno)                   = (*Depot).Get
	_ func(*Depot) []api.ID                                             = (*Depot).Spoilt
	_ func(*Depot, []api.ID, ...book.Record) ([]book.Record, api.Errno) = (*Depot).Pack
	_ func(*Depot, int, string) (book.Record, api.Errno)                = (*Depot).Append
	_ func(*Depot, ...book.Record) ([]book.Record, api.Errno)           = (*Depot).Rewrite
	_ func(*Depot) int                                                  = (*Depot).Left
	_ func(*Depot) int                                                  = (*Depot).Turn
	_ func(*Depot) api.Errno                                            = (*Depot).Sync
	_ func(*Depot, int)                                                 = (*Depot).Arm
	_ *book.Book                                                        = Depot{}.Book
	_                                                                   = [1]int{}[Kind-1]
	_                                                                   = [1]int{}[MaxText-4095]
)

// named is the name of an object as layer 2 says it.
func named(kind byte, text string) api.ID {
	head := binary.BigEndian.AppendUint32([]byte{'c', 'r', 'v', kind}, uint32(len(text)))
	return sha256.Sum256(append(head, text...))
}

func object(kind int, text string) merkle.Object {
	return merkle.Object{Kind: kind, ID: named(byte(kind), text), Text: text}
}

func chunk(text string) merkle.Object { return object(1, text) }

// sized is a chunk of that many bytes.
func sized(n int) merkle.Object { return chunk(strings.Repeat("x", n)) }

// record is an object as the chapter stores it.
func record(o merkle.Object) book.Record {
	return book.Record{Kind: 1, Data: string([]byte{byte(o.Kind)}) + o.Text}
}

// placed is records with their positions from at on.
func placed(at int, l ...book.Record) []book.Record {
	list := slices.Clone(l)
	for i := range list {
		list[i].At = at
		at += book.Cost(len(list[i].Data))
	}
	return list
}

func names(l ...merkle.Object) []api.ID {
	var list []api.ID
	for _, o := range l {
		list = append(list, o.ID)
	}
	return list
}

func rising(l ...merkle.Object) []api.ID {
	list := names(l...)
	slices.SortFunc(list, func(a, b api.ID) int { return bytes.Compare(a[:], b[:]) })
	return list
}

// load opens a disk where nothing stands in the way.
func load(t *testing.T, disk *sector.Disk) (*Depot, []book.Record) {
	t.Helper()
	b, l, e := book.Open(disk)
	if e != api.OK {
		t.Fatalf("Open: %d", e)
	}
	d := Load(b, l)
	if d == nil || d.Book != b {
		t.Fatal("Load: another book")
	}
	return d, l
}

// stocked is a depot on a new disk that has these objects.
func stocked(t *testing.T, sectors int, l ...merkle.Object) (*Depot, *sector.Disk) {
	t.Helper()
	disk := sector.New(sectors)
	d, _ := load(t, disk)
	put(t, d, l...)
	return d, disk
}

func put(t *testing.T, d *Depot, l ...merkle.Object) {
	t.Helper()
	if e := d.Put(l...); e != api.OK {
		t.Fatalf("Put: %d", e)
	}
}

func sync(t *testing.T, d *Depot) {
	t.Helper()
	if e := d.Sync(); e != api.OK {
		t.Fatalf("Sync: %d", e)
	}
}

// contents reads a whole disk, whose fuse it clears.
func contents(t *testing.T, d *sector.Disk) string {
	t.Helper()
	d.Clear()
	s, e := d.Read(0, d.Size())
	if e != api.OK {
		t.Fatalf("Read: %d", e)
	}
	return s
}

// fails tells whether Get returns an error and no object.
func fails(t *testing.T, d *Depot, id api.ID, want api.Errno) {
	t.Helper()
	if o, e := d.Get(id); e != want || o != (merkle.Object{}) {
		t.Errorf("Get: %+v, %d, not %d", o, e, want)
	}
}

// gets tells whether Get returns these objects.
func gets(t *testing.T, d *Depot, l ...merkle.Object) {
	t.Helper()
	for _, o := range l {
		if got, e := d.Get(o.ID); got != o || e != api.OK {
			t.Errorf("Get of %d bytes: kind %d, %d bytes, %d", len(o.Text), got.Kind, len(got.Text), e)
		}
	}
}

// stores tells whether a depot has exactly these objects, all of which Get returns.
func stores(t *testing.T, d *Depot, l ...merkle.Object) {
	t.Helper()
	if got, want := d.List(), rising(l...); !slices.Equal(got, want) {
		t.Errorf("List: %x, not %x", got, want)
	}
	if !d.Has(names(l...)...) || len(d.Lacks(names(l...)...)) != 0 || len(d.Spoilt()) != 0 {
		t.Errorf("lacks %x, spoilt %x", d.Lacks(names(l...)...), d.Spoilt())
	}
	gets(t, d, l...)
}

func TestExample(t *testing.T) {
	d, disk := stocked(t, 40, chunk("a"))
	left := d.Left()
	put(t, d, chunk("a"))
	put(t, d, chunk("a"), chunk("a"))
	if d.Left() != left {
		t.Errorf("%d left, not %d", d.Left(), left)
	}
	sync(t, d)
	if _, l := load(t, disk); len(l) != 1 {
		t.Errorf("%d records: %+v", len(l), l)
	}
}

// The bytes of each object are behind one byte that is its kind, in records of kind 1, in the order in which they were put.
func TestRecords(t *testing.T) {
	l := []merkle.Object{chunk("same"), object(2, "same"), object(3, "same"), chunk(""), object(2, ""), object(3, ""), chunk("\x00\xff\x01"), object(3, strings.Repeat("p", 300)), sized(4095)}
	d, disk := stocked(t, 400)
	var want []book.Record
	left := d.Left()
	for _, o := range l {
		put(t, d, o)
		want = append(want, record(o))
		left -= book.Cost(1 + len(o.Text))
		if d.Left() != left {
			t.Errorf("%d bytes: %d left, not %d", len(o.Text), d.Left(), left)
		}
	}
	stores(t, d, l...)
	sync(t, d)
	d, got := load(t, disk)
	if !slices.Equal(got, placed(2, want...)) {
		t.Errorf("records: %+v", got)
	}
	stores(t, d, l...)
}

func TestEmptyDepot(t *testing.T) {
	d, _ := stocked(t, 4)
	if !d.Has() || d.Has(api.ID{}) || len(d.Lacks()) != 0 || len(d.List()) != 0 || len(d.Spoilt()) != 0 || d.Cost() != 0 || d.Put() != api.OK || d.Left() != 1 {
		t.Error("an empty depot has something")
	}
	if !slices.Equal(d.Lacks(api.ID{}), []api.ID{{}}) {
		t.Errorf("Lacks: %v", d.Lacks(api.ID{}))
	}
	fails(t, d, api.ID{}, api.ErrUnknown)
	if l, e := d.Pack(nil); len(l) != 0 || e != api.OK || d.Turn() != 2 {
		t.Errorf("Pack: %v, %d, turn %d", l, e, d.Turn())
	}
}

func TestHasAndLacks(t *testing.T) {
	a, b, c, x := chunk("a"), chunk("b"), object(2, "a"), chunk("x")
	d, _ := stocked(t, 40, a, b)
	for i, q := range []struct{ ask, lacks []merkle.Object }{
		{nil, nil},
		{[]merkle.Object{a}, nil},
		{[]merkle.Object{b, a, b, a}, nil},
		{[]merkle.Object{c}, []merkle.Object{c}},
		{[]merkle.Object{a, c}, []merkle.Object{c}},
		{[]merkle.Object{c, a}, []merkle.Object{c}},
		{[]merkle.Object{x, a, c, b}, []merkle.Object{x, c}},
		{[]merkle.Object{c, a, x, b}, []merkle.Object{c, x}},
		{[]merkle.Object{x, c, x, a, c, a, x}, []merkle.Object{x, c}},
		{[]merkle.Object{c, c, x, c}, []merkle.Object{c, x}},
	} {
		ask := names(q.ask...)
		if got := d.Lacks(ask...); !slices.Equal(got, names(q.lacks...)) {
			t.Errorf("%d: lacks %x", i, got)
		}
		if d.Has(ask...) != (len(q.lacks) == 0) {
			t.Errorf("%d: has %t", i, d.Has(ask...))
		}
		if !slices.Equal(ask, names(q.ask...)) {
			t.Errorf("%d: the names were changed", i)
		}
	}
}

func TestListIsRising(t *testing.T) {
	d, _ := stocked(t, 400)
	var l []merkle.Object
	for i := range 100 {
		o := object(1+i%3, strconv.Itoa(i))
		put(t, d, o)
		l = append(l, o)
		if got := d.List(); !slices.Equal(got, rising(l...)) {
			t.Fatalf("after %d: %x", i+1, got)
		}
	}
}

func TestPutRefuses(t *testing.T) {
	kept := chunk("kept")
	other := func(o merkle.Object, change func(*merkle.Object)) merkle.Object {
		change(&o)
		return o
	}
	long := strings.Repeat("y", 4096)
	for i, c := range []struct {
		o    merkle.Object
		want api.Errno
	}{
		{sized(4096), api.ErrBig},
		{sized(5000), api.ErrBig},
		{sized(1 << 20), api.ErrBig},
		{merkle.Object{Kind: 1, Text: long}, api.ErrBig},
		{merkle.Object{Kind: 9, ID: named(9, long), Text: long}, api.ErrBig},
		{merkle.Object{Kind: 1, ID: kept.ID, Text: long}, api.ErrBig},
		{merkle.Object{}, api.ErrSum},
		{object(0, "a"), api.ErrSum},
		{object(4, "a"), api.ErrSum},
		{object(-1, "a"), api.ErrSum},
		{object(255, "a"), api.ErrSum},
		{object(256, "a"), api.ErrSum},
		// The name of kind 257 is that of kind 1, because both have the same byte.
		{object(257, "a"), api.ErrSum},
		{object(1-256, "a"), api.ErrSum},
		{object(math.MaxInt, "a"), api.ErrSum},
		{object(math.MinInt+1, "a"), api.ErrSum},
		{merkle.Object{Kind: 257, ID: kept.ID, Text: kept.Text}, api.ErrSum},
		{merkle.Object{Kind: 1, Text: "a"}, api.ErrSum},
		{merkle.Object{Kind: 1, ID: named(2, "a"), Text: "a"}, api.ErrSum},
		{merkle.Object{Kind: 2, ID: named(1, "a"), Text: "a"}, api.ErrSum},
		{merkle.Object{Kind: 1, ID: named(1, "b"), Text: "a"}, api.ErrSum},
		// An object with a stored name is refused, too, if the name is not its own.
		{merkle.Object{Kind: 1, ID: kept.ID, Text: "a"}, api.ErrSum},
		{merkle.Object{Kind: 2, ID: kept.ID, Text: kept.Text}, api.ErrSum},
		{other(chunk("a"), func(o *merkle.Object) { o.ID[0] ^= 1 }), api.ErrSum},
		{other(chunk("a"), func(o *merkle.Object) { o.ID[31] ^= 128 }), api.ErrSum},
		// ErrSum is named ahead of the error of Append.
		{merkle.Object{Kind: 1, Text: strings.Repeat("y", 4000)}, api.ErrSum},
		{sized(4095), api.ErrSpace},
		{sized(500), api.ErrSpace},
	} {
		d, disk := stocked(t, 20, kept)
		before := contents(t, disk)
		for _, l := range [][]merkle.Object{{c.o}, {kept, c.o}, {c.o, chunk("late")}, {c.o, c.o}} {
			if e := d.Put(l...); e != c.want {
				t.Errorf("%d: %d, not %d", i, e, c.want)
			}
		}
		stores(t, d, kept)
		if contents(t, disk) != before || d.Left() != 8 {
			t.Errorf("%d: the disk has changed, %d left", i, d.Left())
		}
	}
}

// Objects before an error are stored, those after it are not.
func TestPutUpToAnError(t *testing.T) {
	a, b, late := chunk("a"), object(3, "b"), chunk("late")
	for i, c := range []struct {
		o    merkle.Object
		want api.Errno
	}{
		{sized(4096), api.ErrBig}, {merkle.Object{Kind: 1, Text: "c"}, api.ErrSum}, {object(4, "c"), api.ErrSum}, {sized(600), api.ErrSpace},
	} {
		d, disk := stocked(t, 20)
		if e := d.Put(a, b, a, c.o, late); e != c.want {
			t.Errorf("%d: %d", i, e)
		}
		stores(t, d, a, b)
		sync(t, d)
		d, l := load(t, disk)
		if !slices.Equal(l, placed(2, record(a), record(b))) {
			t.Errorf("%d: %+v", i, l)
		}
		stores(t, d, a, b)
		put(t, d, late)
		stores(t, d, a, b, late)
	}
}

func TestPutFillsTheLastSector(t *testing.T) {
	// 27 bytes are the most that fit into one sector, besides 37 of the record: its checksum, its kind, its length, the object's kind.
	d, disk := stocked(t, 10, sized(27), sized(26))
	if d.Left() != 2 {
		t.Fatalf("%d left", d.Left())
	}
	if e := d.Put(sized(92)); e != api.ErrSpace {
		t.Errorf("three sectors: %d", e)
	}
	put(t, d, sized(91))
	if d.Left() != 0 || d.Put(chunk("")) != api.ErrSpace {
		t.Errorf("%d left", d.Left())
	}
	put(t, d, sized(91), sized(26), sized(27))
	stores(t, d, sized(27), sized(26), sized(91))
	sync(t, d)
	d, _ = load(t, disk)
	stores(t, d, sized(27), sized(26), sized(91))
}

func TestPutWithoutADisk(t *testing.T) {
	a, b, c := chunk("a"), chunk("b"), chunk("c")
	d, disk := stocked(t, 20, a)
	disk.Arm(0)
	for i, x := range []struct {
		l    []merkle.Object
		want api.Errno
	}{
		// What is stored, invalid or too much for the disk makes no call of it.
		{[]merkle.Object{a}, api.OK}, {[]merkle.Object{a, a}, api.OK}, {[]merkle.Object{sized(4096), b}, api.ErrBig},
		{[]merkle.Object{{}, b}, api.ErrSum}, {[]merkle.Object{sized(4095), b}, api.ErrSpace}, {[]merkle.Object{a, b}, api.ErrIO},
	} {
		if e := d.Put(x.l...); e != x.want {
			t.Errorf("%d: %d, not %d", i, e, x.want)
		}
	}
	disk.Arm(1)
	if e := d.Put(b, c); e != api.ErrIO {
		t.Errorf("Put: %d", e)
	}
	if !d.Has(a.ID, b.ID) || d.Has(c.ID) {
		t.Errorf("has %x", d.List())
	}
	disk.Clear()
	stores(t, d, a, b)
}

func TestPutLeavesWhatIsSpoilt(t *testing.T) {
	a, b := chunk("a"), chunk("b")
	d, disk := stocked(t, 20, a, b)
	disk.Spoil(11, 40, 1)
	left := d.Left()
	put(t, d, a)
	if d.Left() != left || !d.Has(a.ID) {
		t.Errorf("%d left, not %d", d.Left(), left)
	}
	fails(t, d, a.ID, api.ErrSum)
	gets(t, d, b)
}

func TestCost(t *testing.T) {
	a, b := chunk("a"), object(2, "a")
	d, disk := stocked(t, 400, a)
	for i, c := range []struct {
		l    []merkle.Object
		want int
	}{
		{nil, 0}, {[]merkle.Object{a}, 0}, {[]merkle.Object{a, a}, 0}, {[]merkle.Object{b}, 1}, {[]merkle.Object{b, b}, 1}, {[]merkle.Object{a, b, a, b}, 1},
		{[]merkle.Object{sized(0)}, 1}, {[]merkle.Object{sized(27)}, 1}, {[]merkle.Object{sized(28)}, 2}, {[]merkle.Object{sized(91)}, 2}, {[]merkle.Object{sized(92)}, 3},
		{[]merkle.Object{sized(254)}, 5}, {[]merkle.Object{sized(4095)}, 65}, {[]merkle.Object{sized(28), sized(27), sized(28), a, sized(92)}, 6},
	} {
		if got := d.Cost(c.l...); got != c.want {
			t.Errorf("%d: %d, not %d", i, got, c.want)
		}
	}
	for n := range 400 {
		l := []merkle.Object{sized(n), object(3, strings.Repeat("z", 400-n)), a, sized(n)}
		d, _ := stocked(t, 400, a)
		cost, left := d.Cost(l...), d.Left()
		put(t, d, l...)
		if left-d.Left() != cost || d.Cost(l...) != 0 {
			t.Errorf("%d bytes: %d sectors, not %d", n, left-d.Left(), cost)
		}
	}
	before := contents(t, disk)
	disk.Arm(0)
	if d.Cost(a, b) != 1 || contents(t, disk) != before || d.Has(b.ID) {
		t.Error("Cost needs the disk, or changes it")
	}
}

func TestGet(t *testing.T) {
	a, b := chunk("a"), object(3, strings.Repeat("b", 200))
	d, disk := stocked(t, 60, a, b)
	gets(t, d, a, b, a)
	absent := []api.ID{{}, {1}, named(2, "a"), named(1, b.Text), named(4, "a"), a.ID}
	absent[5][31] ^= 1
	for range 2 {
		for _, id := range absent {
			fails(t, d, id, api.ErrUnknown)
		}
		disk.Arm(0)
	}
	fails(t, d, a.ID, api.ErrIO)
	disk.Clear()
	gets(t, d, a, b)
	// Appended or not, an object is lost if a crash takes it.
	disk.Crash()
	fails(t, d, a.ID, api.ErrSum)
	if !slices.Equal(d.Spoilt(), rising(a, b)) {
		t.Errorf("spoilt: %x", d.Spoilt())
	}
}

// Every altered byte of a record makes Get fail, for that object only.
func TestGetOfSpoiltObjects(t *testing.T) {
	l := []merkle.Object{chunk("first"), object(2, strings.Repeat("n", 40)), object(3, "last")}
	d, disk := stocked(t, 20, l...)
	sync(t, d)
	at := 11
	for _, o := range l {
		for range book.Cost(1 + len(o.Text)) {
			for by := range 64 {
				disk.Spoil(at, by, byte(1+(at+by)%255))
				fails(t, d, o.ID, api.ErrSum)
				if !slices.Equal(d.Spoilt(), []api.ID{o.ID}) || !d.Has(names(l...)...) || len(d.List()) != 3 {
					t.Errorf("sector %d, byte %d: spoilt %x", at, by, d.Spoilt())
				}
				disk.Spoil(at, by, byte(1+(at+by)%255))
			}
			at++
		}
	}
	stores(t, d, l...)
}

// replaced puts other records in the place of those of a depot with the same turn: checksums and all are valid.
func replaced(t *testing.T, disk *sector.Disk, l ...book.Record) {
	t.Helper()
	twin := sector.New(disk.Size())
	b, _, e := book.Open(twin)
	if e != api.OK {
		t.Fatalf("Open: %d", e)
	}
	at := 0
	for _, x := range l {
		x, e := b.Append(x.Kind, x.Data)
		if e != api.OK {
			t.Fatalf("Append: %d", e)
		}
		at = x.At + book.Cost(len(x.Data))
	}
	begin := at + b.Left() - (disk.Size()-2)/2
	for i := begin; i < at; i++ {
		s, _ := twin.Read(i, 1)
		if e := disk.Write(i, s); e != api.OK {
			t.Fatalf("Write: %d", e)
		}
	}
}

// What is read has the requested name, even if the record is valid and is of another object (P13.2).
func TestGetOfDifferentObjects(t *testing.T) {
	a := object(1, strings.Repeat("a", 70))
	for i, c := range []struct {
		x    book.Record
		want api.Errno
	}{
		{record(a), api.OK},
		{record(chunk("other")), api.ErrSum},
		{record(chunk(strings.Repeat("b", 70))), api.ErrSum},
		{record(object(2, a.Text)), api.ErrSum},
		{record(object(3, a.Text)), api.ErrSum},
		{record(object(4, a.Text)), api.ErrSum},
		{record(object(0, a.Text)), api.ErrSum},
		{book.Record{Kind: 1}, api.ErrSum},
		{book.Record{Kind: 1, Data: "\x01"}, api.ErrSum},
		{book.Record{Kind: 2, Data: "\x01" + a.Text}, api.ErrSum},
		{book.Record{Kind: 200, Data: "\x01" + a.Text}, api.ErrSum},
		{book.Record{Kind: 1, Data: "\x01" + a.Text + "\x00"}, api.ErrSum},
		{book.Record{Kind: 1, Data: a.Text}, api.ErrSum},
	} {
		d, disk := stocked(t, 20, a)
		replaced(t, disk, c.x)
		if x, e := d.Book.Get(11); x.Data != c.x.Data || e != api.OK {
			t.Fatalf("%d: the record was not replaced: %+v, %d", i, x, e)
		}
		if c.want == api.OK {
			stores(t, d, a)
			continue
		}
		fails(t, d, a.ID, c.want)
		if !slices.Equal(d.Spoilt(), names(a)) {
			t.Errorf("%d: spoilt %x", i, d.Spoilt())
		}
		if l, e := d.Pack(names(a)); len(l) != 0 || e != api.OK || len(d.List()) != 0 {
			t.Errorf("%d: Pack: %+v, %d", i, l, e)
		}
	}
}

// Two objects that have changed their places are both different ones.
func TestGetOfExchangedObjects(t *testing.T) {
	a, b := chunk("a"), chunk("b")
	d, disk := stocked(t, 20, a, b)
	replaced(t, disk, record(b))
	fails(t, d, a.ID, api.ErrSum)
	gets(t, d, b)
	replaced(t, disk, record(b), record(a))
	fails(t, d, a.ID, api.ErrSum)
	fails(t, d, b.ID, api.ErrSum)
}

func TestLoadKnowsObjectsOnly(t *testing.T) {
	a, b := chunk("a"), object(3, "")
	disk := sector.New(80)
	old, _, _ := book.Open(disk)
	for _, x := range []book.Record{
		{Kind: 2, Data: "\x01x"}, record(a), {Kind: 1}, {Kind: 1, Data: "\x00x"}, {Kind: 1, Data: "\x04x"}, {Kind: 1, Data: "\xffx"}, {Kind: 200, Data: "\x01y"}, record(b), {Kind: 3},
	} {
		if _, e := old.Append(x.Kind, x.Data); e != api.OK {
			t.Fatalf("Append: %d", e)
		}
	}
	sync(t, Load(old, nil))
	d, l := load(t, disk)
	if len(l) != 9 {
		t.Fatalf("%d records", len(l))
	}
	stores(t, d, a, b)
	if d.Has(named(1, "x")) || d.Has(named(4, "x")) || d.Has(named(1, "y")) {
		t.Error("a record that is no object is stored")
	}
}

// If an object occurs repeatedly, the last record counts.
func TestLoadTakesTheLastRecord(t *testing.T) {
	a, b := chunk("a"), chunk("b")
	for _, rewritten := range []bool{false, true} {
		disk := sector.New(40)
		old, _, _ := book.Open(disk)
		l, e := old.Rewrite(record(a), record(b), record(a))
		if e != api.OK {
			t.Fatalf("Rewrite: %d", e)
		}
		d := Load(old, l)
		if !rewritten {
			d, l = load(t, disk)
		}
		stores(t, d, a, b)
		disk.Spoil(l[0].At, 36, 1)
		stores(t, d, a, b)
		disk.Spoil(l[2].At, 36, 1)
		fails(t, d, a.ID, api.ErrSum)
		gets(t, d, b)
		disk.Spoil(l[0].At, 36, 1)
		fails(t, d, a.ID, api.ErrSum)
		disk.Spoil(l[2].At, 36, 1)
		stores(t, d, a, b)
		if l, e := d.Pack(d.List()); len(l) != 2 || e != api.OK {
			t.Errorf("Pack: %+v, %d", l, e)
		}
		stores(t, d, a, b)
	}
}

func TestSpoilt(t *testing.T) {
	var l []merkle.Object
	for i := range 20 {
		l = append(l, object(1+i%3, "object "+strconv.Itoa(i)))
	}
	d, disk := stocked(t, 60, l...)
	var bad []merkle.Object
	for i := 19; i >= 0; i -= 3 {
		disk.Spoil(31+i, 37, 32)
		bad = append(bad, l[i])
		if got := d.Spoilt(); !slices.Equal(got, rising(bad...)) {
			t.Errorf("spoilt: %x", got)
		}
	}
	if !d.Has(names(l...)...) || len(d.List()) != 20 {
		t.Error("what is spoilt is stored nevertheless")
	}
	// What cannot be read is not returned by Get, either.
	disk.Arm(0)
	if got := d.Spoilt(); !slices.Equal(got, rising(l...)) {
		t.Errorf("without a disk: %x", got)
	}
}

func TestPack(t *testing.T) {
	a, b, c, x := chunk("a"), object(2, strings.Repeat("b", 100)), object(3, "c"), chunk("x")
	m, n := book.Record{Kind: 2, Data: "more", At: 77}, book.Record{Kind: 200}
	for i, q := range []struct {
		keep []merkle.Object
		more []book.Record
		want []merkle.Object
	}{
		{nil, nil, nil},
		{nil, []book.Record{m}, nil},
		{[]merkle.Object{a, b, c}, nil, []merkle.Object{a, b, c}},
		{[]merkle.Object{c, a, b}, nil, []merkle.Object{c, a, b}},
		{[]merkle.Object{b}, []book.Record{n, m}, []merkle.Object{b}},
		{[]merkle.Object{b, x, a}, []book.Record{m, n, m}, []merkle.Object{b, a}},
		{[]merkle.Object{x}, nil, nil},
		{[]merkle.Object{c, a, c, c, a}, []book.Record{m}, []merkle.Object{c, a}},
	} {
		d, disk := stocked(t, 40, a, b, c)
		keep, more := names(q.keep...), slices.Clone(q.more)
		var want []book.Record
		for _, o := range q.want {
			want = append(want, record(o))
		}
		want = append(want, q.more...)
		l, e := d.Pack(keep, more...)
		if !slices.Equal(l, placed(2, want...)) || e != api.OK || d.Turn() != 2 || len(disk.Loose()) != 0 {
			t.Errorf("%d: %+v, %d", i, l, e)
		}
		if !slices.Equal(keep, names(q.keep...)) || !slices.Equal(more, q.more) {
			t.Errorf("%d: the arguments were changed", i)
		}
		stores(t, d, q.want...)
		for _, x := range l {
			if y, e := d.Book.Get(x.At); x != y || e != api.OK {
				t.Errorf("%d: the book has %+v, %d", i, y, e)
			}
		}
		put(t, d, x, a)
		sync(t, d)
		d, l = load(t, disk)
		want = append(want, record(x))
		if !slices.Contains(q.want, a) {
			want = append(want, record(a))
		}
		if !slices.Equal(l, placed(21, want...)) {
			t.Errorf("%d: then %+v", i, l)
		}
	}
}

func TestPackLeavesOutWhatIsSpoilt(t *testing.T) {
	a, b, c := chunk("a"), chunk("b"), chunk("c")
	d, disk := stocked(t, 40, a, b, c)
	disk.Spoil(22, 0, 128)
	l, e := d.Pack(names(c, b, a), book.Record{Kind: 9})
	if !slices.Equal(l, placed(2, record(c), record(a), book.Record{Kind: 9})) || e != api.OK {
		t.Errorf("%+v, %d", l, e)
	}
	stores(t, d, a, c)
	// Now it is not stored any more, so that it can be put again.
	if d.Has(b.ID) || d.Cost(b) != 1 {
		t.Error("what is spoilt was packed")
	}
	put(t, d, b)
	stores(t, d, a, b, c)
}

// Objects among the other records are stored, too: the records are those of the book.
func TestPackOfMoreObjects(t *testing.T) {
	a, b := chunk("a"), chunk("b")
	d, disk := stocked(t, 40, a)
	l, e := d.Pack(names(a), record(b), record(a), book.Record{Kind: 1})
	if !slices.Equal(l, placed(2, record(a), record(b), record(a), book.Record{Kind: 1})) || e != api.OK {
		t.Errorf("%+v, %d", l, e)
	}
	stores(t, d, a, b)
	disk.Spoil(2, 0, 1)
	stores(t, d, a, b)
}

func TestPackRefuses(t *testing.T) {
	a, b := sized(200), object(3, "b")
	long := strings.Repeat("x", 4097)
	for i, c := range []struct {
		more []book.Record
		want api.Errno
	}{
		{[]book.Record{{Kind: 0}}, api.ErrArg},
		{[]book.Record{{Kind: 2}, {Kind: 201}}, api.ErrArg},
		{[]book.Record{{Kind: 2, Data: long}}, api.ErrArg},
		{[]book.Record{{Kind: 2, Data: long[1:]}}, api.ErrSpace},
		{[]book.Record{{Kind: 2, Data: long[1:]}, {Kind: -1}}, api.ErrArg},
		{[]book.Record{{Kind: 2}, {Kind: 2}, {Kind: 2}, {Kind: 2}, {Kind: 2}}, api.ErrSpace},
	} {
		d, disk := stocked(t, 20, a, b)
		before, left := contents(t, disk), d.Left()
		if l, e := d.Pack(names(a, b), c.more...); l != nil || e != c.want {
			t.Errorf("%d: %+v, %d, not %d", i, l, e, c.want)
		}
		if contents(t, disk) != before || d.Left() != left || d.Turn() != 1 {
			t.Errorf("%d: something has changed", i)
		}
		stores(t, d, a, b)
		// ErrIO of a Get is named first.
		disk.Arm(0)
		if l, e := d.Pack(names(a, b), c.more...); l != nil || e != api.ErrIO {
			t.Errorf("%d: %+v, %d", i, l, e)
		}
		if l, e := d.Pack([]api.ID{{1}}, c.more...); c.want == api.ErrArg && (l != nil || e != api.ErrArg) {
			t.Errorf("%d: no Get: %+v, %d", i, l, e)
		}
		disk.Clear()
		stores(t, d, a, b)
	}
}

// Whenever the disk fails, Pack returns ErrIO and no records, and no object that was to be kept is lost.
func TestPackWithoutADisk(t *testing.T) {
	a, b, c := chunk("a"), object(2, strings.Repeat("b", 300)), chunk("c")
	for n := 0; ; n++ {
		d, disk := stocked(t, 40, a, b, c)
		sync(t, d)
		disk.Arm(n)
		l, e := d.Pack(names(c, b), book.Record{Kind: 9, Data: "m"})
		if e == api.OK {
			if left, _ := disk.Armed(); left != 0 {
				t.Errorf("%d calls were enough, %d left", n, left)
			}
			disk.Clear()
			stores(t, d, b, c)
			break
		}
		if e != api.ErrIO || l != nil {
			t.Fatalf("after %d calls: %+v, %d", n, l, e)
		}
		disk.Crash(rand.New(rand.NewSource(int64(n))).Perm(64)...)
		d, _ = load(t, disk)
		gets(t, d, b, c)
	}
}

// An object that was read from a disk that failed once is not taken for spoilt.
func TestPackStopsAtTheFirstErrIO(t *testing.T) {
	a, b := chunk("a"), chunk("b")
	d, disk := stocked(t, 40, a, b)
	before := contents(t, disk)
	disk.Arm(1)
	if l, e := d.Pack(names(a, b)); l != nil || e != api.ErrIO {
		t.Errorf("%+v, %d", l, e)
	}
	if contents(t, disk) != before || d.Turn() != 1 {
		t.Error("something was packed")
	}
	stores(t, d, a, b)
}

// Records of other kinds do not disturb a depot.
func TestOtherKinds(t *testing.T) {
	a, b := chunk("a"), chunk("b")
	d, disk := stocked(t, 40, a)
	for _, kind := range []int{2, 7, 200} {
		if _, e := d.Append(kind, "\x01b"); e != api.OK {
			t.Fatalf("Append: %d", e)
		}
		stores(t, d, a)
	}
	put(t, d, b)
	stores(t, d, a, b)
	sync(t, d)
	d, l := load(t, disk)
	if len(l) != 5 || d.Left() != 14 {
		t.Errorf("%d records, %d left", len(l), d.Left())
	}
	stores(t, d, a, b)
}

// held is one record of the model, and whether it is spoilt.
type held struct {
	x      book.Record
	spoilt bool
}

// history is a depot, and what the chapter says of it after the same calls.
type history struct {
	t     *testing.T
	r     *rand.Rand
	disk  *sector.Disk
	d     *Depot
	model []held
	pool  []merkle.Object
}

func (h *history) find(o merkle.Object) int {
	return slices.IndexFunc(h.model, func(x held) bool { return x.x.Kind == 1 && x.x.Data == record(o).Data })
}

func (h *history) some() []merkle.Object {
	var l []merkle.Object
	for range h.r.Intn(5) {
		l = append(l, h.pool[h.r.Intn(len(h.pool))])
	}
	return l
}

func (h *history) left() int {
	n := (h.disk.Size() - 2) / 2
	for _, x := range h.model {
		n -= book.Cost(len(x.x.Data))
	}
	return n
}

// positions gives the records of the model those of the turn.
func (h *history) positions() {
	at := 2 + h.d.Turn()%2*((h.disk.Size()-2)/2)
	for i := range h.model {
		h.model[i].x.At = at
		at += book.Cost(len(h.model[i].x.Data))
	}
}

func (h *history) records() []book.Record {
	var l []book.Record
	for _, x := range h.model {
		l = append(l, x.x)
	}
	return l
}

func (h *history) put() {
	l, want := h.some(), api.OK
	if h.r.Intn(4) == 0 {
		l = append(l, merkle.Object{Kind: 1, Text: "no name"})
	}
	cost := 0
	for i, o := range l {
		if h.find(o) < 0 && !slices.Contains(l[:i], o) {
			cost += book.Cost(1 + len(o.Text))
		}
	}
	if got := h.d.Cost(l...); got != cost {
		h.t.Errorf("Cost: %d, not %d", got, cost)
	}
	for _, o := range l {
		if o.ID == (api.ID{}) {
			want = api.ErrSum
			break
		}
		if h.find(o) >= 0 {
			continue
		}
		if book.Cost(1+len(o.Text)) > h.left() {
			want = api.ErrSpace
			break
		}
		h.model = append(h.model, held{x: record(o)})
	}
	if e := h.d.Put(l...); e != want {
		h.t.Errorf("Put: %d, not %d", e, want)
	}
	h.positions()
}

func (h *history) other() {
	kind, text := 2+h.r.Intn(199), strings.Repeat("o", h.r.Intn(60))
	want := api.OK
	if book.Cost(len(text)) > h.left() {
		want = api.ErrSpace
	} else {
		h.model = append(h.model, held{x: book.Record{Kind: kind, Data: text}})
	}
	if _, e := h.d.Append(kind, text); e != want {
		h.t.Errorf("Append: %d, not %d", e, want)
	}
	h.positions()
}

func (h *history) spoil() {
	if len(h.model) == 0 {
		return
	}
	x := &h.model[h.r.Intn(len(h.model))]
	if x.spoilt {
		return
	}
	x.spoilt = true
	h.disk.Spoil(x.x.At+h.r.Intn(book.Cost(len(x.x.Data))), h.r.Intn(64), byte(1+h.r.Intn(255)))
}

func (h *history) pack() {
	keep := h.some()
	var next []held
	for i, o := range keep {
		if at := h.find(o); at >= 0 && !h.model[at].spoilt && !slices.Contains(keep[:i], o) {
			next = append(next, held{x: record(o)})
		}
	}
	more := book.Record{Kind: 2 + h.r.Intn(199), Data: strings.Repeat("m", h.r.Intn(40))}
	next = append(next, held{x: more})
	l, e := h.d.Pack(names(keep...), more)
	before := h.model
	h.model = next
	if h.left() < 0 {
		h.model = before
		if l != nil || e != api.ErrSpace {
			h.t.Errorf("Pack: %+v, %d", l, e)
		}
		return
	}
	h.positions()
	if !slices.Equal(l, h.records()) || e != api.OK {
		h.t.Errorf("Pack: %+v, %d, not %+v", l, e, h.records())
	}
}

// reopen loses what is behind the first spoilt record, as layer 12 says it.
func (h *history) reopen() {
	sync(h.t, h.d)
	if i := slices.IndexFunc(h.model, func(x held) bool { return x.spoilt }); i >= 0 {
		h.model = h.model[:i]
	}
	var l []book.Record
	h.d, l = load(h.t, h.disk)
	h.positions()
	if !slices.Equal(l, h.records()) {
		h.t.Errorf("Open: %+v, not %+v", l, h.records())
	}
}

func (h *history) check() {
	t, d := h.t, h.d
	var there, lacking, spoilt []merkle.Object
	for _, o := range h.pool {
		at := h.find(o)
		switch {
		case at < 0:
			lacking = append(lacking, o)
			fails(t, d, o.ID, api.ErrUnknown)
		case h.model[at].spoilt:
			spoilt = append(spoilt, o)
			fails(t, d, o.ID, api.ErrSum)
		default:
			gets(t, d, o)
		}
		if at >= 0 {
			there = append(there, o)
		}
		if d.Has(o.ID) != (at >= 0) {
			t.Errorf("Has: %t", at < 0)
		}
	}
	if !slices.Equal(d.List(), rising(there...)) || !slices.Equal(d.Spoilt(), rising(spoilt...)) || !slices.Equal(d.Lacks(names(h.pool...)...), names(lacking...)) {
		t.Errorf("List %x, Spoilt %x", d.List(), d.Spoilt())
	}
	if !d.Has(names(there...)...) || d.Has(names(h.pool...)...) != (len(lacking) == 0) || d.Left() != h.left() {
		t.Errorf("%d left, not %d", d.Left(), h.left())
	}
}

func TestHistories(t *testing.T) {
	runs := 300
	if testing.Short() {
		runs = 30
	}
	for seed := range runs {
		r := rand.New(rand.NewSource(int64(seed)))
		h := &history{t: t, r: r, disk: sector.New(4 + r.Intn(60))}
		for i := range 12 {
			h.pool = append(h.pool, object(1+i%3, strings.Repeat(string(rune('a'+i)), 1+r.Intn(200))))
		}
		h.d, _ = load(t, h.disk)
		for range 60 {
			switch r.Intn(8) {
			case 0:
				h.other()
			case 1:
				h.spoil()
			case 2:
				h.pack()
			case 3:
				h.reopen()
			default:
				h.put()
			}
			h.check()
			if t.Failed() {
				t.Fatalf("seed %d", seed)
			}
		}
	}
}

// After any number of altered bytes, what Get returns has the requested name.
func TestNamesAreRight(t *testing.T) {
	r := rand.New(rand.NewSource(1))
	for range 200 {
		var l []merkle.Object
		for i := range 6 {
			l = append(l, object(1+r.Intn(3), strings.Repeat(strconv.Itoa(i), r.Intn(100))))
		}
		d, disk := stocked(t, 60, l...)
		for range r.Intn(6) {
			disk.Spoil(r.Intn(60), r.Intn(64), byte(r.Intn(256)))
		}
		right(t, d, l)
		sync(t, d)
		d, _ = load(t, disk)
		right(t, d, l)
	}
}

// right tells whether each of these objects is returned as it is, or not at all.
func right(t *testing.T, d *Depot, l []merkle.Object) {
	t.Helper()
	for _, o := range l {
		if got, e := d.Get(o.ID); e == api.OK && got != o || e != api.OK && got != (merkle.Object{}) {
			t.Errorf("%+v, %d", got, e)
		}
	}
	for _, id := range d.List() {
		if o, e := d.Get(id); e == api.OK && (o.ID != id || id != named(byte(o.Kind), o.Text)) {
			t.Errorf("%+v under the name %x", o, id)
		}
	}
}

func TestResultsAreApart(t *testing.T) {
	a, b, x := chunk("a"), chunk("b"), chunk("x")
	disk := sector.New(40)
	old, _, _ := book.Open(disk)
	l, _ := old.Rewrite(record(a), record(b))
	d := Load(old, l)
	clear(l)
	stores(t, d, a, b)
	disk.Spoil(2, 0, 1)
	disk.Spoil(3, 0, 1)
	for _, list := range [][]api.ID{d.List(), d.Spoilt(), d.Lacks(x.ID)} {
		clear(list)
	}
	if !slices.Equal(d.List(), rising(a, b)) || !slices.Equal(d.Spoilt(), rising(a, b)) || d.Has(x.ID) {
		t.Error("a result is a part of the depot")
	}
	disk.Spoil(2, 0, 1)
	disk.Spoil(3, 0, 1)
	ask := names(x, x, a, x)
	clear(d.Lacks(ask...))
	if !slices.Equal(ask, names(x, x, a, x)) {
		t.Error("a result of Lacks is a part of its argument")
	}
	more := append(make([]book.Record, 0, 9), book.Record{Kind: 9})
	l, e := d.Pack(ask, more...)
	if e != api.OK || len(l) != 2 {
		t.Fatalf("Pack: %+v, %d", l, e)
	}
	clear(l)
	if !slices.Equal(ask, names(x, x, a, x)) || more[0] != (book.Record{Kind: 9}) {
		t.Error("Pack changes its arguments")
	}
	clear(ask)
	clear(more)
	stores(t, d, a)
	objects := []merkle.Object{x, x}
	put(t, d, objects...)
	clear(objects)
	stores(t, d, a, x)
}

func TestDepotsAreApart(t *testing.T) {
	a, b := chunk("a"), chunk("b")
	c, _ := stocked(t, 40, a)
	d, _ := stocked(t, 40, b)
	stores(t, c, a)
	stores(t, d, b)
}

// The same calls give the same results and the same disk.
func TestTheSameAgain(t *testing.T) {
	run := func() (string, []api.ID, []api.ID) {
		d, disk := stocked(t, 100)
		for i := range 30 {
			put(t, d, object(1+i%3, strconv.Itoa(i)))
		}
		for i := range 5 {
			disk.Spoil(51+6*i, 3, 4)
		}
		spoilt := d.Spoilt()
		if _, e := d.Pack(d.List()[3:], book.Record{Kind: 3}); e != api.OK {
			t.Fatalf("Pack: %d", e)
		}
		return contents(t, disk), d.List(), spoilt
	}
	disk, list, spoilt := run()
	for range 5 {
		again, l, s := run()
		if again != disk || !slices.Equal(l, list) || !slices.Equal(s, spoilt) {
			t.Fatal("another result")
		}
	}
}

// On any disk, no call panics, and what Get returns has the requested name.
func FuzzGet(f *testing.F) {
	f.Add([]byte{}, uint8(4), "")
	f.Add([]byte{11, 0, 1, 12, 40, 255}, uint8(20), "a")
	f.Add([]byte{0, 0, 1, 1, 1, 1, 3, 3, 3}, uint8(60), strings.Repeat("z", 300))
	f.Fuzz(func(t *testing.T, spoils []byte, size uint8, text string) {
		disk := sector.New(4 + int(size))
		b, l, _ := book.Open(disk)
		d := Load(b, l)
		objects := []merkle.Object{chunk(text), object(2, text), object(3, "z"+text)}
		d.Put(objects...)
		for ; len(spoils) >= 3; spoils = spoils[3:] {
			disk.Spoil(int(spoils[0]), int(spoils[1]), spoils[2])
		}
		right(t, d, objects)
		d.Pack(append(d.Spoilt(), d.List()...), book.Record{Kind: 1, Data: text[:min(len(text), 4096)]})
		right(t, d, objects)
		d.Sync()
		if b, l, e := book.Open(disk); e == api.OK {
			right(t, Load(b, l), objects)
		}
	})
}

// A name is an array, which tells objects of different kinds apart even if their bytes are the same.
func TestNamesOfKinds(t *testing.T) {
	for kind := oid.Chunk; kind <= oid.Path; kind++ {
		d, _ := stocked(t, 20, object(kind, "same"))
		for other := oid.Chunk; other <= oid.Path; other++ {
			if d.Has(named(byte(other), "same")) != (other == kind) {
				t.Errorf("kind %d is found as %d", kind, other)
			}
		}
	}
}
