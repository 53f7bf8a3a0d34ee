package book

import (
	"crypto/sha256"
	"encoding/hex"
	"math"
	"math/rand"
	"slices"
	"strconv"
	"strings"
	"testing"

	"caravan/api"
	"caravan/sector"
)

// The signatures that the chapter lists: a book embeds its disk, whose methods are promoted, and Rewrite takes a variable number of records.
var (
	_ func(int) int                                   = Cost
	_ func(*sector.Disk) (*Book, []Record, api.Errno) = Open
	_ func(*Book) int                                 = (*Book).Left
	_ func(*Book) int                                 = (*Book).Turn
	_ func(*Book, int, string) (Record, api.Errno)    = (*Book).Append
	_ func(*Book, int) (Record, api.Errno)            = (*Book).Get
	_ func(*Book, ...Record) ([]Record, api.Errno)    = (*Book).Rewrite
	_ func(*Book) api.Errno                           = (*Book).Sync
	_ func(*Book, int, int) (string, api.Errno)       = (*Book).Read
	_ func(*Book, ...int)                             = (*Book).Crash
	_ func(*Book, int)                                = (*Book).Arm
	_ *sector.Disk                                    = Book{}.Disk
	_                                                 = Record{Kind: 0, Data: "", At: 0}
	_                                                 = [1]int{}[MaxData-4096]
	_                                                 = [1]int{}[MaxKind-200]
)

// num encodes a number as layer 4 says it.
func num(n uint64) string {
	digits := ""
	for ; n > 0; n >>= 8 {
		digits = string([]byte{byte(n)}) + digits
	}
	return string([]byte{byte(len(digits))}) + digits
}

func sum(s string) string {
	b := sha256.Sum256([]byte(s))
	return string(b[:])
}

// zeros is that many sectors of zeros.
func zeros(sectors int) string {
	return strings.Repeat("\x00", 64*sectors)
}

// whole adds zeros up to whole sectors.
func whole(s string) string {
	for len(s)%64 != 0 {
		s += "\x00"
	}
	return s
}

// headAs is the head of a turn as the chapter says it.
func headAs(turn uint64) string {
	return whole(sum("head"+num(turn)) + num(turn))
}

// recordsAs is the records of a turn as the chapter says it.
func recordsAs(turn uint64, l ...Record) string {
	s, before := "", sum("turn"+num(turn))
	for _, x := range l {
		body := num(uint64(x.Kind)) + num(uint64(len(x.Data))) + x.Data
		before = sum(before + body)
		s += whole(before + body)
	}
	return s
}

// halfAs is a half of that many sectors with the records of a turn.
func halfAs(sectors int, turn uint64, l ...Record) string {
	s := recordsAs(turn, l...)
	return s + zeros(sectors)[len(s):]
}

// contents reads a whole disk, whatever its fuse says.
func contents(t *testing.T, d *sector.Disk) string {
	t.Helper()
	left, armed := d.Armed()
	d.Clear()
	s, e := d.Read(0, d.Size())
	if e != api.OK {
		t.Fatalf("Read: %d", e)
	}
	if armed {
		d.Arm(left)
	}
	return s
}

// put writes bytes to a disk, so that they are durable.
func put(t *testing.T, d *sector.Disk, at int, s string) {
	t.Helper()
	for i := 0; i < len(s); i += 64 {
		if e := d.Write(at+i/64, s[i:min(i+64, len(s))]); e != api.OK {
			t.Fatalf("Write: %d", e)
		}
	}
	if e := d.Sync(); e != api.OK {
		t.Fatalf("Sync: %d", e)
	}
}

// open is Open where nothing stands in the way.
func open(t *testing.T, d *sector.Disk) (*Book, []Record) {
	t.Helper()
	b, l, e := Open(d)
	if e != api.OK || b == nil {
		t.Fatalf("Open: %d", e)
	}
	return b, l
}

// add is Append where nothing stands in the way.
func add(t *testing.T, b *Book, kind int, data string) Record {
	t.Helper()
	x, e := b.Append(kind, data)
	if e != api.OK || x.Kind != kind || x.Data != data {
		t.Fatalf("Append(%d, %d bytes): %d, %d bytes, %d", kind, len(data), x.Kind, len(x.Data), e)
	}
	return x
}

func sync(t *testing.T, b *Book) {
	t.Helper()
	if e := b.Sync(); e != api.OK {
		t.Fatalf("Sync: %d", e)
	}
}

// rewrite is Rewrite where nothing stands in the way.
func rewrite(t *testing.T, b *Book, l ...Record) []Record {
	t.Helper()
	moved, e := b.Rewrite(l...)
	if e != api.OK {
		t.Fatalf("Rewrite: %d", e)
	}
	return moved
}

// fails tells whether Get returns an error and no record.
func fails(t *testing.T, b *Book, at int, want api.Errno) {
	t.Helper()
	if x, e := b.Get(at); e != want || x != (Record{}) {
		t.Errorf("Get(%d): %+v, %d, not %d", at, x, e, want)
	}
}

// has tells whether a book has exactly these records, at any sector.
func has(t *testing.T, b *Book, l ...Record) {
	t.Helper()
	for at := -2; at < b.Size()+2; at++ {
		i := slices.IndexFunc(l, func(x Record) bool { return x.At == at })
		if i < 0 {
			fails(t, b, at, api.ErrUnknown)
		} else if x, e := b.Get(at); x != l[i] || e != api.OK {
			t.Errorf("Get(%d): %+v, %d", at, x, e)
		}
	}
}

// data returns the data of records.
func data(l []Record) []string {
	var list []string
	for _, x := range l {
		list = append(list, x.Data)
	}
	return list
}

func TestExample(t *testing.T) {
	d := sector.New(8)
	b, _ := open(t, d)
	add(t, b, 1, "a")
	sync(t, b)
	add(t, b, 1, "b")
	d.Crash()
	if _, l := open(t, d); !slices.Equal(data(l), []string{"a"}) || l[0].Kind != 1 {
		t.Errorf("%+v", l)
	}
}

func TestCost(t *testing.T) {
	for _, c := range []struct{ data, want int }{
		{math.MinInt, 1}, {-1, 1}, {0, 1}, {1, 1}, {28, 1}, {29, 2}, {92, 2}, {93, 3}, {155, 3}, {156, 3}, {157, 4}, {220, 4}, {221, 5},
		{255, 5}, {256, 5}, {283, 5}, {284, 6}, {4095, 65}, {4096, 65}, {4097, 65}, {65535, 1025}, {65536, 1025},
		{math.MaxInt - 1, 1<<57 + 1}, {math.MaxInt, 1<<57 + 1}, {math.MaxInt - 41, 1<<57 + 1}, {math.MaxInt - 42, 1 << 57}, {math.MaxInt - 105, 1 << 57}, {math.MaxInt - 106, 1<<57 - 1},
	} {
		if got := Cost(c.data); got != c.want {
			t.Errorf("Cost(%d) = %d, not %d", c.data, got, c.want)
		}
	}
	for n := range 5000 {
		if got, want := Cost(n), len(recordsAs(1, Record{Kind: 1, Data: strings.Repeat("x", n)}))/64; got != want {
			t.Errorf("Cost(%d) = %d, not %d", n, got, want)
		}
	}
}

func TestOpenRefusesSmallDisks(t *testing.T) {
	for n := range 4 {
		d := sector.New(n)
		for range 2 {
			if b, l, e := Open(d); b != nil || l != nil || e != api.ErrArg {
				t.Errorf("%d sectors: %v, %v, %d", n, b, l, e)
			}
			// ErrArg is named ahead of ErrIO.
			d.Arm(0)
		}
	}
}

func TestOpenAnEmptyDisk(t *testing.T) {
	for _, n := range []int{4, 5, 6, 7, 8, 22, 23, 1000, 65535, 65536} {
		d := sector.New(n)
		b, l := open(t, d)
		if len(l) != 0 || b.Turn() != 1 || b.Left() != (n-2)/2 || b.Disk != d || b.Size() != n {
			t.Errorf("%d sectors: %v, turn %d, %d left", n, l, b.Turn(), b.Left())
		}
		if contents(t, d) != zeros(1)+headAs(1)+zeros(n-2) || len(d.Loose()) != 0 {
			t.Errorf("%d sectors: other contents, or loose %v", n, d.Loose())
		}
	}
}

// The digests in this case were computed by another program.
func TestKnownDisk(t *testing.T) {
	d := sector.New(10)
	b, _ := open(t, d)
	add(t, b, 1, "a")
	add(t, b, 200, strings.Repeat("b", 40))
	s := contents(t, d)
	for _, c := range []struct {
		at   int
		want string
	}{
		{64, "c1a3956f4465d7c217ea1b0ea1b31c09765b6f575e97898941e64c54ce73ae700101000000000000"},
		{6 * 64, "f2da4e9e8454947872e295350f9130b1538eaf3813113a4d985f513a23f248a90101010161000000"},
		{7 * 64, "8407dd01c9c2ef3f60104eed8426ab864a2284c615756643e317ab8421e1ad7c01c8012862626262"},
	} {
		if got := hex.EncodeToString([]byte(s[c.at : c.at+40])); got != c.want {
			t.Errorf("from byte %d on: %s", c.at, got)
		}
	}
}

// Turn by turn, the disk has the contents that the chapter says; what is not used stays as it was.
func TestLayout(t *testing.T) {
	for _, n := range []int{40, 41} {
		d := sector.New(n)
		trash := strings.Repeat("trash by others;", 4*n)
		put(t, d, 0, trash)
		b, l := open(t, d)
		if len(l) != 0 || b.Turn() != 1 {
			t.Fatalf("trash became %v, turn %d", l, b.Turn())
		}
		first, odd := trash[2*64:21*64], trash[40*64:n*64]
		if contents(t, d) != trash[:64]+headAs(1)+first+zeros(19)+odd {
			t.Error("turn 1, empty: other contents")
		}
		x, y := add(t, b, 1, "one"), add(t, b, 200, strings.Repeat("\xff", 300))
		z := add(t, b, 7, "")
		if x.At != 21 || y.At != 22 || z.At != 28 || b.Left() != 11 {
			t.Errorf("%d, %d, %d, %d left", x.At, y.At, z.At, b.Left())
		}
		if contents(t, d) != trash[:64]+headAs(1)+first+halfAs(19, 1, x, y, z)+odd {
			t.Error("turn 1: other contents")
		}
		l = rewrite(t, b, z, y)
		if !slices.Equal(l, []Record{{7, "", 2}, {200, y.Data, 3}}) || b.Turn() != 2 || b.Left() != 12 {
			t.Errorf("Rewrite: %v, turn %d, %d left", l, b.Turn(), b.Left())
		}
		w := add(t, b, 3, "w")
		if contents(t, d) != headAs(2)+headAs(1)+halfAs(19, 2, z, y, w)+halfAs(19, 1, x, y, z)+odd {
			t.Error("turn 2: other contents")
		}
		b, l = open(t, d)
		if !slices.Equal(l, []Record{{7, "", 21}, {200, y.Data, 22}, {3, "w", 28}}) || b.Turn() != 3 || b.Left() != 11 {
			t.Errorf("Open: %v, turn %d, %d left", l, b.Turn(), b.Left())
		}
		if contents(t, d) != headAs(2)+headAs(3)+halfAs(19, 2, z, y, w)+halfAs(19, 3, z, y, w)+odd {
			t.Error("turn 3: other contents")
		}
	}
}

func TestAppend(t *testing.T) {
	d := sector.New(30)
	b, _ := open(t, d)
	at := 16
	for i, n := range []int{0, 28, 29, 100, 1, 92, 93} {
		before := d.Loose()
		x := add(t, b, 1+i, strings.Repeat("x", n))
		if x.At != at || b.Turn() != 1 {
			t.Errorf("%d bytes: at %d, not %d", n, x.At, at)
		}
		for range Cost(n) {
			before = append(before, at)
			at++
		}
		if !slices.Equal(d.Loose(), before) || b.Left() != 30-at {
			t.Errorf("%d bytes: loose %v, %d left", n, d.Loose(), b.Left())
		}
	}
	sync(t, b)
	if len(d.Loose()) != 0 {
		t.Errorf("loose after Sync: %v", d.Loose())
	}
}

func TestAppendRefuses(t *testing.T) {
	d := sector.New(10)
	b, _ := open(t, d)
	x := add(t, b, 5, "kept")
	long, big := strings.Repeat("x", 4097), strings.Repeat("x", 200)
	for _, c := range []struct {
		kind int
		data string
		want api.Errno
	}{
		{0, "", api.ErrArg}, {-1, "a", api.ErrArg}, {201, "", api.ErrArg}, {256, "", api.ErrArg}, {257, "", api.ErrArg}, {math.MaxInt, "", api.ErrArg}, {math.MinInt, "", api.ErrArg},
		{1, long, api.ErrBig}, {200, long + long, api.ErrBig}, {1, long[1:], api.ErrSpace}, {1, big, api.ErrSpace}, {200, big[:157], api.ErrSpace},
		// The error that the chapter names first counts.
		{0, long, api.ErrArg}, {201, big, api.ErrArg},
	} {
		for _, left := range []int{0, 5} {
			before := contents(t, d)
			d.Arm(left)
			if got, e := b.Append(c.kind, c.data); got != (Record{}) || e != c.want {
				t.Errorf("Append(%d, %d bytes): %+v, %d, not %d", c.kind, len(c.data), got, e, c.want)
			}
			if n, _ := d.Armed(); n != left {
				t.Errorf("Append(%d, %d bytes) called the disk", c.kind, len(c.data))
			}
			d.Clear()
			if contents(t, d) != before || b.Left() != 3 || b.Turn() != 1 {
				t.Errorf("Append(%d, %d bytes) changed something", c.kind, len(c.data))
			}
		}
	}
	has(t, b, x)
	// What just fits is taken, and then nothing more.
	y := add(t, b, 200, big[:156])
	if b.Left() != 0 {
		t.Errorf("%d left", b.Left())
	}
	if _, e := b.Append(1, ""); e != api.ErrSpace {
		t.Errorf("Append to a full half: %d", e)
	}
	has(t, b, x, y)
	if contents(t, d) != zeros(1)+headAs(1)+zeros(4)+halfAs(4, 1, x, y) {
		t.Error("other contents")
	}
	d.Arm(0)
	if b, l, e := Open(d); b != nil || l != nil || e != api.ErrIO {
		t.Errorf("Open: %v, %v, %d", b, l, e)
	}
	d.Clear()
	if _, l := open(t, d); !slices.Equal(l, []Record{{5, "kept", 2}, {200, big[:156], 3}}) {
		t.Errorf("Open of a full half: %v", l)
	}
}

func TestEveryKindAndManyLengths(t *testing.T) {
	r := rand.New(rand.NewSource(1))
	d := sector.New(60000)
	b, _ := open(t, d)
	var want []Record
	for i := range 700 {
		n := []int{i, 4096 - i%20, r.Intn(4097)}[i%3]
		s := make([]byte, n)
		r.Read(s)
		want = append(want, add(t, b, 1+i%200, string(s)))
	}
	for range 2 {
		for _, x := range want {
			if got, e := b.Get(x.At); got != x || e != api.OK {
				t.Fatalf("Get(%d): kind %d, %d bytes, %d", x.At, got.Kind, len(got.Data), e)
			}
		}
		var l []Record
		b, l = open(t, d)
		at := 2 + (b.Turn()%2)*29999
		for i := range want {
			want[i].At = at
			at += Cost(len(want[i].Data))
		}
		if !slices.Equal(l, want) || b.Left() != 2+(b.Turn()%2)*29999+29999-at {
			t.Fatalf("Open: %d records, %d left", len(l), b.Left())
		}
	}
}

func TestAppendWithoutADisk(t *testing.T) {
	d := sector.New(12)
	b, _ := open(t, d)
	add(t, b, 1, "a")
	before := contents(t, d)
	d.Arm(0)
	if x, e := b.Append(1, "b"); x != (Record{}) || e != api.ErrIO {
		t.Errorf("Append: %+v, %d", x, e)
	}
	d.Clear()
	if contents(t, d) != before {
		t.Error("an Append that failed changed the disk")
	}
	if _, l := open(t, d); !slices.Equal(data(l), []string{"a"}) {
		t.Errorf("Open: %v", l)
	}
}

func TestGetKnowsOnlyRecordsOfThisTurn(t *testing.T) {
	d := sector.New(20)
	b, _ := open(t, d)
	has(t, b)
	x, y := add(t, b, 1, strings.Repeat("long", 25)), add(t, b, 2, "b")
	has(t, b, x, y)
	l := rewrite(t, b, y, x)
	has(t, b, l...)
	z := add(t, b, 3, "c")
	has(t, b, append(l, z)...)
	rewrite(t, b)
	has(t, b)
	for _, at := range []int{math.MinInt, math.MaxInt, -1} {
		fails(t, b, at, api.ErrUnknown)
	}
	// ErrUnknown comes first, and does not call the disk.
	d.Arm(0)
	fails(t, b, 2, api.ErrUnknown)
	d.Clear()
	w := add(t, b, 4, "d")
	d.Arm(0)
	fails(t, b, w.At, api.ErrIO)
	d.Clear()
	has(t, b, w)
}

// What is on the disk counts, loose or not, and each byte of a record does.
func TestGetOfSpoiltRecords(t *testing.T) {
	d := sector.New(30)
	b, _ := open(t, d)
	l := []Record{add(t, b, 1, "first"), add(t, b, 2, strings.Repeat("s", 150)), add(t, b, 3, ""), add(t, b, 4, strings.Repeat("f", 28)), add(t, b, 5, "last\x00\x00")}
	for range 2 {
		for i, x := range l {
			for by := range 64 * Cost(len(x.Data)) {
				for _, with := range []byte{1, 0x80, 0xff} {
					d.Spoil(x.At+by/64, by%64, with)
					fails(t, b, x.At, api.ErrSum)
					if other := l[(i+1)%5]; by%16 == 0 {
						if got, e := b.Get(other.At); got != other || e != api.OK {
							t.Errorf("%d: the record after a spoilt one is %+v, %d", i, got, e)
						}
					}
					d.Spoil(x.At+by/64, by%64, with)
				}
			}
			if got, e := b.Get(x.At); got != x || e != api.OK {
				t.Errorf("%d, as before: %+v, %d", i, got, e)
			}
		}
		sync(t, b)
	}
	// Records are added after a spoilt one as if it were not.
	d.Spoil(l[4].At, 40, 1)
	x := add(t, b, 6, "more")
	if got, e := b.Get(x.At); got != x || e != api.OK {
		t.Errorf("%+v, %d", got, e)
	}
	// But a book that is opened anew ends ahead of it.
	if _, l := open(t, d); len(l) != 4 || l[3].Kind != 4 {
		t.Errorf("Open: %v", l)
	}
}

func TestGetOfLostRecords(t *testing.T) {
	d := sector.New(12)
	b, _ := open(t, d)
	x := add(t, b, 1, "a")
	sync(t, b)
	y, z := add(t, b, 2, "b"), add(t, b, 3, "c")
	d.Crash(20, 64)
	fails(t, b, y.At, api.ErrSum)
	for _, x := range []Record{x, z} {
		if got, e := b.Get(x.At); got != x || e != api.OK {
			t.Errorf("Get(%d): %+v, %d", x.At, got, e)
		}
	}
	// c is there, but b is not: both are lost, now and later.
	for range 4 {
		if b, l := open(t, d); !slices.Equal(data(l), []string{"a"}) || b.Left() != 4 {
			t.Errorf("Open: %v, %d left", l, b.Left())
		}
	}
}

func TestRewrite(t *testing.T) {
	d := sector.New(22)
	b, _ := open(t, d)
	l := []Record{{9, "nine", -5}, {200, strings.Repeat("y", 300), 12}, {9, "nine", math.MaxInt}, {1, "", 0}}
	before := slices.Clone(l)
	moved := rewrite(t, b, l...)
	if !slices.Equal(moved, []Record{{9, "nine", 2}, {200, l[1].Data, 3}, {9, "nine", 9}, {1, "", 10}}) || b.Turn() != 2 || b.Left() != 1 {
		t.Errorf("%v, turn %d, %d left", moved, b.Turn(), b.Left())
	}
	if !slices.Equal(l, before) {
		t.Error("Rewrite changed its argument")
	}
	has(t, b, moved...)
	if len(d.Loose()) != 0 {
		t.Errorf("loose: %v", d.Loose())
	}
	clear(moved)
	if again := rewrite(t, b); len(again) != 0 || b.Turn() != 3 || b.Left() != 10 {
		t.Errorf("no records: %v, turn %d, %d left", again, b.Turn(), b.Left())
	}
	// As many sectors as a half has, and one more.
	full := slices.Repeat([]Record{{Kind: 3}}, 10)
	if moved = rewrite(t, b, full...); len(moved) != 10 || moved[9].At != 11 || b.Left() != 0 {
		t.Errorf("a full half: %v, %d left", moved, b.Left())
	}
	if _, l := open(t, d); len(l) != 10 {
		t.Errorf("Open: %v", l)
	}
}

func TestRewriteRefuses(t *testing.T) {
	d := sector.New(12)
	b, _ := open(t, d)
	x := add(t, b, 5, "kept")
	sync(t, b)
	y := add(t, b, 6, "loose")
	long := strings.Repeat("x", 4097)
	for i, c := range []struct {
		l    []Record
		want api.Errno
	}{
		{[]Record{{}}, api.ErrArg}, {[]Record{{Kind: 0, Data: "a"}}, api.ErrArg}, {[]Record{{Kind: -1}}, api.ErrArg}, {[]Record{{Kind: 201}}, api.ErrArg}, {[]Record{{Kind: math.MaxInt}}, api.ErrArg}, {[]Record{{Kind: 257}}, api.ErrArg},
		{[]Record{{Kind: 1, Data: long}}, api.ErrArg}, {[]Record{x, y, {Kind: 201}}, api.ErrArg}, {[]Record{{Kind: 201}, x}, api.ErrArg}, {[]Record{x, {Kind: 1, Data: long}, y}, api.ErrArg},
		{[]Record{{Kind: 1, Data: long[1:]}}, api.ErrSpace}, {[]Record{x, y, x, y, x, y}, api.ErrSpace}, {[]Record{x, {Kind: 1, Data: long[:221]}}, api.ErrSpace}, {slices.Repeat([]Record{x}, 5000), api.ErrSpace},
		// ErrArg is named first, wherever its cause is.
		{[]Record{x, y, x, y, x, y, {}}, api.ErrArg}, {[]Record{{Kind: 1, Data: long[1:]}, {Kind: 1, Data: long}}, api.ErrArg},
	} {
		before, loose := contents(t, d), d.Loose()
		d.Arm(0)
		if l, e := b.Rewrite(c.l...); l != nil || e != c.want {
			t.Errorf("case %d: %v, %d, not %d", i, l, e, c.want)
		}
		d.Clear()
		if contents(t, d) != before || !slices.Equal(d.Loose(), loose) || b.Turn() != 1 || b.Left() != 3 {
			t.Errorf("case %d: something changed", i)
		}
	}
	has(t, b, x, y)
	z := add(t, b, 7, "more")
	has(t, b, x, y, z)
}

// What Rewrite writes and syncs, and in which order.
func TestRewriteStepByStep(t *testing.T) {
	for calls := range 5 {
		d := sector.New(11)
		b, _ := open(t, d)
		x := add(t, b, 1, "x")
		sync(t, b)
		y := Record{Kind: 2, Data: "y"}
		d.Arm(calls)
		l, e := b.Rewrite(y)
		if calls == 4 {
			if e != api.OK || !slices.Equal(l, []Record{{2, "y", 2}}) {
				t.Errorf("four calls: %v, %d", l, e)
			}
		} else if l != nil || e != api.ErrIO {
			t.Errorf("%d calls: %v, %d", calls, l, e)
		}
		head, half := zeros(1), zeros(4)
		if calls >= 1 {
			half = halfAs(4, 2, y)
		}
		if calls >= 3 {
			head = headAs(2)
		}
		if contents(t, d) != head+headAs(1)+half+halfAs(4, 1, x)+zeros(1) {
			t.Errorf("%d calls: other contents", calls)
		}
		if want := [][]int{{}, {2, 3, 4, 5}, {}, {0}, {}}[calls]; !slices.Equal(d.Loose(), want) {
			t.Errorf("%d calls: loose %v", calls, d.Loose())
		}
	}
}

// Heads that are valid, and some that are not: what counts is the greater number.
func TestHeads(t *testing.T) {
	spoilt := func(s string, at int) string { return s[:at] + string([]byte{s[at] ^ 1}) + s[at+1:] }
	zeroAhead := func(digits string) string { return whole(sum("head"+digits) + digits) }
	one, two := Record{Kind: 1, Data: "one"}, Record{Kind: 2, Data: "two"}
	for _, c := range []struct {
		what         string
		first, other string // the sectors 0 and 1
		even, odd    uint64 // the turns whose records the halves have
		want         []string
		turn         int
	}{
		{"both", headAs(2), headAs(1), 2, 1, []string{"two"}, 3},
		{"both, the odd one later", headAs(2), headAs(3), 2, 3, []string{"one"}, 4},
		{"both, one of them much later", headAs(70000), headAs(3), 70000, 3, []string{"two"}, 70001},
		{"numbers of different lengths", headAs(256), headAs(255), 256, 255, []string{"two"}, 257},
		{"a later odd one", headAs(254), headAs(257), 254, 257, []string{"one"}, 258},
		{"the odd one only", zeros(1), headAs(1), 2, 1, []string{"one"}, 2},
		{"the even one only", headAs(2), zeros(1), 2, 1, []string{"two"}, 3},
		{"none", zeros(1), zeros(1), 2, 1, nil, 1},
		{"a head of turn 0", headAs(0), zeros(1), 2, 1, nil, 1},
		{"records of another turn", headAs(4), headAs(3), 2, 1, nil, 5},
		{"a spoilt digest", spoilt(headAs(2), 0), headAs(1), 2, 1, []string{"one"}, 2},
		{"a digest that is spoilt at its end", spoilt(headAs(2), 31), headAs(1), 2, 1, []string{"one"}, 2},
		{"a spoilt number", spoilt(headAs(2), 33), headAs(1), 2, 1, []string{"one"}, 2},
		{"a spoilt length", spoilt(headAs(2), 32), headAs(1), 2, 1, []string{"one"}, 2},
		{"more after the number", spoilt(headAs(2), 34), headAs(1), 2, 1, []string{"one"}, 2},
		{"more at the end", spoilt(headAs(2), 63), headAs(1), 2, 1, []string{"one"}, 2},
		{"a number with a zero ahead", zeroAhead("\x02\x00\x02"), headAs(1), 2, 1, []string{"one"}, 2},
		{"a number of nine bytes", zeroAhead("\x09\x01\x01\x01\x01\x01\x01\x01\x01\x02"), headAs(1), 2, 1, []string{"one"}, 2},
		{"another word", whole(sum("turn"+num(2)) + num(2)), headAs(1), 2, 1, []string{"one"}, 2},
		{"heads in each other's sectors", headAs(1), headAs(2), 2, 1, nil, 1},
		{"an odd one in the even one's sector", headAs(3), headAs(1), 2, 1, []string{"one"}, 2},
		{"both spoilt", spoilt(headAs(2), 5), spoilt(headAs(1), 20), 2, 1, nil, 1},
	} {
		d := sector.New(10)
		put(t, d, 0, c.first+c.other+halfAs(4, c.even, two)+halfAs(4, c.odd, one))
		b, l := open(t, d)
		if !slices.Equal(data(l), c.want) || b.Turn() != c.turn {
			t.Errorf("%s: %v, turn %d", c.what, l, b.Turn())
		}
		if again, l := open(t, d); !slices.Equal(data(l), c.want) || again.Turn() != c.turn+1 {
			t.Errorf("%s, again: %v, turn %d", c.what, l, again.Turn())
		}
	}
}

// No number of a turn makes a call panic.
func TestGreatTurns(t *testing.T) {
	for _, turn := range []uint64{1<<31 - 1, 1 << 32, 1<<63 - 2, 1<<63 - 1, 1 << 63, 1<<64 - 2, 1<<64 - 1} {
		d := sector.New(10)
		at := int(turn % 2)
		put(t, d, at, headAs(turn))
		put(t, d, 2+4*at, halfAs(4, turn, Record{Kind: 1, Data: "far"}))
		b, l := open(t, d)
		if !slices.Equal(data(l), []string{"far"}) || turn < 1<<62 && b.Turn() != int(turn)+1 {
			t.Errorf("turn %d: %v, %d", turn, l, b.Turn())
		}
		rewrite(t, b, l...)
		add(t, b, 1, "x")
		open(t, d)
	}
}

// Records that end the records of a turn, because they are not valid.
func TestRecordsThatAreNotValid(t *testing.T) {
	a := Record{Kind: 1, Data: "a"}
	good := recordsAs(2, a)
	after := func(body string) string { return good + whole(sum(good[:32]+body)+body) }
	most := strings.Repeat("z", 4096)
	for _, c := range []struct {
		what, text string
		want       []string
	}{
		{"a valid one", after("\x01\x01\x01\x01b"), []string{"a", "b"}},
		{"the greatest kind", after("\x01\xc8\x00"), []string{"a", ""}},
		{"kind 0", after("\x00\x01\x01b"), []string{"a"}},
		{"kind 201", after("\x01\xc9\x01\x01b"), []string{"a"}},
		{"a kind with a zero ahead", after("\x02\x00\x01\x01\x01b"), []string{"a"}},
		{"a length with a zero ahead", after("\x01\x01\x02\x00\x01b"), []string{"a"}},
		{"as much data as may be", after("\x01\x01\x02\x10\x00" + most), []string{"a", most}},
		{"a byte too much", after("\x01\x01\x02\x10\x01" + most + "z"), []string{"a"}},
		{"more after the data", after("\x01\x01\x01\x01b\x00\x07"), []string{"a"}},
		{"another previous one", good + recordsAs(2, Record{Kind: 1, Data: "b"}), []string{"a"}},
		{"a sector between", good + zeros(1) + recordsAs(2, a, Record{Kind: 1, Data: "b"})[64:], []string{"a"}},
		{"another turn", recordsAs(4, a), nil},
		{"a record of turn 2 first, and one of turn 4 after it", good + recordsAs(4, a, a)[64:], []string{"a"}},
		{"the digest of the turn as a record", whole(sum("turn" + num(2))), nil},
	} {
		d := sector.New(202)
		put(t, d, 0, headAs(2)+headAs(1)+c.text)
		if _, l := open(t, d); !slices.Equal(data(l), c.want) {
			t.Errorf("%s: %d records", c.what, len(l))
		}
	}
	// A padding that is not of zeros, although the checksum is right.
	d := sector.New(10)
	put(t, d, 0, headAs(2)+headAs(1)+recordsAs(2, a, a)[:127]+"\x01")
	if _, l := open(t, d); !slices.Equal(data(l), []string{"a"}) {
		t.Errorf("a spoilt padding: %v", l)
	}
	// A record that would end beyond its half.
	d = sector.New(10)
	put(t, d, 0, headAs(2)+headAs(1)+recordsAs(2, a, Record{Kind: 1, Data: strings.Repeat("l", 200)}))
	if _, l := open(t, d); !slices.Equal(data(l), []string{"a"}) {
		t.Errorf("a record beyond its half: %v", l)
	}
}

// However an Append is torn, it is there completely or not at all, and with it what was appended after it.
func TestTornAppends(t *testing.T) {
	l := []Record{{1, "sure", 0}, {2, strings.Repeat("t", 100), 0}, {3, "", 0}, {4, strings.Repeat("\x00", 40), 0}, {5, "z", 0}}
	ends := []int{0, 3, 4, 6, 7}   // how many loose sectors a record and those ahead of it have
	filled := []int{0, 3, 4, 5, 7} // the same, without a last one that has only zeros and so cannot be lost
	for torn := range 7 {
		for kept := range 65 {
			for _, rest := range []int{0, 64} {
				d := sector.New(30)
				b, _ := open(t, d)
				for i, x := range l {
					if add(t, b, x.Kind, x.Data); i == 0 {
						sync(t, b)
					}
				}
				choices := slices.Concat(slices.Repeat([]int{64}, torn), []int{kept}, slices.Repeat([]int{rest}, 7))
				d.Crash(choices...)
				_, got := open(t, d)
				least, most := 0, 0 // the records whose sectors are all there; and those that may be there, because perhaps only zeros are lost
				for i := range l {
					if ends[i] <= torn || kept == 64 && (ends[i] == torn+1 || rest == 64) {
						least = i
					}
					if filled[i] <= torn+1 || rest == 64 {
						most = i
					}
				}
				if n := len(got) - 1; n < least || n > most || !slices.Equal(data(got), data(l[:n+1])) {
					t.Fatalf("sector %d torn at %d, then %d: %d records, not %d to %d", torn, kept, rest, n, least, most)
				}
			}
		}
	}
}

// Many turns, each with a crash at any byte of its head.
func TestTornHeads(t *testing.T) {
	d := sector.New(8)
	b, _ := open(t, d)
	add(t, b, 1, "data")
	sync(t, b)
	for i := range 600 {
		turn := b.Turn()
		d.Arm(3)
		if _, e := b.Rewrite(Record{Kind: 2, Data: "data"}); e != api.ErrIO {
			t.Fatalf("Rewrite: %d", e)
		}
		kept := i % 66
		d.Crash(kept)
		var l []Record
		b, l = open(t, d)
		if !slices.Equal(data(l), []string{"data"}) || l[0].Kind == 1 && kept >= 64 || b.Turn() != turn+l[0].Kind {
			t.Fatalf("turn %d, torn at %d: %v, turn %d", turn, kept, l, b.Turn())
		}
		rewrite(t, b, Record{Kind: 1, Data: "data"})
	}
	if b.Turn() < 1200 {
		t.Errorf("turn %d", b.Turn())
	}
}

// After an error, Open may be called without a crash ahead of it. A crash within that call must not take both the head that it goes by and what that head replaced.
func TestOpenAfterAnError(t *testing.T) {
	for calls := range 12 {
		d := sector.New(12)
		b, _ := open(t, d)
		add(t, b, 1, "old")
		sync(t, b)
		d.Arm(3)
		if _, e := b.Rewrite(Record{Kind: 1, Data: "new"}); e != api.ErrIO || !slices.Equal(d.Loose(), []int{0}) {
			t.Fatalf("Rewrite: %d, loose %v", e, d.Loose())
		}
		d.Arm(calls)
		_, _, e := Open(d)
		var choices []int
		for _, at := range d.Loose() {
			if at < 2 {
				choices = append(choices, 0)
			} else {
				choices = append(choices, 64)
			}
		}
		d.Crash(choices...)
		_, l := open(t, d)
		if got := data(l); !slices.Equal(got, []string{"new"}) && (e == api.OK || !slices.Equal(got, []string{"old"})) {
			t.Errorf("%d calls: Open %d, and then %v", calls, e, l)
		}
	}
}

// history is what the promises say of a book, whatever happens.
type history struct {
	t       *testing.T
	r       *rand.Rand
	d       *sector.Disk
	b       *Book
	sure    []Record   // at the last Sync, Open or Rewrite that returned OK
	since   []Record   // appended since
	maybe   [][]Record // of every Rewrite since that did not return OK
	crashed bool       // since then
	made    int        // records
	log     []string
}

func (h *history) note(what string, e api.Errno) {
	h.log = append(h.log, what+": "+strconv.Itoa(int(e)))
}

// fresh is a record that never was before.
func (h *history) fresh() Record {
	h.made++
	s := strconv.Itoa(h.made) + ":"
	return Record{Kind: 1 + h.r.Intn(200), Data: s + strings.Repeat([]string{"x", "\x00"}[h.r.Intn(2)], h.r.Intn(1+h.r.Intn(200)))}
}

// equal compares records without their positions.
func equal(a, b []Record) bool {
	return slices.EqualFunc(a, b, func(x, y Record) bool { return x.Kind == y.Kind && x.Data == y.Data })
}

// allowed reports whether a book that is opened may have these records.
func (h *history) allowed(l []Record) bool {
	for _, other := range h.maybe {
		if equal(l, other) {
			return true
		}
	}
	if !h.crashed {
		return equal(l, slices.Concat(h.sure, h.since))
	}
	n := len(l) - len(h.sure)
	return n >= 0 && n <= len(h.since) && equal(l, slices.Concat(h.sure, h.since[:n]))
}

func (h *history) settled(l []Record) {
	h.sure, h.since, h.maybe, h.crashed = slices.Clone(l), nil, nil, false
}

func (h *history) open() {
	h.b = nil // it may not be used any more, even if Open fails
	b, l, e := Open(h.d)
	h.note("Open", e)
	if e != api.OK {
		if e != api.ErrIO || b != nil || l != nil {
			h.t.Fatalf("%q: %v", h.log, l)
		}
		return
	}
	if !h.allowed(l) {
		h.t.Fatalf("%q: %q, after %q and then %q, or one of %v", h.log, data(l), data(h.sure), data(h.since), h.maybe)
	}
	h.b = b
	h.settled(l)
}

func (h *history) append() {
	x := h.fresh()
	left := h.b.Left()
	got, e := h.b.Append(x.Kind, x.Data)
	h.note("Append", e)
	switch e {
	case api.OK:
		if x.At = got.At; got != x || Cost(len(x.Data)) > left {
			h.t.Fatalf("%q: %+v", h.log, got)
		}
		h.since = append(h.since, x)
	case api.ErrSpace:
		if Cost(len(x.Data)) <= left {
			h.t.Fatalf("%q: %d sectors left", h.log, left)
		}
	default:
		h.b = nil
	}
}

func (h *history) rewrite() {
	var l []Record
	cost := 0
	for _, x := range slices.Concat(h.sure, h.since, []Record{h.fresh()}) {
		if n := cost + Cost(len(x.Data)); h.r.Intn(3) > 0 && n <= (h.d.Size()-2)/2 {
			l, cost = append(l, x), n
		}
	}
	moved, e := h.b.Rewrite(l...)
	h.note("Rewrite", e)
	if e != api.OK {
		h.maybe = append(h.maybe, l)
		h.b = nil
		return
	}
	if !equal(moved, l) {
		h.t.Fatalf("%q: %v", h.log, moved)
	}
	h.settled(moved)
}

func (h *history) sync() {
	e := h.b.Sync()
	h.note("Sync", e)
	if e != api.OK {
		h.b = nil
		return
	}
	h.settled(slices.Concat(h.sure, h.since))
}

// get reads all records that there should be.
func (h *history) get() {
	for _, x := range slices.Concat(h.sure, h.since) {
		got, e := h.b.Get(x.At)
		if e == api.ErrIO {
			h.note("Get", e)
			h.b = nil
			return
		}
		if got != x || e != api.OK {
			h.t.Fatalf("%q: Get(%d): %+v, %d, not %+v", h.log, x.At, got, e, x)
		}
	}
}

func (h *history) crash() {
	choices := make([]int, len(h.d.Loose()))
	way := h.r.Intn(4)
	for i := range choices {
		choices[i] = []int{0, 64, h.r.Intn(65), 64 * h.r.Intn(2)}[way]
	}
	h.d.Crash(choices...)
	h.note("Crash", 0)
	h.b, h.crashed = nil, true
}

// P12.1 to P12.3 over any sequence of calls, errors and crashes. As each record is made once, one that was lost is never allowed again.
func TestHistories(t *testing.T) {
	runs := 4000
	if testing.Short() {
		runs = 400
	}
	for run := range runs {
		h := &history{t: t, r: rand.New(rand.NewSource(int64(run))), d: sector.New(4 + run%30)}
		for range 60 {
			if h.r.Intn(5) == 0 {
				h.d.Arm(h.r.Intn(9))
			}
			if h.r.Intn(8) == 0 {
				h.d.Clear()
			}
			switch n := h.r.Intn(20); {
			case n == 0:
				h.crash()
			case h.b == nil:
				// Whoever opens the disk may do so without a crash, and with calls that fail.
				if h.r.Intn(2) == 0 {
					h.crash()
				}
				h.open()
			case n < 10:
				h.append()
			case n < 13:
				h.sync()
			case n < 15:
				h.get()
			case n < 18:
				h.rewrite()
			default:
				h.open()
			}
		}
	}
}

// K3: results share no memory, and arguments are not retained.
func TestResultsAreApart(t *testing.T) {
	d := sector.New(20)
	b, _ := open(t, d)
	x := add(t, b, 1, "a")
	l := []Record{x, {2, "b", 0}}
	moved := rewrite(t, b, l...)
	kept := slices.Clone(moved)
	clear(l)
	clear(moved)
	has(t, b, kept...)
	_, first := open(t, d)
	clear(first)
	if _, second := open(t, d); !equal(second, kept) {
		t.Errorf("%v", second)
	}
}

// K4: the same calls have the same results.
func TestTheSameAgain(t *testing.T) {
	play := func() (string, []Record) {
		d := sector.New(50)
		b, _ := open(t, d)
		for i := range 9 {
			add(t, b, 1+i, strings.Repeat("x", 10*i))
		}
		d.Crash(64, 64, 3, 64, 64)
		_, l := open(t, d)
		return contents(t, d), l
	}
	s, l := play()
	for range 5 {
		if again, other := play(); again != s || !slices.Equal(other, l) {
			t.Error("another disk")
		}
	}
}

// Whatever a disk contains, Open returns what is valid of it, and the same once more.
func FuzzOpen(f *testing.F) {
	f.Add([]byte{}, 10)
	f.Add([]byte(headAs(2)+headAs(1)+recordsAs(2, Record{Kind: 1, Data: "a"}, Record{Kind: 2, Data: strings.Repeat("b", 99)})), 12)
	f.Add([]byte(zeros(1)+headAs(1)+zeros(4)+recordsAs(1, Record{Kind: 1, Data: "a"})), 10)
	f.Fuzz(func(t *testing.T, s []byte, size int) {
		d := sector.New(min(size, 100))
		put(t, d, 0, string(s[:min(len(s), 64*d.Size())]))
		b, l, e := Open(d)
		if e == api.ErrArg && d.Size() < 4 {
			return
		}
		if e != api.OK {
			t.Fatalf("Open: %d", e)
		}
		for _, x := range l {
			if got, e := b.Get(x.At); got != x || e != api.OK || x.Kind < 1 || x.Kind > 200 || len(x.Data) > 4096 {
				t.Errorf("Get(%d): %+v, %d", x.At, got, e)
			}
		}
		if _, again := open(t, d); !equal(again, l) {
			t.Errorf("%v became %v", l, again)
		}
	})
}
