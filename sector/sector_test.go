package sector

import (
	"math"
	"math/rand"
	"slices"
	"strings"
	"testing"

	"caravan/api"
)

// The signatures that the chapter lists: a disk embeds its fuse, whose methods are promoted, and a write takes a variable number of texts.
var (
	_ func(int) *Disk                           = New
	_ func(*Disk) int                           = (*Disk).Size
	_ func(*Disk) []int                         = (*Disk).Loose
	_ func(*Disk, int, int) (string, api.Errno) = (*Disk).Read
	_ func(*Disk, int, ...string) api.Errno     = (*Disk).Write
	_ func(*Disk) api.Errno                     = (*Disk).Sync
	_ func(*Disk, ...int)                       = (*Disk).Crash
	_ func(*Disk, int, int, byte) api.Errno     = (*Disk).Spoil
	_ func(*Disk, int)                          = (*Disk).Arm
	_ func(*Disk)                               = (*Disk).Clear
	_ func(*Disk) (int, bool)                   = (*Disk).Armed
	_ *Fuse                                     = Disk{}.Fuse
	_                                           = [1]int{}[Len-64]
)

// pad fills a text up with zeros to a sector.
func pad(text string) string {
	return text + strings.Repeat("\x00", Len-len(text))
}

// full is a sector of one letter.
func full(letter string) string {
	return strings.Repeat(letter, Len)
}

// all reads a whole disk, whatever its fuse says.
func all(t *testing.T, d *Disk) string {
	t.Helper()
	left, armed := d.Armed()
	d.Clear()
	s, e := d.Read(0, d.Size())
	if e != api.OK || len(s) != d.Size()*Len {
		t.Fatalf("Read of %d sectors: %d bytes, %d", d.Size(), len(s), e)
	}
	if armed {
		d.Arm(left)
	}
	return s
}

// holds checks the contents of a whole disk, sector by sector.
func holds(t *testing.T, d *Disk, sectors ...string) {
	t.Helper()
	got := all(t, d)
	if len(sectors) != d.Size() {
		t.Fatalf("%d sectors, not %d", d.Size(), len(sectors))
	}
	for i, want := range sectors {
		if s := got[i*Len : (i+1)*Len]; s != pad(want) {
			t.Errorf("sector %d is %q, not %q", i, s, pad(want))
		}
	}
}

// write writes to a disk where nothing stands in the way.
func write(t *testing.T, d *Disk, at int, texts ...string) {
	t.Helper()
	if e := d.Write(at, texts...); e != api.OK {
		t.Fatalf("Write %d: %d", at, e)
	}
}

func sync(t *testing.T, d *Disk) {
	t.Helper()
	if e := d.Sync(); e != api.OK {
		t.Fatalf("Sync: %d", e)
	}
}

func armed(t *testing.T, d *Disk, left int, is bool) {
	t.Helper()
	if n, ok := d.Armed(); n != left || ok != is {
		t.Errorf("Armed: %d, %v, not %d, %v", n, ok, left, is)
	}
}

func TestExample(t *testing.T) {
	d := New(1)
	write(t, d, 0, "ab")
	sync(t, d)
	write(t, d, 0, "xy")
	d.Crash(1)
	holds(t, d, "xb")
}

func TestNew(t *testing.T) {
	for _, c := range []struct{ n, size int }{
		{math.MinInt, 0}, {-1, 0}, {0, 0}, {1, 1}, {2, 2}, {65535, 65535}, {65536, 65536}, {65537, 65536}, {math.MaxInt, 65536},
	} {
		d := New(c.n)
		if d.Size() != c.size || len(d.Loose()) != 0 {
			t.Errorf("New(%d): size %d, loose %v", c.n, d.Size(), d.Loose())
		}
		if all(t, d) != strings.Repeat("\x00", c.size*Len) {
			t.Errorf("New(%d): not zeros", c.n)
		}
		armed(t, d, 0, false)
	}
}

func TestDisksAreApart(t *testing.T) {
	a, b := New(1), New(1)
	write(t, a, 0, "a")
	a.Arm(3)
	holds(t, b, "")
	armed(t, b, 0, false)
	if len(b.Loose()) != 0 {
		t.Errorf("loose: %v", b.Loose())
	}
}

func TestRead(t *testing.T) {
	d := New(3)
	write(t, d, 0, "one", full("2"), "three")
	whole := pad("one") + full("2") + pad("three")
	for at := range 4 {
		for n := range 4 - at {
			if s, e := d.Read(at, n); s != whole[at*Len:(at+n)*Len] || e != api.OK {
				t.Errorf("Read(%d, %d): %q, %d", at, n, s, e)
			}
		}
	}
}

// outside are sectors that a disk of three does not have.
var outside = []struct{ at, n int }{
	{-1, 0}, {-1, 1}, {-3, 3}, {math.MinInt, 0}, {4, 0}, {4, 1}, {math.MaxInt, 0}, {3, 1}, {2, 2}, {0, 4}, {1, 3},
}

func TestReadOutside(t *testing.T) {
	d := New(3)
	d.Arm(0)
	cases := append(slices.Clone(outside), []struct{ at, n int }{
		{0, -1}, {3, -1}, {0, math.MinInt}, {1, math.MaxInt}, {math.MaxInt, math.MaxInt}, {math.MaxInt, 1}, {3, math.MaxInt}, {4, -1}, {math.MinInt, math.MinInt}, {1, math.MaxInt - 1},
		{math.MaxInt/Len + 1, 1}, {0, math.MaxInt/Len + 1}, {math.MinInt, math.MaxInt},
	}...)
	for _, c := range cases {
		if s, e := d.Read(c.at, c.n); s != "" || e != api.ErrArg {
			t.Errorf("Read(%d, %d): %q, %d", c.at, c.n, s, e)
		}
	}
	if s, e := New(0).Read(0, 0); s != "" || e != api.OK {
		t.Errorf("Read of nothing: %q, %d", s, e)
	}
}

func TestWritePads(t *testing.T) {
	d := New(3)
	write(t, d, 0, full("x"), full("y"), full("z"))
	write(t, d, 0, "", "a\x00b", full("w")[:63])
	holds(t, d, "", "a\x00b", full("w")[:63])
	write(t, d, 1, full("\xff"))
	holds(t, d, "", full("\xff"), full("w")[:63])
}

func TestWriteRefuses(t *testing.T) {
	d := New(3)
	write(t, d, 0, "a", "b", "c")
	sync(t, d)
	refuse := func(at int, texts ...string) {
		t.Helper()
		for _, left := range []int{0, 7} {
			d.Arm(left)
			if e := d.Write(at, texts...); e != api.ErrArg {
				t.Errorf("Write(%d, %d texts) with %d left: %d", at, len(texts), left, e)
			}
			armed(t, d, left, true)
		}
		holds(t, d, "a", "b", "c")
		if len(d.Loose()) != 0 {
			t.Errorf("Write(%d, %d texts): loose %v", at, len(texts), d.Loose())
		}
	}
	for _, c := range outside {
		refuse(c.at, slices.Repeat([]string{"x"}, c.n)...)
	}
	refuse(0, full("x")+"x")
	refuse(0, "x", "x", full("x")+"x")
	refuse(1, strings.Repeat("x", 1000), "x")
	refuse(3, full("x")+"x")
}

func TestWriteNothing(t *testing.T) {
	d := New(2)
	write(t, d, 0)
	write(t, d, 2)
	write(t, d, 1, []string(nil)...)
	if len(d.Loose()) != 0 {
		t.Errorf("loose: %v", d.Loose())
	}
	d.Arm(1)
	if d.Write(2) != api.OK || d.Write(2) != api.ErrIO {
		t.Error("a write of nothing counts for the fuse")
	}
}

func TestLoose(t *testing.T) {
	d := New(300)
	for _, at := range []int{299, 7, 256, 0, 7, 12, 299} {
		write(t, d, at, "x")
	}
	write(t, d, 100, "p", "q")
	want := []int{0, 7, 12, 100, 101, 256, 299}
	got := d.Loose()
	if !slices.Equal(got, want) {
		t.Errorf("loose: %v", got)
	}
	got[0] = 55
	if !slices.Equal(d.Loose(), want) {
		t.Errorf("loose, after its result was changed: %v", d.Loose())
	}
	kept := d.Loose()
	sync(t, d)
	if len(d.Loose()) != 0 || !slices.Equal(kept, want) {
		t.Errorf("loose after Sync: %v, and before: %v", d.Loose(), kept)
	}
	write(t, d, 7, "x")
	if !slices.Equal(d.Loose(), []int{7}) {
		t.Errorf("the same contents written again: %v", d.Loose())
	}
	d.Crash()
	if len(d.Loose()) != 0 {
		t.Errorf("loose after Crash: %v", d.Loose())
	}
}

func TestCrashKeepsAPrefix(t *testing.T) {
	for choice := -2; choice <= Len+2; choice++ {
		kept := min(max(choice, 0), Len)
		d := New(1)
		write(t, d, 0, full("o"))
		sync(t, d)
		write(t, d, 0, "new")
		d.Crash(choice)
		holds(t, d, pad("new")[:kept]+full("o")[kept:])
	}
	for _, c := range []struct {
		choice int
		want   string
	}{{math.MinInt, full("o")}, {math.MaxInt, full("n")}} {
		d := New(1)
		write(t, d, 0, full("o"))
		sync(t, d)
		write(t, d, 0, full("n"))
		d.Crash(c.choice)
		holds(t, d, c.want)
	}
}

func TestCrashTakesChoicesInAscendingOrder(t *testing.T) {
	d := New(6)
	write(t, d, 4, "eeee")
	write(t, d, 0, "aaaa", "bbbb")
	write(t, d, 3, "dddd")
	choices := []int{3, 1, 4}
	d.Crash(choices...)
	holds(t, d, "aaa", "b", "", "dddd", "", "")
	if !slices.Equal(choices, []int{3, 1, 4}) {
		t.Errorf("the choices became %v", choices)
	}
	write(t, d, 5, "ffff")
	d.Crash(2, 9, 9)
	holds(t, d, "aaa", "b", "", "dddd", "", "ff")
	d.Crash(64, 64)
	holds(t, d, "aaa", "b", "", "dddd", "", "ff")
	New(0).Crash(1)
}

func TestCrashFallsBackToWhatIsSure(t *testing.T) {
	d := New(1)
	write(t, d, 0, "sure")
	sync(t, d)
	write(t, d, 0, "first")
	write(t, d, 0, "again!")
	d.Crash(2)
	holds(t, d, "agre")
	write(t, d, 0, "x")
	d.Crash()
	holds(t, d, "agre")
}

func TestCrashedContentsAreDurable(t *testing.T) {
	d := New(1)
	write(t, d, 0, "abcd")
	d.Crash(2)
	d.Crash(0)
	holds(t, d, "ab")
	write(t, d, 0, "xy")
	d.Crash(1)
	holds(t, d, "xb")
}

func TestSyncIsDurable(t *testing.T) {
	d := New(4)
	write(t, d, 0, "a", "b", "c", "d")
	sync(t, d)
	sync(t, d)
	write(t, d, 1, "x")
	write(t, d, 3, "y")
	for range 3 {
		d.Crash()
		holds(t, d, "a", "b", "c", "d")
	}
	write(t, d, 2, "e")
	sync(t, d)
	write(t, d, 0, "f")
	d.Arm(0)
	if d.Sync() != api.ErrIO {
		t.Error("Sync without a call left")
	}
	d.Crash()
	holds(t, d, "a", "b", "e", "d")
}

func TestSpoil(t *testing.T) {
	d := New(2)
	write(t, d, 0, "abc", full("z"))
	sync(t, d)
	for _, c := range []struct {
		at, by int
		with   byte
	}{{0, 0, 3}, {0, 2, 0}, {1, 63, 0xff}, {0, 1, 1}, {0, 1, 1}} {
		if e := d.Spoil(c.at, c.by, c.with); e != api.OK {
			t.Errorf("Spoil(%d, %d, %d): %d", c.at, c.by, c.with, e)
		}
	}
	spoilt := full("z")[:63] + string([]byte{'z' ^ 0xff})
	holds(t, d, "bbc", spoilt)
	if len(d.Loose()) != 0 {
		t.Errorf("loose: %v", d.Loose())
	}
	d.Crash(64, 64)
	holds(t, d, "bbc", spoilt)
}

func TestSpoilOfALooseSector(t *testing.T) {
	for _, c := range []struct {
		kept int
		want string
	}{{0, "dld"}, {1, "mld"}, {2, "med"}, {64, "mew"}} {
		d := New(1)
		write(t, d, 0, "eld")
		sync(t, d)
		write(t, d, 0, "lew")
		d.Spoil(0, 0, 1)
		if !slices.Equal(d.Loose(), []int{0}) {
			t.Errorf("loose: %v", d.Loose())
		}
		holds(t, d, "mew")
		d.Crash(c.kept)
		holds(t, d, c.want)
	}
	d := New(1)
	write(t, d, 0, "l")
	d.Spoil(0, 0, 1)
	sync(t, d)
	d.Crash()
	holds(t, d, "m")
}

func TestSpoilRefuses(t *testing.T) {
	d := New(2)
	write(t, d, 0, "a")
	for _, c := range []struct{ at, by int }{
		{-1, 0}, {2, 0}, {0, -1}, {0, 64}, {1, 64}, {-1, 64}, {2, -64}, {math.MaxInt, 0}, {math.MinInt, 0}, {0, math.MaxInt}, {0, math.MinInt}, {1, -1},
	} {
		if e := d.Spoil(c.at, c.by, 1); e != api.ErrArg {
			t.Errorf("Spoil(%d, %d): %d", c.at, c.by, e)
		}
	}
	holds(t, d, "a", "")
	if New(0).Spoil(0, 0, 1) != api.ErrArg {
		t.Error("Spoil of a disk without sectors")
	}
}

func TestFuse(t *testing.T) {
	for n := -2; n < 8; n++ {
		d := New(2)
		d.Arm(n)
		left := max(n, 0)
		armed(t, d, left, true)
		for i := range 12 {
			e := []func() api.Errno{
				func() api.Errno { _, e := d.Read(0, 1); return e },
				func() api.Errno { return d.Write(1, "x") },
				d.Sync,
				func() api.Errno { _, e := d.Read(2, 0); return e },
			}[i%4]()
			want := api.ErrIO
			if left > 0 {
				left--
				want = api.OK
			}
			if e != want {
				t.Errorf("armed with %d, call %d: %d", n, i, e)
			}
			armed(t, d, left, true)
		}
	}
}

func TestFuseAgain(t *testing.T) {
	d := New(1)
	d.Clear()
	armed(t, d, 0, false)
	d.Arm(math.MinInt)
	armed(t, d, 0, true)
	d.Arm(5)
	armed(t, d, 5, true)
	d.Sync()
	armed(t, d, 4, true)
	d.Arm(2)
	armed(t, d, 2, true)
	d.Clear()
	armed(t, d, 0, false)
	for range 9 {
		sync(t, d)
	}
	armed(t, d, 0, false)
	d.Arm(1)
	d.Crash()
	armed(t, d, 0, false)
	d.Arm(0)
	d.Crash(1, 2)
	armed(t, d, 0, false)
	sync(t, d)
	var f Fuse
	f.Arm(3)
	if n, ok := f.Armed(); n != 3 || !ok {
		t.Errorf("a fuse of its own: %d, %v", n, ok)
	}
}

func TestOnlyReadWriteAndSyncCount(t *testing.T) {
	d := New(2)
	write(t, d, 0, "a")
	for _, left := range []int{0, 2} {
		d.Arm(left)
		d.Size()
		d.Loose()
		if d.Spoil(0, 0, 1) != api.OK || d.Spoil(0, 64, 1) != api.ErrArg {
			t.Error("Spoil depends on the fuse")
		}
		if s, e := d.Read(0, 3); s != "" || e != api.ErrArg {
			t.Errorf("Read: %q, %d", s, e)
		}
		if e := d.Write(0, full("x")+"x"); e != api.ErrArg {
			t.Errorf("Write: %d", e)
		}
		armed(t, d, left, true)
	}
}

func TestAFailedCallChangesNothing(t *testing.T) {
	d := New(3)
	write(t, d, 0, "a", "b")
	sync(t, d)
	write(t, d, 1, "x")
	d.Arm(0)
	for range 2 {
		if s, e := d.Read(0, 1); s != "" || e != api.ErrIO {
			t.Errorf("Read: %q, %d", s, e)
		}
		if e := d.Write(0, "n", "n", "n"); e != api.ErrIO {
			t.Errorf("Write: %d", e)
		}
		if e := d.Sync(); e != api.ErrIO {
			t.Errorf("Sync: %d", e)
		}
		armed(t, d, 0, true)
		holds(t, d, "a", "x", "")
		if !slices.Equal(d.Loose(), []int{1}) {
			t.Errorf("loose: %v", d.Loose())
		}
	}
	d.Crash()
	holds(t, d, "a", "b", "")
}

func TestArgumentsStayAsTheyWere(t *testing.T) {
	d := New(2)
	texts := []string{"a", "b"}
	write(t, d, 0, texts...)
	if !slices.Equal(texts, []string{"a", "b"}) {
		t.Errorf("the texts became %q", texts)
	}
	texts[0] = "changed"
	holds(t, d, "a", "b")
	before := all(t, d)
	write(t, d, 0, "other")
	if before != pad("a")+pad("b") {
		t.Error("what was read changed")
	}
}

// model is a disk as the chapter describes it, without any saving.
type model struct {
	written, durable []string
	loose            []bool
	armed            bool
	left             int
}

func (m *model) spend() bool {
	if m.armed && m.left == 0 {
		return false
	}
	if m.armed {
		m.left--
	}
	return true
}

func (m *model) read(at, n int) (string, api.Errno) {
	if at < 0 || n < 0 || at+n > len(m.written) {
		return "", api.ErrArg
	}
	if !m.spend() {
		return "", api.ErrIO
	}
	return strings.Join(m.written[at:at+n], ""), api.OK
}

func (m *model) write(at int, texts []string) api.Errno {
	if at < 0 || at+len(texts) > len(m.written) {
		return api.ErrArg
	}
	for _, text := range texts {
		if len(text) > Len {
			return api.ErrArg
		}
	}
	if !m.spend() {
		return api.ErrIO
	}
	for i, text := range texts {
		m.written[at+i], m.loose[at+i] = pad(text), true
	}
	return api.OK
}

func (m *model) sync() api.Errno {
	if !m.spend() {
		return api.ErrIO
	}
	copy(m.durable, m.written)
	clear(m.loose)
	return api.OK
}

func (m *model) crash(choices []int) {
	for i := range m.written {
		if !m.loose[i] {
			continue
		}
		kept := 0
		if len(choices) > 0 {
			kept, choices = min(max(choices[0], 0), Len), choices[1:]
		}
		m.durable[i] = m.written[i][:kept] + m.durable[i][kept:]
	}
	copy(m.written, m.durable)
	clear(m.loose)
	m.armed, m.left = false, 0
}

func (m *model) spoil(at, by int, with byte) api.Errno {
	if at < 0 || at >= len(m.written) || by < 0 || by >= Len {
		return api.ErrArg
	}
	for _, side := range [][]string{m.written, m.durable} {
		b := []byte(side[at])
		b[by] ^= with
		side[at] = string(b)
	}
	return api.OK
}

func (m *model) looseSectors() []int {
	var list []int
	for i, is := range m.loose {
		if is {
			list = append(list, i)
		}
	}
	return list
}

// step does one random call on both and reports whether they agree.
func step(source *rand.Rand, d *Disk, m *model) bool {
	size := len(m.written)
	at, n := source.Intn(size+4)-2, source.Intn(5)-1
	switch source.Intn(16) {
	case 0, 1, 2:
		s, e := d.Read(at, n)
		s1, e1 := m.read(at, n)
		return s == s1 && e == e1
	case 3, 4, 5, 6, 7:
		texts := make([]string, max(n, 0))
		for i := range texts {
			b := make([]byte, []int{source.Intn(Len + 1), source.Intn(Len + 1), Len, Len + source.Intn(20)/19}[source.Intn(4)])
			source.Read(b)
			texts[i] = string(b)
		}
		return d.Write(at, texts...) == m.write(at, texts)
	case 8, 9:
		return d.Sync() == m.sync()
	case 10, 11:
		choices := make([]int, source.Intn(size+3))
		for i := range choices {
			choices[i] = source.Intn(Len+6) - 3
		}
		d.Crash(choices...)
		m.crash(choices)
		return true
	case 12, 13:
		by, with := source.Intn(Len+4)-2, byte(source.Intn(256))
		return d.Spoil(at, by, with) == m.spoil(at, by, with)
	case 14:
		n := source.Intn(9) - 1
		d.Arm(n)
		m.armed, m.left = true, max(n, 0)
		return true
	default:
		d.Clear()
		m.armed, m.left = false, 0
		return true
	}
}

func TestAnySequenceOfCalls(t *testing.T) {
	source := rand.New(rand.NewSource(3))
	for run := range 200 {
		size := 1 + source.Intn(7)
		d := New(size)
		zeros := slices.Repeat([]string{pad("")}, size)
		m := &model{written: slices.Clone(zeros), durable: zeros, loose: make([]bool, size)}
		for i := range 150 {
			if !step(source, d, m) {
				t.Fatalf("run %d, step %d: another result", run, i)
			}
			if all(t, d) != strings.Join(m.written, "") || !slices.Equal(d.Loose(), m.looseSectors()) || d.Size() != size {
				t.Fatalf("run %d, step %d: loose %v, not %v, or other contents", run, i, d.Loose(), m.looseSectors())
			}
			if n, ok := d.Armed(); n != m.left || ok != m.armed {
				t.Fatalf("run %d, step %d: armed %d, %v", run, i, n, ok)
			}
		}
	}
}
