package cutter

import (
	"iter"
	"math/rand"
	"slices"
	"strings"
	"testing"

	"caravan/api"
	"caravan/gear"
)

// The signatures that the chapter lists: a cutter embeds its roll, whose methods are promoted, and a write takes a variable number of parts.
var (
	_ func(*gear.Table) *Cutter                  = New
	_ func(*Cutter, ...string) []string          = (*Cutter).Write
	_ func(*Cutter) int                          = (*Cutter).Waits
	_ func(*Cutter) (string, bool)               = (*Cutter).Close
	_ func(*gear.Table, string) iter.Seq[string] = All
	_ func(*gear.Table, string) []string         = Cut
	_ *gear.Roll                                 = Cutter{}.Roll
	_ func(*Cutter, byte) uint64                 = (*Cutter).Next
	_ func(*Cutter) int                          = (*Cutter).Count
	_ func(*Cutter)                              = (*Cutter).Reset
)

// defined divides bytes as the chapter says, with the hash of each chunk's bytes computed anew.
func defined(x *gear.Table, s string) []string {
	var chunks []string
	for len(s) > 0 {
		n := 1
		for n < len(s) && !endsAfter(x, s[:n]) {
			n++
		}
		chunks = append(chunks, s[:n])
		s = s[n:]
	}
	return chunks
}

func endsAfter(x *gear.Table, chunk string) bool {
	n, sum := len(chunk), x.All(chunk)
	return n == 256 || n >= 96 && sum&0x9248000000000000 == 0 || n >= 32 && n < 96 && sum&0x9249240000000000 == 0
}

func random(seed int64, n int) string {
	s := make([]byte, n)
	rand.New(rand.NewSource(seed)).Read(s)
	return string(s)
}

// written passes bytes to a new cutter, part by part, and returns all chunks.
func written(x *gear.Table, parts ...string) []string {
	c := New(x)
	var chunks []string
	for _, part := range parts {
		chunks = append(chunks, c.Write(part)...)
	}
	if last, ok := c.Close(); ok {
		chunks = append(chunks, last)
	}
	return chunks
}

func lengths(chunks []string) []int {
	var list []int
	for _, chunk := range chunks {
		list = append(list, len(chunk))
	}
	return list
}

// texts are byte strings of many kinds and lengths.
func texts() []string {
	list := []string{"", "a", "\x00", strings.Repeat("ab", 700), strings.Repeat("\xff", 600), strings.Repeat("the quick brown fox\n", 150)}
	for i, n := range []int{1, 31, 32, 33, 95, 96, 97, 255, 256, 257, 511, 512, 513, 1000, 3000} {
		list = append(list, random(int64(i), n), strings.Repeat("\x00", n), strings.Repeat("é", n))
	}
	return list
}

func TestExample(t *testing.T) {
	for i := range 200 {
		x := gear.New(string([]byte{byte(i)}))
		s := random(int64(i), 31)
		if got := Cut(x, s); !slices.Equal(got, []string{s}) {
			t.Errorf("31 bytes: %q", got)
		}
		if got := written(x, s); !slices.Equal(got, []string{s}) {
			t.Errorf("31 bytes, written: %q", got)
		}
	}
}

// The lengths in these cases were computed by another program.
func TestKnownChunks(t *testing.T) {
	x := gear.New("caravan")
	s := make([]byte, 4000)
	state := uint32(1)
	for i := range s {
		state = (state*1103515245 + 12345) % (1 << 31)
		s[i] = byte(state >> 16)
	}
	want := []int{81, 98, 167, 44, 63, 105, 106, 53, 133, 159, 172, 38, 96, 99, 100, 97, 205, 39, 256, 111, 114, 104, 197, 144, 133, 70, 111, 56, 35, 40, 63, 39, 107, 70, 151, 41, 154, 149}
	if got := lengths(Cut(x, string(s))); !slices.Equal(got, want) {
		t.Errorf("chunks of %v bytes, not %v", got, want)
	}
	for _, c := range []string{"\x00", "a", "\xff"} {
		if got := lengths(Cut(x, strings.Repeat(c, 600))); !slices.Equal(got, []int{256, 256, 88}) {
			t.Errorf("600 times %q: chunks of %v bytes", c, got)
		}
	}
}

// P8.1, P8.2 and P8.3 for many byte strings and tables.
func TestCut(t *testing.T) {
	for _, seed := range []string{"", "caravan", "s", "\xff\x00"} {
		x := gear.New(seed)
		for _, s := range texts() {
			want := defined(x, s)
			if got := Cut(x, s); !slices.Equal(got, want) {
				t.Errorf("seed %q, %d bytes: Cut has chunks of %v bytes, not %v", seed, len(s), lengths(got), lengths(want))
			}
			if got := slices.Collect(All(x, s)); !slices.Equal(got, want) {
				t.Errorf("seed %q, %d bytes: All has chunks of %v bytes, not %v", seed, len(s), lengths(got), lengths(want))
			}
			if got := written(x, s); !slices.Equal(got, want) {
				t.Errorf("seed %q, %d bytes: Write has chunks of %v bytes, not %v", seed, len(s), lengths(got), lengths(want))
			}
			checkSizes(t, s, Cut(x, s))
		}
	}
}

// checkSizes checks that chunks are the bytes, and that none but the last is too short or too long.
func checkSizes(t *testing.T, s string, chunks []string) {
	t.Helper()
	if strings.Join(chunks, "") != s {
		t.Errorf("%d bytes: the chunks are others", len(s))
	}
	for i, chunk := range chunks {
		if len(chunk) == 0 || len(chunk) > api.MaxChunk || len(chunk) < api.MinChunk && i < len(chunks)-1 {
			t.Errorf("%d bytes: chunk %d of %d has %d", len(s), i, len(chunks), len(chunk))
		}
	}
}

// Chunks of every length occur, and every rule ends some at its first and at its last length.
func TestEveryLength(t *testing.T) {
	x := gear.New("caravan")
	s := random(1, 1<<24)
	chunks := Cut(x, s)
	checkSizes(t, s, chunks)
	var seen [api.MaxChunk + 1]int
	for i, chunk := range chunks[:len(chunks)-1] {
		seen[len(chunk)]++
		if !endsAfter(x, chunk) {
			t.Fatalf("chunk %d ends after %d bytes", i, len(chunk))
		}
		if seen[len(chunk)] > 2 {
			continue
		}
		for n := 1; n < len(chunk); n++ {
			if endsAfter(x, chunk[:n]) {
				t.Fatalf("chunk %d could end after %d of %d bytes", i, n, len(chunk))
			}
		}
	}
	for n, count := range seen {
		if (count > 0) != (n >= api.MinChunk) {
			t.Errorf("%d chunks of %d bytes", count, n)
		}
	}
}

// P8.2: wherever the bytes are divided.
func TestParts(t *testing.T) {
	x := gear.New("caravan")
	s := random(2, 700)
	want := defined(x, s)
	if got := written(x, strings.Split(s, "")...); !slices.Equal(got, want) {
		t.Errorf("runes: chunks of %v bytes, not %v", lengths(got), lengths(want))
	}
	for i := 0; i <= len(s); i++ {
		for j := i; j <= len(s); j += 23 {
			if got := written(x, s[:i], s[i:j], s[j:]); !slices.Equal(got, want) {
				t.Fatalf("divided at %d and %d: chunks of %v bytes, not %v", i, j, lengths(got), lengths(want))
			}
		}
	}
	for n := 1; n < 300; n++ {
		var parts []string
		for i := 0; i < len(s); i += n {
			parts = append(parts, s[i:min(i+n, len(s))], "")
		}
		c := New(x)
		got := c.Write(parts...)
		if last, ok := c.Close(); ok {
			got = append(got, last)
		}
		if !slices.Equal(got, want) || !slices.Equal(written(x, parts...), want) {
			t.Errorf("parts of %d bytes: chunks of %v bytes, not %v", n, lengths(got), lengths(want))
		}
	}
}

// Write returns a chunk with its last byte, neither earlier nor later, and Waits counts the others.
func TestByteByByte(t *testing.T) {
	x := gear.New("caravan")
	s := random(3, 3000)
	c := New(x)
	start := 0
	for i := range len(s) {
		got := c.Write(s[i : i+1])
		if chunk := s[start : i+1]; endsAfter(x, chunk) {
			if !slices.Equal(got, []string{chunk}) {
				t.Fatalf("after %d bytes: %q, not %q", i+1, got, chunk)
			}
			start = i + 1
		} else if len(got) != 0 {
			t.Fatalf("after %d bytes: %q", i+1, got)
		}
		if c.Waits() != i+1-start || c.Waits() != i+1-start {
			t.Fatalf("after %d bytes %d wait, not %d", i+1, c.Waits(), i+1-start)
		}
	}
	if last, ok := c.Close(); last != s[start:] || !ok {
		t.Errorf("Close: %q, %v", last, ok)
	}
}

func TestWriteNothing(t *testing.T) {
	x := gear.New("caravan")
	c := New(x)
	writeNothing := func(waits int) {
		for _, parts := range [][]string{nil, {}, {""}, {"", ""}} {
			if got := c.Write(parts...); len(got) != 0 || c.Waits() != waits {
				t.Errorf("Write(%q): %q, %d wait", parts, got, c.Waits())
			}
		}
	}
	writeNothing(0)
	c.Write("abc")
	writeNothing(3)
	if last, ok := c.Close(); last != "abc" || !ok {
		t.Errorf("Close: %q, %v", last, ok)
	}
	writeNothing(0)
}

func closesEmpty(t *testing.T, c *Cutter) {
	t.Helper()
	if last, ok := c.Close(); last != "" || ok || c.Waits() != 0 {
		t.Errorf("Close with nothing left: %q, %v, %d wait", last, ok, c.Waits())
	}
}

func TestClose(t *testing.T) {
	x := gear.New("caravan")
	c := New(x)
	closesEmpty(t, c)
	closesEmpty(t, c)
	for _, s := range texts() {
		want := defined(x, s)
		for _, again := range []bool{false, true} {
			got := c.Write(s)
			waits := c.Waits()
			last, ok := c.Close()
			if ok != (waits > 0) || len(last) != waits {
				t.Errorf("%d bytes: %d wait, Close: %q, %v", len(s), waits, last, ok)
			}
			if ok {
				got = append(got, last)
			}
			if !slices.Equal(got, want) {
				t.Errorf("%d bytes (again: %v): chunks of %v bytes, not %v", len(s), again, lengths(got), lengths(want))
			}
			closesEmpty(t, c)
		}
	}
}

func TestCloseBehindAChunk(t *testing.T) {
	x := gear.New("caravan")
	for _, chunk := range defined(x, random(4, 3000))[:10] {
		c := New(x)
		if got := c.Write(chunk); !slices.Equal(got, []string{chunk}) || c.Waits() != 0 {
			t.Errorf("Write of a chunk of %d bytes: %q, %d wait", len(chunk), got, c.Waits())
		}
		closesEmpty(t, c)
		if got := Cut(x, chunk); !slices.Equal(got, []string{chunk}) {
			t.Errorf("Cut of a chunk of %d bytes: %q", len(chunk), got)
		}
	}
}

func TestAllStops(t *testing.T) {
	x := gear.New("caravan")
	s := random(5, 3000)
	want := defined(x, s)
	sequence := All(x, s)
	for n := range len(want) + 1 {
		var got []string
		for chunk := range sequence {
			if len(got) == n {
				break
			}
			got = append(got, chunk)
		}
		if !slices.Equal(got, want[:n]) {
			t.Errorf("the first %d chunks have %v bytes, not %v", n, lengths(got), lengths(want[:n]))
		}
	}
	calls := 0
	sequence(func(string) bool {
		calls++
		return calls < 4
	})
	if calls != 4 {
		t.Errorf("%d calls, the fourth of which wanted no more", calls)
	}
	for chunk := range All(x, "") {
		t.Errorf("nothing has the chunk %q", chunk)
	}
}

// A sequence begins anew each time, even while it is gone through.
func TestAllAgain(t *testing.T) {
	x := gear.New("caravan")
	s := random(6, 1500)
	want := defined(x, s)
	sequence := All(x, s)
	var outer []string
	for chunk := range sequence {
		outer = append(outer, chunk)
		if inner := slices.Collect(sequence); !slices.Equal(inner, want) {
			t.Errorf("inside: chunks of %v bytes, not %v", lengths(inner), lengths(want))
		}
	}
	if !slices.Equal(outer, want) {
		t.Errorf("outside: chunks of %v bytes, not %v", lengths(outer), lengths(want))
	}
}

// P8.4: after a cut, what precedes does not matter.
func TestLocal(t *testing.T) {
	x := gear.New("caravan")
	a, b := defined(x, random(7, 3000)), defined(x, random(8, 3000))
	for i := range len(a) {
		if got := Cut(x, strings.Join(a[i:], "")); !slices.Equal(got, a[i:]) {
			t.Errorf("from chunk %d on: %v bytes, not %v", i, lengths(got), lengths(a[i:]))
		}
		// The last chunk of a need not end with a cut.
		for j := range len(b) {
			want := append(slices.Clone(a[:i]), b[j:]...)
			if got := Cut(x, strings.Join(want, "")); !slices.Equal(got, want) {
				t.Errorf("%d chunks, then others from chunk %d on: %v bytes, not %v", i, j, lengths(got), lengths(want))
			}
		}
	}
}

// Bytes that are put in at the beginning change only the chunks up to a common cut.
func TestChunksComeTogether(t *testing.T) {
	x := gear.New("caravan")
	s := random(9, 20000)
	old := Cut(x, s)
	for n := 1; n < 100; n++ {
		changed := Cut(x, strings.Repeat("n", n)+s)
		shared := 0
		for shared < len(old) && old[len(old)-1-shared] == changed[len(changed)-1-shared] {
			shared++
		}
		if shared < len(old)/2 {
			t.Errorf("%d bytes put in: only %d of %d chunks stay", n, shared, len(old))
		}
	}
}

// K3: a table that is changed later has no influence on what was made with it.
func TestTablesAreNotRetained(t *testing.T) {
	x := gear.New("caravan")
	s := random(10, 3000)
	want := defined(x, s)
	c, sequence := New(x), All(x, s)
	got := c.Write(s[:1000])
	clear(x[:])
	got = append(got, c.Write(s[1000:])...)
	if last, ok := c.Close(); ok {
		got = append(got, last)
	}
	if !slices.Equal(got, want) || !slices.Equal(slices.Collect(sequence), want) {
		t.Error("a cutter or a sequence retains its table")
	}
	if y := gear.New("caravan"); !slices.Equal(Cut(y, s), want) || *y != *gear.New("caravan") {
		t.Error("Cut changed its table")
	}
}

func TestArgumentsAndResultsStay(t *testing.T) {
	x := gear.New("caravan")
	s := random(11, 3000)
	parts := []string{s[:500], "", s[500:1300], s[1300:]}
	before := slices.Clone(parts)
	c := New(x)
	got := c.Write(parts...)
	kept := slices.Clone(got)
	c.Write(strings.Repeat("other", 500))
	c.Close()
	c.Write(s)
	if !slices.Equal(parts, before) {
		t.Error("Write changed its parts")
	}
	if !slices.Equal(got, kept) {
		t.Error("a later call changed chunks")
	}
}

func TestCuttersAreApart(t *testing.T) {
	x := gear.New("caravan")
	s, other := random(12, 2000), random(13, 2000)
	a, b := New(x), New(x)
	var fromA, fromB []string
	for i := 0; i < 2000; i += 50 {
		fromA = append(fromA, a.Write(s[i:i+50])...)
		fromB = append(fromB, b.Write(other[i:i+50])...)
	}
	wantA, wantB := defined(x, s), defined(x, other)
	if !slices.Equal(fromA, wantA[:len(fromA)]) || len(fromA) < len(wantA)-1 || !slices.Equal(fromB, wantB[:len(fromB)]) || len(fromB) < len(wantB)-1 {
		t.Error("two cutters disturb each other")
	}
}

// K7: nothing is promised about a cutter whose roll has been used, but its calls do not panic.
func TestPromotedMethods(t *testing.T) {
	x := gear.New("caravan")
	s := random(14, 3000)
	c := New(x)
	for i := range len(s) {
		c.Next(s[i])
	}
	c.Write(s)
	for i := 0; i < len(s); i += 20 {
		c.Write(s[i : i+20])
		c.Reset()
	}
	c.Write(s)
	c.Waits()
	c.Close()
	if c.Name() != x.Name() || c.All("abc") != x.All("abc") || c.Over().Count() != 0 {
		t.Error("the table of a cutter is another one")
	}
}
