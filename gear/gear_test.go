package gear

import (
	"crypto/sha256"
	"encoding/binary"
	"math"
	"math/big"
	"math/bits"
	"math/rand"
	"strings"
	"testing"

	"caravan/oid"
)

// The signatures that the chapter lists: a table is an array, and a roll embeds it, so that its methods are promoted.
var (
	_ func(string) *Table         = New
	_ func(*Table) string         = (*Table).Name
	_ func(*Table) *Roll          = (*Table).Over
	_ func(*Roll, byte) uint64    = (*Roll).Next
	_ func(*Roll) int             = (*Roll).Count
	_ func(*Roll)                 = (*Roll).Reset
	_ func(*Table, string) uint64 = (*Table).All
	_ func(int) uint64            = Mask
	_ *Table                      = Roll{}.Table
	_ func(*Roll) string          = (*Roll).Name
	_ func(*Roll) *Roll           = (*Roll).Over
	_ func(*Roll, string) uint64  = (*Roll).All
	_ [256]uint64                 = Table{}
)

// everyByte has each byte once.
func everyByte() string {
	s := make([]byte, 256)
	for i := range s {
		s[i] = byte(i)
	}
	return string(s)
}

func seeds() []string {
	return []string{"", "s", "caravan", "gear", "\x00", "\xff\x00", "é", "\xc3", everyByte(), strings.Repeat("long ", 200)}
}

func random(r *rand.Rand, n int) string {
	s := make([]byte, n)
	r.Read(s)
	return string(s)
}

// defined is the hash without rolling: each number is doubled once for every byte that follows, and the sum is taken modulo 2^64.
func defined(t *Table, s string) uint64 {
	sum := new(big.Int)
	for i, c := range []byte(s) {
		number := new(big.Int).SetUint64(t[c])
		sum.Add(sum, number.Lsh(number, uint(len(s)-1-i)))
	}
	return sum.Mod(sum, new(big.Int).Lsh(big.NewInt(1), 64)).Uint64()
}

func TestExamples(t *testing.T) {
	x := New("caravan")
	for c := range 256 {
		if got := x.All(string([]byte{byte(c)})); got != x[c] {
			t.Errorf("All of byte %d is %x, its number %x", c, got, x[c])
		}
	}
	if Mask(2) != 1<<63|1<<60 {
		t.Errorf("Mask(2) = %x", Mask(2))
	}
}

func TestNew(t *testing.T) {
	for _, seed := range seeds() {
		x := New(seed)
		for c := range 256 {
			digest := sha256.Sum256(append([]byte("gear"+seed), byte(c)))
			if want := binary.BigEndian.Uint64(digest[:8]); x[c] != want {
				t.Errorf("seed %q, byte %d: %x, not %x", seed, c, x[c], want)
			}
		}
	}
}

// The values in these cases were computed by another program.
func TestKnownTables(t *testing.T) {
	for _, c := range []struct {
		seed          string
		first, a, end uint64
		name          string
		word, bytes   uint64
	}{
		{"", 0xbd3e8854da9a8c37, 0x5130dce5ba6ac037, 0xd71e63674f2ee616, "lhcy2y9rkhabiw617k75mnzdixqxgh9szdqn6yn3zqf2mp93bgf0", 0x98da764b83a81c6d, 0xd070547867437dfe},
		{"caravan", 0xd95d8d87972ced39, 0xcead749b170871b2, 0x538d59a656c16042, "3b3v7q1fr49pqd03a247yqczf3asa4c21pw4n1s4qgn4md61kxp0", 0x4ad7136f701611c6, 0x0aa60b501375b154},
		{"\xff\x00", 0x7d61f014cd4a2bb2, 0x66a7d8a84b36294d, 0x0dc9258776b2bc59, "pqkys0llbc5y2nyr94ik0syy36nfs1g2400jq04whqqai89d1wj0", 0x46eeba9b3aacb280, 0x90bd80524c1335a1},
	} {
		x := New(c.seed)
		if x[0] != c.first || x['a'] != c.a || x[255] != c.end {
			t.Errorf("seed %q: %x, %x, %x", c.seed, x[0], x['a'], x[255])
		}
		if x.Name() != c.name {
			t.Errorf("seed %q: Name is %q", c.seed, x.Name())
		}
		if x.All("caravan") != c.word || x.All(everyByte()) != c.bytes {
			t.Errorf("seed %q: All is %x and %x", c.seed, x.All("caravan"), x.All(everyByte()))
		}
	}
}

func TestTablesAreApart(t *testing.T) {
	a, b := New("s"), New("s")
	if a == b || *a != *b {
		t.Error("two tables of one seed are one, or differ")
	}
	a['x']++
	if *b != *New("s") || *a == *b {
		t.Error("one table changed another")
	}
	names := map[string]string{}
	for _, seed := range seeds() {
		name := New(seed).Name()
		if other, ok := names[name]; ok {
			t.Errorf("the tables of %q and %q have one name", seed, other)
		}
		names[name] = seed
	}
}

func TestName(t *testing.T) {
	for _, seed := range seeds() {
		x := New(seed)
		var numbers []byte
		for _, n := range x {
			numbers = binary.BigEndian.AppendUint64(numbers, n)
		}
		name := x.Name()
		if name != oid.Text(sha256.Sum256(numbers)) || name != x.Name() {
			t.Errorf("seed %q: %q", seed, name)
		}
		if *x != *New(seed) {
			t.Errorf("seed %q: Name changed the table", seed)
		}
	}
}

func TestAll(t *testing.T) {
	r := rand.New(rand.NewSource(7))
	for _, seed := range seeds() {
		x := New(seed)
		if x.All("") != 0 {
			t.Errorf("seed %q: All of nothing is %x", seed, x.All(""))
		}
		for n := range 300 {
			if s := random(r, n); x.All(s) != defined(x, s) {
				t.Errorf("seed %q: All(%q) = %x, not %x", seed, s, x.All(s), defined(x, s))
			}
		}
		// Each character takes several bytes: bytes count.
		for _, s := range []string{everyByte(), "é", "日本", "\xff\xfe", "\x00", "\x00\x00"} {
			if x.All(s) != defined(x, s) {
				t.Errorf("seed %q: All(%q) = %x, not %x", seed, s, x.All(s), defined(x, s))
			}
		}
	}
}

func TestRoll(t *testing.T) {
	x := New("caravan")
	s := random(rand.New(rand.NewSource(8)), 1000)
	r := x.Over()
	for range 3 {
		if r.Count() != 0 {
			t.Fatalf("at first %d bytes", r.Count())
		}
		for i := range len(s) {
			if got, want := r.Next(s[i]), x.All(s[:i+1]); got != want {
				t.Fatalf("Next %d: %x, not %x", i, got, want)
			}
			if r.Count() != i+1 || r.Count() != i+1 {
				t.Fatalf("Count after %d bytes: %d", i+1, r.Count())
			}
		}
		r.Reset()
	}
	r.Reset()
	if r.Count() != 0 || r.Next('a') != x['a'] {
		t.Error("a roll that was reset twice is not in its initial state")
	}
}

func TestRollsAreApart(t *testing.T) {
	x := New("caravan")
	a, b := x.Over(), x.Over()
	a.Next('a')
	if b.Count() != 0 || b.Next('b') != x['b'] || a.Next('c') != x.All("ac") || a.Count() != 2 {
		t.Error("two rolls over one table disturb each other")
	}
	b.Reset()
	if a.Next('d') != x.All("acd") || a.Count() != 3 {
		t.Error("Reset of one roll reached another")
	}
	if *x != *New("caravan") {
		t.Error("a roll changed its table")
	}
}

// What a roll has from its table does not alter the roll.
func TestRollHasItsTable(t *testing.T) {
	x := New("caravan")
	r := x.Over()
	r.Next('a')
	other := r.Over()
	other.Next('z')
	if r.Table != x || r.Name() != x.Name() || r.All("abc") != x.All("abc") || other.Table != x || other.Count() != 1 {
		t.Error("the table of a roll is another one")
	}
	if r.Count() != 1 || r.Next('b') != x.All("ab") {
		t.Error("a method of the table altered the roll")
	}
}

// P7.2: what precedes the last 64 bytes does not matter, and each of these does.
func TestLocal(t *testing.T) {
	random64 := rand.New(rand.NewSource(9))
	for _, seed := range seeds() {
		x := New(seed)
		for range 20 {
			last := random(random64, 64)
			want := x.All(last)
			for _, n := range []int{1, 2, 63, 64, 65, 500} {
				before := random(random64, n)
				if got := x.All(before + last); got != want {
					t.Errorf("seed %q: %d bytes before the last 64 matter: %x, not %x", seed, n, got, want)
				}
				r := x.Over()
				got := uint64(0)
				for _, c := range []byte(before + last) {
					got = r.Next(c)
				}
				if got != want || r.Count() != n+64 {
					t.Errorf("seed %q: %d bytes before the last 64 matter for a roll: %x, not %x", seed, n, got, want)
				}
			}
		}
	}
	x := New("caravan")
	odd, even := byte(0), byte(0)
	for c := range 256 {
		if x[c]%2 == 1 {
			odd = byte(c)
		} else {
			even = byte(c)
		}
	}
	rest := strings.Repeat("r", 63)
	if x.All(string([]byte{odd})+rest) == x.All(string([]byte{even})+rest) {
		t.Error("the 64th byte from the end on does not matter")
	}
}

func TestMask(t *testing.T) {
	for _, c := range []struct {
		n    int
		want uint64
	}{
		{math.MinInt, 0}, {-1, 0}, {0, 0}, {1, 0x8000000000000000}, {2, 0x9000000000000000}, {5, 0x9248000000000000}, {8, 0x9249240000000000},
		{16, 0x9249249249240000}, {17, 0xd249249249240000}, {32, 0xdb6db6db6db60000}, {33, 0xfb6db6db6db60000}, {47, 0xfffffffffffe0000},
		{48, 0xffffffffffff0000}, {49, 0xffffffffffff0000}, {64, 0xffffffffffff0000}, {math.MaxInt, 0xffffffffffff0000},
	} {
		if got := Mask(c.n); got != c.want {
			t.Errorf("Mask(%d) = %x, not %x", c.n, got, c.want)
		}
	}
	for i := range 48 {
		added := Mask(i+1) ^ Mask(i)
		if bits.OnesCount64(Mask(i)) != i || added != 1<<(63-3*(i%16)-i/16) {
			t.Errorf("bit %d of a mask is %x", i, added)
		}
	}
}
