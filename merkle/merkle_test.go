package merkle

import (
	"crypto/sha256"
	"encoding/hex"
	"math"
	"math/rand"
	"slices"
	"strings"
	"testing"

	"caravan/api"
	"caravan/oid"
)

// The signatures that the chapter lists.
var (
	_ func(int, string) Object                    = Make
	_ func(Node) int                              = Node.Size
	_ func(Node) string                           = Node.Text
	_ func(Node) api.Errno                        = Node.Check
	_ func(string) (Node, api.Errno)              = Parse
	_ func(...string) (Part, []Object, api.Errno) = Build
	_ func(int) int                               = Depth
	_                                             = Part{ID: api.ID{}, Size: 0}
	_                                             = Node{Level: 0, Parts: []Part{}}
	_                                             = Object{Kind: 0, ID: api.ID{}, Text: ""}
)

// num encodes a number as layer 4 says it.
func num(n int) string {
	digits := ""
	for ; n > 0; n >>= 8 {
		digits = string([]byte{byte(n)}) + digits
	}
	return string([]byte{byte(len(digits))}) + digits
}

// encoded encodes any node as the chapter says it.
func encoded(n Node) string {
	s := num(n.Level) + num(len(n.Parts))
	for _, p := range n.Parts {
		s += string(p.ID[:]) + num(p.Size)
	}
	return s
}

// named computes a name as layer 2 defines it.
func named(kind byte, s string) api.ID {
	n := len(s)
	return sha256.Sum256(append([]byte{'c', 'r', 'v', kind, byte(n >> 24), byte(n >> 16), byte(n >> 8), byte(n)}, s...))
}

// sized is a node of a level whose parts have these sizes, each with a name of its own.
func sized(level int, sizes ...int) Node {
	n := Node{Level: level}
	for i, size := range sizes {
		n.Parts = append(n.Parts, Part{ID: named(1, num(i)+num(level)), Size: size})
	}
	return n
}

// limits are the most bytes of a part, level by level.
var limits = []int{256, 2048, 16384, 32768, 32768, 32768, 32768, 32768}

// valid is a node that may be, without any pattern.
func valid(r *rand.Rand) Node {
	n := Node{Level: 1 + r.Intn(8)}
	left := 32768
	for range 1 + r.Intn(8) {
		most := min(limits[n.Level-1], left)
		if most == 0 {
			break
		}
		p := Part{Size: 1 + r.Intn(most)}
		if r.Intn(4) == 0 {
			p.Size = most
		}
		r.Read(p.ID[:])
		left -= p.Size
		n.Parts = append(n.Parts, p)
	}
	return n
}

func same(a, b Node) bool {
	return a.Level == b.Level && slices.Equal(a.Parts, b.Parts)
}

// numbered is the i-th of many chunks of various lengths.
func numbered(i int) string {
	return strings.Repeat(string([]byte{byte(i % 251)}), 1+i*7%256)
}

func numberedUpTo(n int) []string {
	var chunks []string
	for i := range n {
		chunks = append(chunks, numbered(i))
	}
	return chunks
}

func TestExamples(t *testing.T) {
	root, objects, e := Build("one")
	if e != api.OK || len(objects) != 2 || objects[0].Kind != oid.Chunk || objects[1].Kind != oid.Node || root.ID != objects[1].ID || root.Size != 3 {
		t.Fatalf("one chunk: %+v, %+v, %d", root, objects, e)
	}
	if n, e := Parse(objects[1].Text); e != api.OK || !same(n, Node{1, []Part{{objects[0].ID, 3}}}) {
		t.Errorf("one chunk: %+v, %d", n, e)
	}
	root, objects, e = Build("a", "b", "c", "d", "e", "f", "g", "h", "ij")
	if e != api.OK || len(objects) != 12 || root.ID != objects[11].ID || root.Size != 10 {
		t.Fatalf("nine chunks: %+v, %+v, %d", root, objects, e)
	}
	for i, want := range []Node{{1, []Part{{objects[0].ID, 1}, {objects[1].ID, 1}, {objects[2].ID, 1}, {objects[3].ID, 1}, {objects[4].ID, 1}, {objects[5].ID, 1}, {objects[6].ID, 1}, {objects[7].ID, 1}}}, {1, []Part{{objects[8].ID, 2}}}, {2, []Part{{objects[9].ID, 8}, {objects[10].ID, 2}}}} {
		if n, e := Parse(objects[9+i].Text); e != api.OK || !same(n, want) {
			t.Errorf("nine chunks: node %d is %+v, %d", i, n, e)
		}
	}
}

func TestMake(t *testing.T) {
	for _, kind := range []int{oid.Chunk, oid.Node, oid.Path, oid.Peer, 0, 255, 256 + oid.Chunk, -1, math.MaxInt, math.MinInt} {
		for _, text := range []string{"", "x", "\x00\xff", strings.Repeat("long", 5000)} {
			if o := Make(kind, text); o != (Object{kind, named(byte(kind), text), text}) {
				t.Errorf("Make(%d, %d bytes): %d, %x, %d bytes", kind, len(text), o.Kind, o.ID, len(o.Text))
			}
		}
	}
}

func TestSize(t *testing.T) {
	for _, c := range []struct {
		node Node
		want int
	}{
		{Node{}, 0}, {Node{Level: 3, Parts: []Part{}}, 0}, {sized(1, 1), 1}, {sized(1, 256, 3, 256), 515}, {sized(4, 32768), 32768},
		{sized(9, 40000, 50000), 90000}, {sized(0, 1, 2, 3, 4, 5, 6, 7, 8, 9), 45}, {sized(1, 0, 7), 7},
	} {
		if got := c.node.Size(); got != c.want {
			t.Errorf("%+v: %d, not %d", c.node, got, c.want)
		}
	}
}

func TestText(t *testing.T) {
	a, b := strings.Repeat("a", 32), strings.Repeat("\xff", 32)
	idA, _ := oid.Take(a)
	idB, _ := oid.Take(b)
	for _, c := range []struct {
		node Node
		want string
	}{
		{Node{}, "\x00\x00"},
		{Node{Level: 1, Parts: []Part{}}, "\x01\x01\x00"},
		{Node{1, []Part{{idA, 1}}}, "\x01\x01\x01\x01" + a + "\x01\x01"},
		{Node{1, []Part{{idA, 255}, {idB, 256}}}, "\x01\x01\x01\x02" + a + "\x01\xff" + b + "\x02\x01\x00"},
		{Node{8, []Part{{idB, 32768}}}, "\x01\x08\x01\x01" + b + "\x02\x80\x00"},
		{Node{2, []Part{{idA, 1}, {idA, 1}, {idB, 1}}}, "\x01\x02\x01\x03" + a + "\x01\x01" + a + "\x01\x01" + b + "\x01\x01"},
		// What may not be has an encoding, too; layer 4 says what becomes of numbers below 0.
		{Node{-5, []Part{{idA, -1}, {idA, 0}}}, "\x00\x01\x02" + a + "\x00" + a + "\x00"},
		{Node{300, []Part{{idA, 70000}}}, "\x02\x01\x2c\x01\x01" + a + "\x03\x01\x11\x70"},
		{Node{9, make([]Part, 300)}, "\x01\x09\x02\x01\x2c" + strings.Repeat("\x00", 300*33)},
	} {
		if got := c.node.Text(); got != c.want {
			t.Errorf("%+v: %x, not %x", c.node, got, c.want)
		}
	}
	r := rand.New(rand.NewSource(1))
	for range 1000 {
		if n := valid(r); n.Text() != encoded(n) {
			t.Errorf("%+v: %x", n, n.Text())
		}
	}
}

func TestCheck(t *testing.T) {
	for _, c := range []struct {
		node Node
		want api.Errno
	}{
		{Node{}, api.ErrForm}, {Node{Level: 1}, api.ErrForm}, {Node{Level: 8, Parts: []Part{}}, api.ErrForm},
		{sized(0, 1), api.ErrForm}, {sized(-1, 1), api.ErrForm}, {sized(9, 1), api.ErrForm}, {sized(math.MaxInt, 1), api.ErrForm}, {sized(math.MinInt, 1), api.ErrForm},
		{sized(1, 1), api.OK}, {sized(8, 1), api.OK}, {sized(1, 1, 1, 1, 1, 1, 1, 1, 1), api.OK},
		{sized(1, 1, 1, 1, 1, 1, 1, 1, 1, 1), api.ErrBig}, {sized(8, 1, 1, 1, 1, 1, 1, 1, 1, 1), api.ErrBig}, {Node{1, make([]Part, 100000)}, api.ErrBig},
		{sized(1, 0), api.ErrForm}, {sized(1, -1), api.ErrForm}, {sized(4, math.MinInt), api.ErrForm}, {sized(4, math.MaxInt), api.ErrBig},
		{sized(3, 16384, 16384), api.OK}, {sized(3, 16384, 16384, 1), api.ErrBig}, {sized(4, 32767, 1), api.OK}, {sized(4, 32768, 1), api.ErrBig},
		{sized(1, 256, 256, 256, 256, 256, 256, 256, 256), api.OK}, {sized(2, 2048, 2048, 2048, 2048, 2048, 2048, 2048, 2048), api.OK},
		{sized(3, 4096, 4096, 4096, 4096, 4096, 4096, 4096, 4096), api.OK}, {sized(8, 4096, 4096, 4096, 4096, 4096, 4096, 4096, 4097), api.ErrBig},
		// The first thing that is wrong counts.
		{sized(0, 1, 1, 1, 1, 1, 1, 1, 1, 1), api.ErrForm}, {sized(9, 1, 1, 1, 1, 1, 1, 1, 1, 1), api.ErrForm}, {sized(9, 40000), api.ErrForm},
		{sized(1, 0, 1, 1, 1, 1, 1, 1, 1, 1), api.ErrBig}, {sized(1, 0, 257), api.ErrForm}, {sized(1, 257, 0), api.ErrBig}, {sized(1, 1, 1, 0, 257), api.ErrForm}, {sized(1, 1, 1, 257, 0), api.ErrBig},
		{sized(4, 32768, 32768, 0), api.ErrForm}, {sized(4, 32768, 32768, 32769, 0), api.ErrBig},
		// Parts that would have few bytes in sum only because the sum wraps round.
		{sized(8, math.MaxInt, math.MaxInt, 3), api.ErrBig}, {sized(8, math.MaxInt, math.MinInt, 2), api.ErrBig},
		// The name does not matter, and neither do repeated ones.
		{Node{1, []Part{{Size: 256}, {Size: 1}}}, api.OK},
	} {
		if got := c.node.Check(); got != c.want {
			t.Errorf("level %d, %d parts, %d bytes: %d, not %d", c.node.Level, len(c.node.Parts), c.node.Size(), got, c.want)
		}
	}
	for i, most := range limits {
		if sized(i+1, most).Check() != api.OK || sized(i+1, most+1).Check() != api.ErrBig || sized(i+1, 1, most+1).Check() != api.ErrBig {
			t.Errorf("a part of a node of level %d does not have at most %d bytes", i+1, most)
		}
	}
}

func TestParseInvertsText(t *testing.T) {
	r := rand.New(rand.NewSource(2))
	for range 3000 {
		n := valid(r)
		if e := n.Check(); e != api.OK {
			t.Fatalf("%+v may not be: %d", n, e)
		}
		if got, e := Parse(n.Text()); e != api.OK || !same(got, n) {
			t.Errorf("%+v became %+v, %d", n, got, e)
		}
	}
}

// refuses tells whether Parse returns an error and no node.
func refuses(t *testing.T, what, s string, want api.Errno) {
	t.Helper()
	if n, e := Parse(s); e != want || n.Level != 0 || n.Parts != nil {
		t.Errorf("%s: %+v, %d, not %d", what, n, e, want)
	}
}

func TestParseRefuses(t *testing.T) {
	id := strings.Repeat("i", 32)
	part := id + "\x01\x01"
	for _, c := range []struct {
		what, s string
		want    api.Errno
	}{
		{"nothing", "", api.ErrEnd},
		{"a level of nine bytes", "\x09", api.ErrForm},
		{"a level that is cut off", "\x01", api.ErrEnd},
		{"a level with a zero ahead", "\x01\x00\x01\x01" + part, api.ErrForm},
		{"a level with a zero ahead of it", "\x02\x00\x01\x01\x01" + part, api.ErrForm},
		{"level 9", "\x01\x09\x01\x01" + part, api.ErrBig},
		{"level 9, and nothing more", "\x01\x09", api.ErrBig},
		{"level 2^64-1", "\x08\xff\xff\xff\xff\xff\xff\xff\xff", api.ErrBig},
		{"level 0", "\x00\x01\x01" + part, api.ErrForm},
		{"no number of parts", "\x01\x01", api.ErrEnd},
		{"a number of parts that is cut off", "\x01\x01\x02\x01", api.ErrEnd},
		{"a number of parts with a zero ahead", "\x01\x01\x02\x00\x01" + part, api.ErrForm},
		{"no parts", "\x01\x01\x00", api.ErrForm},
		{"nine parts", "\x01\x01\x01\x09" + strings.Repeat(part, 9), api.ErrBig},
		{"nine parts, and none of them", "\x01\x01\x01\x09", api.ErrBig},
		{"2^63 parts", "\x01\x01\x08\x80\x00\x00\x00\x00\x00\x00\x00", api.ErrBig},
		{"no part", "\x01\x01\x01\x01", api.ErrEnd},
		{"a name that is cut off", "\x01\x01\x01\x01" + id[1:], api.ErrEnd},
		{"no size", "\x01\x01\x01\x01" + id, api.ErrEnd},
		{"a size that is cut off", "\x01\x01\x01\x01" + id + "\x02\x01", api.ErrEnd},
		{"a size of nine bytes", "\x01\x01\x01\x01" + id + "\x09", api.ErrForm},
		{"a size with a zero ahead", "\x01\x01\x01\x01" + id + "\x02\x00\x01", api.ErrForm},
		{"size 0", "\x01\x01\x01\x01" + id + "\x00", api.ErrForm},
		{"size 257 at level 1", "\x01\x01\x01\x01" + id + "\x02\x01\x01", api.ErrBig},
		{"size 32769", "\x01\x08\x01\x01" + id + "\x02\x80\x01", api.ErrBig},
		{"size 2^64-1", "\x01\x08\x01\x01" + id + "\x08\xff\xff\xff\xff\xff\xff\xff\xff", api.ErrBig},
		{"one part of two", "\x01\x01\x01\x02" + part, api.ErrEnd},
		{"two parts of one", "\x01\x01\x01\x01" + part + part, api.ErrForm},
		{"a byte that is left", "\x01\x01\x01\x01" + part + "\x00", api.ErrForm},
		{"too many bytes in all", "\x01\x04\x01\x02" + id + "\x02\x80\x00" + part, api.ErrBig},
		// The first error counts: layer 4's in the order of the bytes, then what is left, then Check's.
		{"level 0, and a size of nine bytes", "\x00\x01\x01" + id + "\x09", api.ErrForm},
		{"level 0, and a size that is too great", "\x00\x01\x01" + id + "\x02\x80\x01", api.ErrBig},
		{"level 0, and no size", "\x00\x01\x01" + id, api.ErrEnd},
		{"size 257 at level 1, and no second part", "\x01\x01\x01\x02" + id + "\x02\x01\x01", api.ErrEnd},
		{"size 257 at level 1, and a byte that is left", "\x01\x01\x01\x01" + id + "\x02\x01\x01\x00", api.ErrForm},
		{"size 32769, and a byte that is left", "\x01\x01\x01\x01" + id + "\x02\x80\x01\x00", api.ErrBig},
		{"size 0, then size 32769", "\x01\x01\x01\x02" + id + "\x00" + id + "\x02\x80\x01", api.ErrBig},
		{"size 0, then size 257", "\x01\x01\x01\x02" + id + "\x00" + id + "\x02\x01\x01", api.ErrForm},
	} {
		refuses(t, c.what, c.s, c.want)
	}
}

// Whatever is cut off, something is wanting; whatever is added is left.
func TestParseAllOfIt(t *testing.T) {
	for _, n := range []Node{sized(1, 1), sized(1, 256, 3), sized(8, 1, 1, 1, 1, 1, 1, 1, 30000), sized(3, 300, 200)} {
		s := n.Text()
		for i := range len(s) {
			refuses(t, "a node that is cut off", s[:i], api.ErrEnd)
		}
		for _, more := range []string{"\x00", "\x01", s, strings.Repeat("\xff", 5000)} {
			refuses(t, "a node with more", s+more, api.ErrForm)
		}
	}
}

// A node has one encoding: what Parse takes is what Text returns.
func TestParseOfAlteredBytes(t *testing.T) {
	r := rand.New(rand.NewSource(3))
	taken := 0
	for range 30000 {
		s := []byte(valid(r).Text())
		for range 1 + r.Intn(3) {
			at := r.Intn(min(len(s), 4+r.Intn(len(s))))
			s[at] = byte(r.Intn(256) >> r.Intn(9))
		}
		n, e := Parse(string(s))
		if e != api.OK {
			refuses(t, "altered bytes", string(s), e)
			continue
		}
		taken++
		if n.Check() != api.OK || n.Text() != string(s) || encoded(n) != string(s) {
			t.Errorf("%x became %+v", s, n)
		}
	}
	if taken == 0 {
		t.Error("nothing was taken")
	}
}

// The roots in these cases were computed by another program.
func TestKnownRoots(t *testing.T) {
	equal := func(s string, n int) []string { return slices.Repeat([]string{s}, n) }
	for _, c := range []struct {
		chunks  []string
		root    string
		size    int
		level   int
		objects int
	}{
		{numberedUpTo(1), "9872002e62e6cb3e6a7dd5c0ed70cc6766199c6c0975303bc9b5ee6a15b09c59", 1, 1, 2},
		{numberedUpTo(8), "1d70f7570b0e29caaf65e7ae70db39f5d72fb4d8a8a76ba9fb45a16c6c14c036", 204, 1, 9},
		{numberedUpTo(9), "5ec4d9ea9309eba1b84d39d5778a8ba6f92b93e9f9b823f47050bc1fcc613c8d", 261, 2, 12},
		{numberedUpTo(64), "8152a627316d29f1624d601cf7a292dc7f56280d49b58fa5b63244f4284af88d", 7264, 2, 73},
		{numberedUpTo(65), "eea4758d5af82a628f67716c1a5d0ca9564d1c5d4ffe40de819d24b818443f39", 7457, 3, 77},
		{numberedUpTo(200), "9a7870d206fe79bfb763103b6b119be1066493ddd683b67e008403702b3e777e", 24556, 3, 230},
		{[]string{"ab", "c"}, "97bc7dd75d97de06133b8133ddc0dd74e5aca8d7b43da4b9188aa76c37a602b4", 3, 1, 3},
		{equal(strings.Repeat("x", 256), 128), "9ff55069fcc571474c72b77058aacb70ee2a17299cdf42cfa74f6930d1b798f3", 32768, 3, 147},
		{equal("y", 32768), "85f5156939ab82aa271ac9925c461e2f7e27e2ff19cd523472d83d7df929d71d", 32768, 5, 37449},
	} {
		root, objects, e := Build(c.chunks...)
		if e != api.OK || hex.EncodeToString(root.ID[:]) != c.root || root.Size != c.size || len(objects) != c.objects || Depth(len(c.chunks)) != c.level {
			t.Errorf("%d chunks: %x, %d bytes, %d objects, level %d, %d", len(c.chunks), root.ID, root.Size, len(objects), Depth(len(c.chunks)), e)
			continue
		}
		if n, e := Parse(objects[len(objects)-1].Text); e != api.OK || n.Level != c.level {
			t.Errorf("%d chunks: the last object is %+v, %d", len(c.chunks), n, e)
		}
	}
}

// defined builds all objects as the chapter says it, node by node.
func defined(chunks []string) (Part, []Object) {
	var objects []Object
	var row []Part
	for _, s := range chunks {
		objects = append(objects, Object{1, named(1, s), s})
		row = append(row, Part{named(1, s), len(s)})
	}
	for level := 1; level == 1 || len(row) > 1; level++ {
		var above []Part
		for i := 0; i < len(row); i += 8 {
			n := Node{level, row[i:min(i+8, len(row))]}
			size := 0
			for _, p := range n.Parts {
				size += p.Size
			}
			s := encoded(n)
			objects = append(objects, Object{2, named(2, s), s})
			above = append(above, Part{named(2, s), size})
		}
		row = above
	}
	return row[0], objects
}

func TestBuild(t *testing.T) {
	r := rand.New(rand.NewSource(4))
	for n := 1; n <= 600; n++ {
		var chunks []string
		for range n {
			b := make([]byte, 1+r.Intn(min(256, 32768/n)))
			r.Read(b[r.Intn(len(b)):])
			chunks = append(chunks, string(b))
		}
		before := slices.Clone(chunks)
		root, objects, e := Build(chunks...)
		wantRoot, want := defined(chunks)
		if e != api.OK || root != wantRoot || !slices.Equal(objects, want) {
			t.Fatalf("%d chunks: %+v, %d objects, %d", n, root, len(objects), e)
		}
		if !slices.Equal(chunks, before) {
			t.Fatalf("%d chunks: Build changed its argument", n)
		}
		for _, o := range objects[n:] {
			if x, e := Parse(o.Text); e != api.OK || x.Text() != o.Text {
				t.Fatalf("%d chunks: a node is no node: %d", n, e)
			}
		}
	}
}

func TestBuildIncludesRepeatedOnes(t *testing.T) {
	root, objects, e := Build(slices.Repeat([]string{"a"}, 17)...)
	if e != api.OK || len(objects) != 17+3+1 || root.Size != 17 {
		t.Fatalf("%+v, %d objects, %d", root, len(objects), e)
	}
	for i, o := range objects[:17] {
		if o != Make(oid.Chunk, "a") {
			t.Errorf("object %d: %+v", i, o)
		}
	}
	if objects[17] != objects[18] || objects[18] == objects[19] {
		t.Error("equal groups are different nodes, or different ones the same")
	}
}

func TestBuildRefuses(t *testing.T) {
	full := strings.Repeat("f", 256)
	most := slices.Repeat([]string{full}, 128)
	with := func(more ...string) []string { return append(slices.Clone(most), more...) }
	for _, c := range []struct {
		what   string
		chunks []string
		want   api.Errno
	}{
		{"nil", nil, api.ErrArg},
		{"none", []string{}, api.ErrArg},
		{"an empty one", []string{""}, api.ErrArg},
		{"an empty one at the end", []string{"a", "b", ""}, api.ErrArg},
		{"an empty one at the front", []string{"", "a"}, api.ErrArg},
		{"257 bytes", []string{full + "f"}, api.ErrArg},
		{"257 bytes at the end", []string{"a", full, full + "f"}, api.ErrArg},
		{"a huge one", []string{strings.Repeat("h", 1<<20)}, api.ErrArg},
		{"one byte too many", with("x"), api.ErrBig},
		{"256 bytes too many", with(full), api.ErrBig},
		{"too many small ones", slices.Repeat([]string{"s"}, 32769), api.ErrBig},
		{"many too many", slices.Repeat(most, 20), api.ErrBig},
		// ErrArg is named first, wherever its cause is.
		{"too many, and an empty one", with("x", ""), api.ErrArg},
		{"too many, and one of 257 bytes", with("x", full+"f"), api.ErrArg},
	} {
		if root, objects, e := Build(c.chunks...); e != c.want || root != (Part{}) || objects != nil {
			t.Errorf("%s: %+v, %d objects, %d", c.what, root, len(objects), e)
		}
	}
	if root, _, e := Build(most...); e != api.OK || root.Size != 32768 {
		t.Errorf("as many bytes as there may be: %+v, %d", root, e)
	}
}

// P9.2: the root depends on each byte, on the order, and on where chunks end.
func TestDifferentRoots(t *testing.T) {
	lists := [][]string{{"a"}, {"b"}, {"a", "a"}, {"aa"}, {"a", "b"}, {"b", "a"}, {"ab"}, {"abc"}, {"ab", "c"}, {"a", "bc"}, {"a", "b", "c"}, {"\x00"}, {"\x00", "\x00"}, {"\x00\x00"}}
	for n := 1; n <= 130; n++ {
		lists = append(lists, slices.Repeat([]string{"r"}, n))
	}
	base := numberedUpTo(100)
	lists = append(lists, base)
	for i := range base {
		changed := slices.Clone(base)
		b := []byte(changed[i])
		b[len(b)-1] ^= 0x80
		changed[i] = string(b)
		lists = append(lists, changed, slices.Delete(slices.Clone(base), i, i+1))
	}
	for i := range 99 {
		swapped := slices.Clone(base)
		swapped[i], swapped[i+1] = swapped[i+1], swapped[i]
		lists = append(lists, swapped)
	}
	// A chunk with the bytes of a node is not that node.
	_, objects, _ := Build("a", "b")
	lists = append(lists, []string{objects[2].Text})
	seen := map[api.ID]int{}
	for i, chunks := range lists {
		root, _, e := Build(chunks...)
		if e != api.OK {
			t.Fatalf("list %d: %d", i, e)
		}
		if other, ok := seen[root.ID]; ok {
			t.Errorf("lists %d and %d have one root", i, other)
		}
		seen[root.ID] = i
	}
}

func TestDepth(t *testing.T) {
	for _, c := range []struct{ chunks, want int }{
		{math.MinInt, 1}, {-1, 1}, {0, 1}, {1, 1}, {2, 1}, {8, 1}, {9, 2}, {63, 2}, {64, 2}, {65, 3}, {512, 3}, {513, 4}, {4096, 4}, {4097, 5}, {32768, 5}, {32769, 6},
		{1 << 24, 8}, {1<<24 + 1, 9}, {1 << 60, 20}, {1<<60 + 1, 21}, {math.MaxInt, 21},
	} {
		if got := Depth(c.chunks); got != c.want {
			t.Errorf("Depth(%d) = %d, not %d", c.chunks, got, c.want)
		}
	}
	for n := 1; n <= 4200; n += 1 + n/40 {
		_, objects, _ := Build(slices.Repeat([]string{"d"}, n)...)
		if root, e := Parse(objects[len(objects)-1].Text); e != api.OK || root.Level != Depth(n) {
			t.Errorf("%d chunks: the root has level %d, not %d", n, root.Level, Depth(n))
		}
	}
}

// K3 and K4: calls leave their arguments as they are, and their results share no memory.
func TestResultsAreApart(t *testing.T) {
	n := sized(2, 300, 20, 1)
	before := Node{n.Level, slices.Clone(n.Parts)}
	n.Size()
	n.Check()
	s := n.Text()
	if !same(n, before) {
		t.Error("a call changed its node")
	}
	a, _ := Parse(s)
	b, _ := Parse(s)
	a.Parts[0].Size = 7
	if n.Parts[0].Size = 9; !same(b, before) || s != before.Text() {
		t.Error("nodes share memory")
	}
	chunks := numberedUpTo(20)
	_, first, _ := Build(chunks...)
	_, second, _ := Build(chunks...)
	kept := slices.Clone(second)
	clear(first)
	clear(chunks)
	if !slices.Equal(second, kept) {
		t.Error("objects share memory")
	}
	if _, again, _ := Build(numberedUpTo(20)...); !slices.Equal(again, kept) {
		t.Error("the same chunks have other objects")
	}
}

func FuzzParse(f *testing.F) {
	f.Add("")
	f.Add(sized(1, 1, 256).Text())
	f.Add(sized(8, 32768).Text())
	f.Fuzz(func(t *testing.T, s string) {
		n, e := Parse(s)
		if e != api.OK && (n.Level != 0 || n.Parts != nil) {
			t.Errorf("%x: %+v, %d", s, n, e)
		}
		if e == api.OK && encoded(n) != s {
			t.Errorf("%x became %+v", s, n)
		}
	})
}
