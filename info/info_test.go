package info

import (
	"bytes"
	"crypto/sha256"
	"encoding/hex"
	"math"
	"math/rand"
	"slices"
	"strconv"
	"strings"
	"testing"

	"caravan/api"
	"caravan/archive"
	"caravan/cutter"
	"caravan/gear"
	"caravan/merkle"
	"caravan/oid"
	"caravan/tree"
	"caravan/weave"
)

// The signatures that the chapter lists.
var (
	_ func(Info) api.Errno                                          = Info.Check
	_ func(Info) string                                             = Info.Text
	_ func(Info) api.ID                                             = Info.Name
	_ func(string) (Info, api.Errno)                                = Parse
	_ func(tree.Item, ...api.ID) (Info, []merkle.Object, api.Errno) = Of
	_ func(x Info, s string) (tree.Item, api.Errno)                 = Info.Tree
	_ func(Info, api.ID) bool                                       = Info.Refers
	_ func(a, b Info) bool                                          = Same
	_                                                               = Info{Root: merkle.Part{}, Refs: []api.ID{}}
)

// num encodes a number as layer 4 says it.
func num(n int) string {
	digits := ""
	for ; n > 0; n >>= 8 {
		digits = string([]byte{byte(n)}) + digits
	}
	return string([]byte{byte(len(digits))}) + digits
}

// encoded encodes any info as the chapter says it.
func encoded(x Info) string {
	s := string(x.Root.ID[:]) + num(x.Root.Size) + num(len(x.Refs))
	for _, id := range x.Refs {
		s += string(id[:])
	}
	return s
}

// named computes a name as layer 2 defines it.
func named(kind byte, s string) api.ID {
	n := len(s)
	return sha256.Sum256(append([]byte{'c', 'r', 'v', kind, byte(n >> 24), byte(n >> 16), byte(n >> 8), byte(n)}, s...))
}

// up returns n names in ascending order.
func up(n int) []api.ID {
	var list []api.ID
	for i := range n {
		list = append(list, api.ID{byte(i >> 8), byte(i)})
	}
	return list
}

// sized is an info with a root of that size.
func sized(size int, refs ...api.ID) Info {
	return Info{merkle.Part{ID: api.ID{7, 31: 9}, Size: size}, refs}
}

// valid is an info that may be, without any pattern.
func valid(r *rand.Rand) Info {
	x := sized([]int{1, 255, 256, 32768, 1 + r.Intn(32768)}[r.Intn(5)])
	r.Read(x.Root.ID[:])
	for range r.Intn(9) {
		var id api.ID
		r.Read(id[:])
		x.Refs = append(x.Refs, id)
	}
	slices.SortFunc(x.Refs, func(a, b api.ID) int { return bytes.Compare(a[:], b[:]) })
	return x
}

// pattern is n bytes without repetitions nearby.
func pattern(n, k int) string {
	b := make([]byte, n)
	for i := range b {
		b[i] = byte(i * i * k >> 4)
	}
	return string(b)
}

func file(text string) tree.Item {
	return tree.Item{Kind: tree.File, Text: text}
}

// files is a directory of files with these lengths.
func files(lengths ...int) tree.Item {
	var list []tree.Entry
	for i, n := range lengths {
		list = append(list, tree.Entry{Name: "f" + strconv.Itoa(i), Item: file(pattern(n, i+3))})
	}
	return tree.Of(list...)
}

// of is Of where nothing stands in the way.
func of(t *testing.T, x tree.Item, refs ...api.ID) (Info, []merkle.Object) {
	t.Helper()
	y, objects, e := Of(x, refs...)
	if e != api.OK {
		t.Fatalf("Of: %d", e)
	}
	if e := y.Check(); e != api.OK {
		t.Fatalf("Of returned an info that may not be: %d", e)
	}
	return y, objects
}

func TestExample(t *testing.T) {
	a, b := api.ID{31: 1}, api.ID{31: 2}
	x, _ := of(t, file("a"), b, a, b)
	if !slices.Equal(x.Refs, []api.ID{a, b}) {
		t.Errorf("the references are %x", x.Refs)
	}
}

func TestCheck(t *testing.T) {
	low, high := api.ID{}, api.ID{0xff}
	for _, c := range []struct {
		what string
		info Info
		want api.Errno
	}{
		{"nothing", Info{}, api.ErrForm},
		{"size 0", sized(0), api.ErrForm},
		{"size -1", sized(-1), api.ErrForm},
		{"the least size", sized(math.MinInt), api.ErrForm},
		{"size 1", sized(1), api.OK},
		{"size 32768", sized(32768), api.OK},
		{"size 32769", sized(32769), api.ErrBig},
		{"the greatest size", sized(math.MaxInt), api.ErrBig},
		{"an empty list", sized(1, []api.ID{}...), api.OK},
		{"the zero name", sized(1, low), api.OK},
		{"two references", sized(1, low, high), api.OK},
		{"eight references", sized(1, up(8)...), api.OK},
		{"nine references", sized(1, up(9)...), api.ErrBig},
		{"very many references", sized(1, up(3000)...), api.ErrBig},
		{"equal references", sized(1, high, high), api.ErrForm},
		{"descending references", sized(1, high, low), api.ErrForm},
		{"equal ones at the end", sized(1, append(up(7), api.ID{0, 6})...), api.ErrForm},
		{"descending ones at the end", sized(1, append(up(7), api.ID{})...), api.ErrForm},
		{"ascending in the last byte", sized(1, api.ID{31: 1}, api.ID{31: 2}), api.OK},
		{"descending in the last byte", sized(1, api.ID{31: 2}, api.ID{31: 1}), api.ErrForm},
		{"bytes above 127", sized(1, api.ID{0x7f}, api.ID{0x80}), api.OK},
		{"any name of the root", Info{Root: merkle.Part{Size: 1}}, api.OK},
		// The error that the chapter names first counts.
		{"size 0 and nine references", sized(0, up(9)...), api.ErrForm},
		{"size 32769 and equal references", sized(32769, high, high), api.ErrBig},
		{"nine equal references", sized(1, make([]api.ID, 9)...), api.ErrBig},
	} {
		if got := c.info.Check(); got != c.want {
			t.Errorf("%s: %d, not %d", c.what, got, c.want)
		}
	}
}

func TestTextAndName(t *testing.T) {
	root, a, b := strings.Repeat("r", 32), strings.Repeat("a", 32), strings.Repeat("\xff", 32)
	id := func(s string) api.ID { return api.ID([]byte(s)) }
	for _, c := range []struct {
		info Info
		want string
	}{
		{Info{}, strings.Repeat("\x00", 34)},
		{Info{merkle.Part{ID: id(root), Size: 1}, nil}, root + "\x01\x01\x00"},
		{Info{merkle.Part{ID: id(root), Size: 1}, []api.ID{}}, root + "\x01\x01\x00"},
		{Info{merkle.Part{ID: id(root), Size: 32768}, []api.ID{id(a)}}, root + "\x02\x80\x00\x01\x01" + a},
		{Info{merkle.Part{ID: id(root), Size: 255}, []api.ID{id(a), id(b)}}, root + "\x01\xff\x01\x02" + a + b},
		// What may not be has an encoding, too; layer 4 says what becomes of numbers below 0.
		{Info{merkle.Part{ID: id(root), Size: -4}, []api.ID{id(b), id(a), id(a)}}, root + "\x00\x01\x03" + b + a + a},
		{Info{merkle.Part{ID: id(root), Size: 70000}, make([]api.ID, 256)}, root + "\x03\x01\x11\x70\x02\x01\x00" + strings.Repeat("\x00", 8192)},
	} {
		if got := c.info.Text(); got != c.want {
			t.Errorf("%+v: %x, not %x", c.info, got, c.want)
		}
		if got := c.info.Name(); got != named(3, c.want) {
			t.Errorf("%+v has the name %x", c.info, got)
		}
	}
}

func TestParseInvertsText(t *testing.T) {
	r := rand.New(rand.NewSource(1))
	for range 2000 {
		x := valid(r)
		if x.Check() != api.OK || x.Text() != encoded(x) || x.Name() != named(3, encoded(x)) {
			t.Fatalf("%+v: %d, %x", x, x.Check(), x.Text())
		}
		got, e := Parse(x.Text())
		if e != api.OK || got.Root != x.Root || !slices.Equal(got.Refs, x.Refs) || !Same(got, x) {
			t.Errorf("%+v became %+v, %d", x, got, e)
		}
	}
}

// refuses tells whether Parse returns an error and no info.
func refuses(t *testing.T, what, s string, want api.Errno) {
	t.Helper()
	if x, e := Parse(s); e != want || x.Root != (merkle.Part{}) || x.Refs != nil {
		t.Errorf("%s: %+v, %d, not %d", what, x, e, want)
	}
}

func TestParseRefuses(t *testing.T) {
	root, a, b := strings.Repeat("r", 32), strings.Repeat("a", 32), strings.Repeat("b", 32)
	for _, c := range []struct {
		what, s string
		want    api.Errno
	}{
		{"nothing", "", api.ErrEnd},
		{"a name that is cut off", root[1:], api.ErrEnd},
		{"no size", root, api.ErrEnd},
		{"a size that is cut off", root + "\x02\x01", api.ErrEnd},
		{"a size of nine bytes", root + "\x09", api.ErrForm},
		{"a size with a zero ahead", root + "\x02\x00\x01\x00", api.ErrForm},
		{"size 0", root + "\x00\x00", api.ErrForm},
		{"size 32769", root + "\x02\x80\x01\x00", api.ErrBig},
		{"size 2^64-1", root + "\x08\xff\xff\xff\xff\xff\xff\xff\xff\x00", api.ErrBig},
		{"no number of references", root + "\x01\x01", api.ErrEnd},
		{"a number of references that is cut off", root + "\x01\x01\x01", api.ErrEnd},
		{"a number of references with a zero ahead", root + "\x01\x01\x01\x00", api.ErrForm},
		{"a number of references of nine bytes", root + "\x01\x01\x09", api.ErrForm},
		{"nine references", root + "\x01\x01\x01\x09" + strings.Repeat(a, 9), api.ErrBig},
		{"nine references, and none of them", root + "\x01\x01\x01\x09", api.ErrBig},
		{"2^63 references", root + "\x01\x01\x08\x80\x00\x00\x00\x00\x00\x00\x00", api.ErrBig},
		{"one reference of two", root + "\x01\x01\x01\x02" + a, api.ErrEnd},
		{"a reference that is cut off", root + "\x01\x01\x01\x01" + a[1:], api.ErrEnd},
		{"two references of one", root + "\x01\x01\x01\x01" + a + b, api.ErrForm},
		{"a byte that is left", root + "\x01\x01\x00\x00", api.ErrForm},
		{"equal references", root + "\x01\x01\x01\x02" + a + a, api.ErrForm},
		{"descending references", root + "\x01\x01\x01\x02" + b + a, api.ErrForm},
		// The first error counts: layer 4's in the order of the bytes, then what is left, then Check's.
		{"size 0, and nine references", root + "\x00\x01\x09" + strings.Repeat(a, 9), api.ErrBig},
		{"size 0, and no references", root + "\x00", api.ErrEnd},
		{"size 0, and one reference of two", root + "\x00\x01\x02" + a, api.ErrEnd},
		{"size 32769, and nothing more", root + "\x02\x80\x01", api.ErrBig},
		{"size 32769, and a number of nine bytes", root + "\x02\x80\x01\x09", api.ErrBig},
		{"equal references, and a byte that is cut off", root + "\x01\x01\x01\x02" + a + a[1:], api.ErrEnd},
	} {
		refuses(t, c.what, c.s, c.want)
	}
}

// Whatever is cut off, something is wanting; whatever is added is left.
func TestParseAllOfIt(t *testing.T) {
	for _, x := range []Info{sized(1), sized(32768, up(8)...), sized(300, api.ID{1}, api.ID{2})} {
		s := x.Text()
		for i := range len(s) {
			refuses(t, "an info that is cut off", s[:i], api.ErrEnd)
		}
		for _, more := range []string{"\x00", "\x01", s, strings.Repeat("\xff", 5000)} {
			refuses(t, "an info with more", s+more, api.ErrForm)
		}
	}
}

// An info has one encoding: what Parse takes is what Text returns.
func TestParseOfAlteredBytes(t *testing.T) {
	r := rand.New(rand.NewSource(2))
	taken := 0
	for range 30000 {
		s := []byte(valid(r).Text())
		for range 1 + r.Intn(3) {
			s[min(len(s)-1, 28+r.Intn(1+r.Intn(len(s))))] = byte(r.Intn(256) >> r.Intn(9))
		}
		x, e := Parse(string(s))
		if e != api.OK {
			refuses(t, "altered bytes", string(s), e)
			continue
		}
		taken++
		if x.Check() != api.OK || x.Text() != string(s) || encoded(x) != string(s) {
			t.Errorf("%x became %+v", s, x)
		}
	}
	if taken == 0 {
		t.Error("nothing was taken")
	}
}

// The roots and names in these cases were computed by another program.
func TestKnownPaths(t *testing.T) {
	one, two := api.ID{1}, api.ID{2}
	var eight []api.ID
	for i := range 8 {
		eight = append(eight, api.ID(bytes.Repeat([]byte{byte(i)}, 32)))
	}
	for _, c := range []struct {
		tree                  tree.Item
		refs                  []api.ID
		size, chunks, objects int
		root, name            string
	}{
		{file("a"), nil, 9, 1, 2, "7d71d62d266bd2259def68845487154598df72858d78664a6c9dfad0bbf95a7e", "143aa5de4fb330dc7d7fc3c6e5ef02c279fa3a0e5668088ce8ca1e70dd924314"},
		{file("a"), []api.ID{two, one, two}, 9, 1, 2, "7d71d62d266bd2259def68845487154598df72858d78664a6c9dfad0bbf95a7e", "73f2240b1f4647f2b47aab946c8166dcd67ec98405097cea5f651ad1018506a9"},
		{tree.Item{Kind: tree.Exec, Text: "a"}, []api.ID{one}, 9, 1, 2, "9ab02d37b21bf9e4b02b4db65bbce974843281cd5f9f2d87cb2b71fd2ef3001d", "1414f88d34bbed38b07e14a1628f8ddae2128a0d7781d312114291275de8bfbc"},
		{file(""), nil, 7, 1, 2, "63114f21d197a1c8baa39bf9f5b02432fb3ec2d5bf7b0bb8b4652763e4483007", "cc3f67e192c156568edb6177eaf089f7502c827b32f206fa55996ff23cd08664"},
		{tree.Of(), nil, 7, 1, 2, "e12ac9f4177752472bfcb4a82632e709c2a7ec9648664cc66adeb1b711157ba0", "15d35ef86151b09f61240038b003a31bbc91223a4115c3d7c01cf10537799f2f"},
		{tree.Item{Kind: tree.Link, Text: "target"}, eight, 14, 1, 2, "9a72d3222639c8ffe21ce51b50044091793c62cc331f31bba8d84215bd4f372e", "b9b385549f9d4b0e74e04ba4e7f04e62099e9ac668454c875c3e7cf9fd29deb6"},
		{tree.Of(tree.Entry{Name: "a", Item: file(string(make([]byte, 1000)))}), []api.ID{one, two}, 1016, 4, 5, "ef8b8e452ae7bf26de7240364b79918135c9d5ace86e8d91e0bf8eaadb4b5634", "f5d1a09c694ce7477a2de4b35fd48049f91da40980cdd60414a56f717637b927"},
		{file(pattern(8192, 7)), []api.ID{{}}, 8201, 83, 97, "4bdb3ef8e003767a0d1fdae84c9d7e0ac1d8705cfabeace7c74d7fb1eb06d839", "7be55a8c2cbf6811c16b188f24222d5421bfde1086378a28baa91ed5d09f48b6"},
		{files(8000, 8000, 8000, 8000), []api.ID{one}, 32044, 283, 325, "b31172738358f29bfa82c7019c82af4c33afb1d27090004f064fb352cbeb4c40", "fa7624d3d4a5a6ae76b8e240205ffc0f8809bf4ad694e0273d0bc010106c337e"},
		{files(8192, 8192, 8192, 8148), nil, 32768, 289, 332, "7a6f79d012d84c7e77d60dea640cb3773180f06bcdc49b8ef3b3d467d3df4e2e", "e4ccc3bf9838537f4e6595bcb5d057724bffd8d525afec7ea350ec30adb86fa4"},
	} {
		x, objects := of(t, c.tree, c.refs...)
		name := x.Name()
		if hex.EncodeToString(x.Root.ID[:]) != c.root || x.Root.Size != c.size || hex.EncodeToString(name[:]) != c.name || len(objects) != c.objects {
			t.Errorf("%d bytes: root %x of %d bytes, name %x, %d objects", c.size, x.Root.ID, x.Root.Size, name, len(objects))
		}
		if chunks := slices.IndexFunc(objects, func(o merkle.Object) bool { return o.Kind != oid.Chunk }); chunks != c.chunks {
			t.Errorf("%d bytes: %d chunks", c.size, chunks)
		}
	}
}

// random is a tree without any pattern.
func random(r *rand.Rand) tree.Item {
	lengths := make([]int, 1+r.Intn(6))
	for i := range lengths {
		lengths[i] = r.Intn([]int{40, 400, 4000}[r.Intn(3)])
	}
	x := files(lengths...)
	if r.Intn(2) == 0 {
		b := make([]byte, r.Intn(3000))
		r.Read(b)
		x.In[0].Item.Text = string(b)
	}
	return x
}

// Through the layers: the chunks of a path are those of its archive, and the objects are those below the root over them.
func TestThroughTheLayers(t *testing.T) {
	r := rand.New(rand.NewSource(3))
	table := gear.New("caravan")
	for range 60 {
		item := random(r)
		x, objects := of(t, item)
		packed, e := archive.Write(item)
		if e != api.OK {
			t.Fatalf("Write: %d", e)
		}
		chunks := cutter.Cut(table, packed)
		root, want, e := merkle.Build(chunks...)
		if e != api.OK || x.Root != root || !slices.Equal(objects, want) {
			t.Fatalf("%d bytes: root %+v, not %+v, or other objects", len(packed), x.Root, root)
		}
		var texts []string
		stored := map[api.ID]merkle.Object{}
		for _, o := range objects {
			if stored[o.ID] = o; o.Kind == oid.Chunk {
				texts = append(texts, o.Text)
			}
		}
		if !slices.Equal(texts, chunks) || strings.Join(texts, "") != packed {
			t.Errorf("%d bytes: the chunks are not those of the archive", len(packed))
		}
		got, e := weave.All(x.Root, func(w weave.Want) (string, api.Errno) { return stored[w.Part.ID].Text, api.OK })
		if e != api.OK || got != packed {
			t.Errorf("%d bytes: the objects are not those of the archive: %d", len(packed), e)
		}
		if back, e := x.Tree(got); e != api.OK || !tree.Same(back, item) {
			t.Errorf("%d bytes: another tree, %d", len(packed), e)
		}
	}
}

func TestOfRefuses(t *testing.T) {
	big := files(8192, 8192, 8192, 8149)
	for _, c := range []struct {
		what string
		tree tree.Item
		refs []api.ID
		want api.Errno
	}{
		{"no kind", tree.Item{}, nil, api.ErrTree},
		{"a bad name", tree.Of(tree.Entry{Name: "..", Item: file("a")}), nil, api.ErrTree},
		{"an empty link", tree.Item{Kind: tree.Link}, up(2), api.ErrTree},
		{"a file that is too long", file(strings.Repeat("x", 8193)), nil, api.ErrBig},
		{"an archive that is too long", big, nil, api.ErrBig},
		{"nine references", file("a"), up(9), api.ErrBig},
		{"nine references in descending order", file("a"), backward(up(9)), api.ErrBig},
		{"nine references, each twice", file("a"), append(up(9), up(9)...), api.ErrBig},
		{"very many references", file("a"), up(5000), api.ErrBig},
		{"nine references, and no kind", tree.Item{}, up(9), api.ErrTree},
	} {
		if x, objects, e := Of(c.tree, c.refs...); e != c.want || x.Root != (merkle.Part{}) || x.Refs != nil || objects != nil {
			t.Errorf("%s: %+v, %d objects, %d, not %d", c.what, x, len(objects), e, c.want)
		}
	}
}

func backward(names []api.ID) []api.ID {
	list := slices.Clone(names)
	slices.Reverse(list)
	return list
}

func TestOfSortsReferences(t *testing.T) {
	r := rand.New(rand.NewSource(4))
	for n := range 9 {
		names := up(n)
		refs := slices.Repeat(names, 1+r.Intn(40))
		r.Shuffle(len(refs), func(i, j int) { refs[i], refs[j] = refs[j], refs[i] })
		if x, _ := of(t, file("a"), refs...); !slices.Equal(x.Refs, names) {
			t.Errorf("%d references became %x", n, x.Refs)
		}
	}
	high := []api.ID{{0x7f}, {0x80}, {0xff, 31: 1}, {0xff, 31: 0xff}}
	if x, _ := of(t, file("a"), backward(high)...); !slices.Equal(x.Refs, high) {
		t.Errorf("references with high bytes: %x", x.Refs)
	}
}

// P11.2: one name for the same tree with the same references, and different ones otherwise.
func TestOneName(t *testing.T) {
	a, b, c := api.ID{1}, api.ID{2}, api.ID{3}
	first, _ := of(t, files(10, 2000), a, b, c)
	for _, refs := range [][]api.ID{{a, b, c}, {a, c, b}, {b, a, c}, {b, c, a}, {c, a, b}, {c, b, a}, {c, c, a, b, a}} {
		if x, _ := of(t, files(10, 2000), refs...); x.Name() != first.Name() || !Same(x, first) {
			t.Errorf("%x: another name", refs)
		}
	}
	entries := files(10, 2000).In
	if x, _ := of(t, tree.Of(entries[1], entries[0]), a, b, c); x.Name() != first.Name() {
		t.Error("the order in which entries are given counts")
	}
	trees := []tree.Item{
		file(""), file("a"), file("b"), file("aa"), file("\x00"), {Kind: tree.Exec, Text: "a"}, {Kind: tree.Link, Text: "a"}, tree.Of(),
		tree.Of(tree.Entry{Name: "a", Item: file("")}), tree.Of(tree.Entry{Name: "b", Item: file("")}), tree.Of(tree.Entry{Name: "a", Item: file("a")}), tree.Of(tree.Entry{Name: "a", Item: tree.Of()}),
		files(10, 2000), files(10, 2001), files(2000, 10), files(10, 2000, 0), files(8192, 8192, 8192, 8148), files(8192, 8192, 8192, 8147),
	}
	lists := [][]api.ID{nil, {a}, {b}, {a, b}, {a, c}, {a, b, c}, {{}}, {{}, a}, up(8), up(7)}
	seen := map[api.ID][2]int{}
	for i, x := range trees {
		for j, refs := range lists {
			y, _ := of(t, x, refs...)
			if other, ok := seen[y.Name()]; ok {
				t.Errorf("tree %d with references %d has the name of %v", i, j, other)
			}
			seen[y.Name()] = [2]int{i, j}
		}
	}
}

func TestTree(t *testing.T) {
	item := files(5, 300)
	x, _ := of(t, item, api.ID{1})
	s, _ := archive.Write(item)
	if got, e := x.Tree(s); e != api.OK || !tree.Same(got, item) {
		t.Errorf("Tree: %+v, %d", got, e)
	}
	altered := strings.Replace(s, "f1", "f0", 1)
	long := strings.Repeat("x", 40000)
	for _, c := range []struct {
		what string
		info Info
		s    string
		want api.Errno
	}{
		{"a byte less at the end", x, s[:len(s)-1], api.ErrForm},
		{"a byte less at the front", x, s[1:], api.ErrForm},
		{"a byte more", x, s + "\x00", api.ErrForm},
		{"nothing", x, "", api.ErrForm},
		{"another length, above the limit", x, long, api.ErrForm},
		{"no size, and nothing", Info{}, "", api.ErrForm},
		{"a size below 0, and nothing", sized(-1), "", api.ErrForm},
		// The length is right, and the error is that of layer 6.
		{"another beginning", x, "crw" + s[3:], api.ErrForm},
		{"equal names", x, altered, api.ErrTree},
		{"bytes that are cut off", sized(len(s) - 1), s[:len(s)-1], api.ErrEnd},
		{"bytes above the limit", sized(40000), long, api.ErrBig},
		{"a kind that is too great", sized(7), "crv\x01\x01\x05\x00", api.ErrBig},
	} {
		if got, e := c.info.Tree(c.s); e != c.want || got.Kind != 0 || got.Text != "" || got.In != nil {
			t.Errorf("%s: %+v, %d, not %d", c.what, got, e, c.want)
		}
	}
	// Only the length is compared: the bytes of another tree may have it.
	if got, e := sized(len(s)).Tree(s); e != api.OK || !tree.Same(got, item) {
		t.Errorf("another root of that size: %d", e)
	}
}

func TestRefers(t *testing.T) {
	a, b, c := api.ID{1}, api.ID{2}, api.ID{31: 1}
	x := sized(1, a, b)
	if !x.Refers(a) || !x.Refers(b) || x.Refers(c) || x.Refers(api.ID{}) || x.Refers(x.Root.ID) || x.Refers(x.Name()) {
		t.Error("other references")
	}
	if sized(1).Refers(a) || sized(1).Refers(api.ID{}) || !sized(1, api.ID{}).Refers(api.ID{}) {
		t.Error("references of an info that has none, or the zero name")
	}
	if y := sized(0, b, a, a, c); !y.Refers(a) || !y.Refers(c) || y.Refers(api.ID{9}) {
		t.Error("references of an info that may not be")
	}
}

func TestSame(t *testing.T) {
	a, b := api.ID{1}, api.ID{2}
	list := []Info{{}, sized(0), sized(1), sized(2), {Root: merkle.Part{Size: 1}}, sized(1, a), sized(1, b), sized(1, a, b), sized(1, b, a), sized(1, a, a), sized(1, api.ID{})}
	for i, x := range list {
		for j, y := range list {
			if Same(x, Info{y.Root, slices.Clone(y.Refs)}) != (i == j) {
				t.Errorf("%d and %d: %v", i, j, i != j)
			}
		}
	}
	if !Same(sized(1, []api.ID{}...), Info{Root: sized(1).Root}) {
		t.Error("no references are not the same as no references")
	}
}

// K3 and K4: calls leave their arguments as they are, and their results share no memory.
func TestResultsAreApart(t *testing.T) {
	item := files(100, 700)
	kept := item.Clone()
	refs := []api.ID{{3}, {1}, {3}, {2}}
	before := slices.Clone(refs)
	x, objects := of(t, item, refs...)
	if !slices.Equal(refs, before) || !tree.Same(item, kept) {
		t.Error("Of changed its arguments")
	}
	name := x.Name()
	clear(refs)
	item.In[0].Name = "zz"
	again, second := of(t, kept, before...)
	if x.Name() != name || !Same(again, x) || !slices.Equal(objects, second) {
		t.Error("an info shares memory with arguments, or the same call has another result")
	}
	ascending := []api.ID{{1}, {2}}
	y, _ := of(t, kept, ascending...)
	if y.Refs[0] = (api.ID{9}); ascending[0] != (api.ID{1}) {
		t.Error("an info shares its references with the argument")
	}
	s := x.Text()
	a, _ := Parse(s)
	b, _ := Parse(s)
	clear(a.Refs)
	if !Same(b, x) || x.Text() != s {
		t.Error("infos share memory")
	}
	c := Info{x.Root, slices.Clone(x.Refs)}
	x.Check()
	x.Refers(api.ID{1})
	x.Tree("")
	if !Same(c, x) {
		t.Error("a call changed its info")
	}
}

func FuzzParse(f *testing.F) {
	f.Add("")
	f.Add(sized(1).Text())
	f.Add(sized(32768, up(8)...).Text())
	f.Fuzz(func(t *testing.T, s string) {
		x, e := Parse(s)
		if e != api.OK && (x.Root != (merkle.Part{}) || x.Refs != nil) {
			t.Errorf("%x: %+v, %d", s, x, e)
		}
		if e == api.OK && (encoded(x) != s || x.Check() != api.OK) {
			t.Errorf("%x became %+v", s, x)
		}
	})
}
