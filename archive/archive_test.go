package archive

import (
	"math"
	"math/rand"
	"reflect"
	"slices"
	"strconv"
	"strings"
	"testing"

	"caravan/api"
	"caravan/tree"
)

// The signatures that the chapter lists.
var (
	_ func(tree.Item) (string, api.Errno) = Write
	_ func(string) (tree.Item, api.Errno) = Parse
	_ func(tree.Item) int                 = Size
)

const begin = "crv\x01"

func file(text string) tree.Item { return tree.Item{Kind: tree.File, Text: text} }

func link(text string) tree.Item { return tree.Item{Kind: tree.Link, Text: text} }

// dir is a directory with its entries in the order given, right or wrong.
func dir(in ...tree.Entry) tree.Item { return tree.Item{Kind: tree.Dir, In: in} }

func named(name string, x tree.Item) tree.Entry { return tree.Entry{Name: name, Item: x} }

// within puts an item into n directories.
func within(n int, x tree.Item) tree.Item {
	for range n {
		x = dir(named("d", x))
	}
	return x
}

// wide is a directory of n items in all.
func wide(n int) tree.Item {
	x := dir()
	for i := range n - 1 {
		x.In = append(x.In, named(strconv.Itoa(1000+i), file("")))
	}
	return x
}

// num encodes a number as layer 4 says it.
func num(n int) string {
	digits := ""
	for ; n > 0; n >>= 8 {
		digits = string([]byte{byte(n)}) + digits
	}
	return string([]byte{byte(len(digits))}) + digits
}

func str(s string) string { return num(len(s)) + s }

// encoded encodes any item as the chapter says it.
func encoded(x tree.Item) string {
	if x.Kind != tree.Dir {
		return num(x.Kind) + str(x.Text)
	}
	parts := []string{num(x.Kind), num(len(x.In))}
	for _, entry := range x.In {
		parts = append(parts, str(entry.Name), encoded(entry.Item))
	}
	return strings.Join(parts, "")
}

func TestExample(t *testing.T) {
	const want = "crv\x01\x01\x01\x01\x02ab"
	if s, e := Write(file("ab")); s != want || e != api.OK {
		t.Errorf("%x, %d", s, e)
	}
	if x, e := Parse(want); e != api.OK || !tree.Same(x, file("ab")) {
		t.Errorf("%+v, %d", x, e)
	}
	if n := Size(file("ab")); n != len(want) {
		t.Errorf("%d", n)
	}
}

func TestArchives(t *testing.T) {
	long := strings.Repeat("n", api.MaxName)
	text := strings.Repeat("f", api.MaxFile)
	cases := []struct {
		item tree.Item
		want string
	}{
		{file(""), "\x01\x01\x00"},
		{file("a\x00\xff/"), "\x01\x01\x01\x04a\x00\xff/"},
		{file(text), "\x01\x01\x02\x20\x00" + text},
		{tree.Item{Kind: tree.Exec, Text: "!"}, "\x01\x02\x01\x01!"},
		{link("../x"), "\x01\x03\x01\x04../x"},
		{link(long), "\x01\x03\x01\x18" + long},
		{dir(), "\x01\x04\x00"},
		{tree.Item{Kind: tree.Dir, In: []tree.Entry{}}, "\x01\x04\x00"},
		{dir(named("a", dir()), named(long, file("x"))), "\x01\x04\x01\x02\x01\x01a\x01\x04\x00\x01\x18" + long + "\x01\x01\x01\x01x"},
		{dir(named("a", dir(named("b", link("c")))), named("d", file(""))), "\x01\x04\x01\x02\x01\x01a\x01\x04\x01\x01\x01\x01b\x01\x03\x01\x01c\x01\x01d\x01\x01\x00"},
		{within(api.MaxDepth-1, dir()), strings.Repeat("\x01\x04\x01\x01\x01\x01d", api.MaxDepth-1) + "\x01\x04\x00"},
		{wide(api.MaxItems), encoded(wide(api.MaxItems))},
	}
	for i, c := range cases {
		before := c.item.Clone()
		if s, e := Write(c.item); s != begin+c.want || e != api.OK {
			t.Errorf("case %d: %x, %d", i, s, e)
		}
		if n := Size(c.item); n != len(begin+c.want) {
			t.Errorf("case %d: size %d", i, n)
		}
		if !tree.Same(c.item, before) {
			t.Errorf("case %d: the argument has changed", i)
		}
		if x, e := Parse(begin + c.want); e != api.OK || !tree.Same(x, c.item) {
			t.Errorf("case %d: %+v, %d", i, x, e)
		}
	}
}

func TestWriteReturnsTheErrorOfCheck(t *testing.T) {
	huge := strings.Repeat("f", api.MaxPack)
	for i, x := range []tree.Item{
		{},
		{Kind: 5},
		{Kind: -1},
		{Kind: tree.Link},
		{Kind: tree.Dir, Text: "x"},
		{Kind: tree.File, In: []tree.Entry{named("a", file(""))}},
		{Kind: tree.Link, Text: huge},
		file(huge),
		dir(named("..", file(""))),
		dir(named("b", file("")), named("a", file(""))),
		dir(named("a", file("")), named("a", file(""))),
		dir(named("a", file(huge)), named("..", file(""))),
		dir(named("..", file("")), named("a", file(huge))),
		within(api.MaxDepth, file("")),
		within(api.MaxDepth, link("")),
		wide(api.MaxItems + 1),
	} {
		if s, e := Write(x); s != "" || e != x.Check() || e == api.OK {
			t.Errorf("item %d: %q, %d", i, s, e)
		}
	}
}

// packed is a tree whose archive has n bytes, a little below MaxPack or above.
func packed(n int) tree.Item {
	x := dir()
	for _, name := range []string{"a", "b", "c", "d"} {
		x.In = append(x.In, named(name, file(strings.Repeat("f", 8000))))
	}
	x.In = append(x.In, named("e", file("")))
	// The length of a longer Text takes two more bytes.
	x.In[4].Item.Text = strings.Repeat("f", n-len(begin+encoded(x))-2)
	return x
}

func TestMaxPack(t *testing.T) {
	for n := api.MaxPack - 3; n <= api.MaxPack+3; n++ {
		x := packed(n)
		if Size(x) != n || len(begin+encoded(x)) != n || x.Check() != api.OK {
			t.Fatalf("%d bytes: %d, %d, %d", n, Size(x), len(begin+encoded(x)), x.Check())
		}
		s, e := Write(x)
		y, parsed := Parse(begin + encoded(x))
		if n > api.MaxPack {
			if s != "" || e != api.ErrBig || parsed != api.ErrBig || !reflect.DeepEqual(y, tree.Item{}) {
				t.Errorf("%d bytes: %d written with %d, read with %d", n, len(s), e, parsed)
			}
		} else if s != begin+encoded(x) || e != api.OK || parsed != api.OK || !tree.Same(x, y) {
			t.Errorf("%d bytes: %d written with %d, read with %d", n, len(s), e, parsed)
		}
	}
}

func TestSizeOfItemsThatAreNotTrees(t *testing.T) {
	deep := within(1<<12, file("x"))
	for i, x := range []tree.Item{
		link(""),
		link(strings.Repeat("t", 70000)),
		file(strings.Repeat("f", 1<<20)),
		dir(named("", file("")), named("", file(""))),
		dir(named("b/c", file("1")), named("a", link("2"))),
		dir(named(strings.Repeat("n", 300), dir())),
		wide(300),
		wide(70000),
		// What an archive does not tell has no size.
		{Kind: tree.Dir, Text: "text"},
		{Kind: tree.File, Text: "text", In: []tree.Entry{named("a", file("1"))}},
		{Kind: tree.Exec, In: []tree.Entry{named("a", file("1"))}},
		{Kind: tree.Link, In: []tree.Entry{named("a", file("1"))}},
	} {
		if n, want := Size(x), len(begin+encoded(x)); n != want {
			t.Errorf("item %d: %d, not %d", i, n, want)
		}
	}
	if n, want := Size(deep), len(begin)+7<<12+len(encoded(file("x"))); n != want {
		t.Errorf("deep: %d, not %d", n, want)
	}
	for _, kind := range []int{0, 5, 256, -1, math.MaxInt, math.MinInt} {
		Size(tree.Item{Kind: kind, Text: "x", In: []tree.Entry{named("a", tree.Item{Kind: kind})}}) // must return
	}
}

// deepest is an archive up to the item in n directories.
func deepest(n int) string {
	return begin + strings.Repeat("\x01\x04\x01\x01\x01\x01d", n)
}

// crowded is an archive up to the item n of one directory, the first one being item 1.
func crowded(n int) string {
	s := begin + "\x01\x04\x01\x40"
	for i := range n - 1 {
		s += str(strconv.Itoa(1000+i)) + "\x01\x01\x00"
	}
	return s + "\x01\x01z"
}

func TestParseErrors(t *testing.T) {
	name := strings.Repeat("n", api.MaxName+1)
	text := strings.Repeat("f", api.MaxFile+1)
	cases := []struct {
		archive string
		want    api.Errno
	}{
		// The length before the beginning, and the beginning before everything else.
		{strings.Repeat("x", api.MaxPack+1), api.ErrBig},
		{begin + strings.Repeat("x", api.MaxPack-3), api.ErrBig},
		{strings.Repeat("x", api.MaxPack), api.ErrForm},
		{"", api.ErrForm},
		{"c", api.ErrForm},
		{"crv", api.ErrForm},
		{"crv\x00\x01\x01\x00", api.ErrForm},
		{"crv\x02\x01\x01\x00", api.ErrForm},
		{"CRV\x01\x01\x01\x00", api.ErrForm},
		{"xcrv\x01\x01\x01\x00", api.ErrForm},
		{"crw\x01\x01\x09", api.ErrForm},
		// The kind.
		{begin, api.ErrEnd},
		{begin + "\x01", api.ErrEnd},
		{begin + "\x02\x01", api.ErrEnd},
		{begin + "\x02\x00\x01\x00", api.ErrForm},
		{begin + "\x01\x00\x00", api.ErrForm},
		{begin + "\x09\x01\x01\x00", api.ErrForm},
		{begin + "\xff", api.ErrForm},
		{begin + "\x01\x05\x00", api.ErrBig},
		{begin + "\x01\x05", api.ErrBig},
		{begin + "\x01\xff", api.ErrBig},
		{begin + "\x08" + strings.Repeat("\xff", 8), api.ErrBig},
		{begin + "\x08\x80" + strings.Repeat("\x00", 7), api.ErrBig},
		{begin + "\x00", api.ErrForm},
		{begin + "\x00\x00", api.ErrForm},
		{begin + "\x00\x01", api.ErrForm},
		{begin + "\x00\x02\x30\x00", api.ErrForm},
		// The Text.
		{begin + "\x01\x01", api.ErrEnd},
		{begin + "\x01\x02\x01", api.ErrEnd},
		{begin + "\x01\x01\x01\x02a", api.ErrEnd},
		{begin + "\x01\x01\x02\x20\x00a", api.ErrEnd},
		{begin + "\x01\x01\x01\x00", api.ErrForm},
		{begin + "\x01\x01\x09", api.ErrForm},
		{begin + "\x01\x01" + str(text), api.ErrBig},
		{begin + "\x01\x02" + str(text), api.ErrBig},
		{begin + "\x01\x03" + str(text), api.ErrBig},
		{begin + "\x01\x01\x02\x20\x01", api.ErrBig},
		// The number of entries.
		{begin + "\x01\x04", api.ErrEnd},
		{begin + "\x01\x04\x01", api.ErrEnd},
		{begin + "\x01\x04\x01\x00", api.ErrForm},
		{begin + "\x01\x04\x0a", api.ErrForm},
		{begin + "\x01\x04\x01\x41", api.ErrBig},
		{begin + "\x01\x04\x08" + strings.Repeat("\xff", 8), api.ErrBig},
		{begin + "\x01\x04\x01\x40", api.ErrEnd},
		{begin + "\x01\x04\x01\x01", api.ErrEnd},
		// The names.
		{begin + "\x01\x04\x01\x01\x01", api.ErrEnd},
		{begin + "\x01\x04\x01\x01\x01\x02a", api.ErrEnd},
		{begin + "\x01\x04\x01\x01\x01\x00\x01\x01\x00", api.ErrForm},
		{begin + "\x01\x04\x01\x01" + str(name) + "\x01\x01\x00", api.ErrBig},
		{begin + "\x01\x04\x01\x01\x01\x01a", api.ErrEnd},
		{begin + "\x01\x04\x01\x01\x01\x01a\x01\x05", api.ErrBig},
		{begin + "\x01\x04\x01\x01\x01\x01a\x00", api.ErrForm},
		{begin + "\x01\x04\x01\x02\x01\x01a\x01\x01\x00", api.ErrEnd},
		// Bytes are left.
		{begin + "\x01\x01\x00x", api.ErrForm},
		{begin + "\x01\x04\x00\x00", api.ErrForm},
		{begin + "\x01\x04\x00\x01\x01a\x01\x01\x00", api.ErrForm},
		{begin + "\x01\x01\x00" + begin + "\x01\x01\x00", api.ErrForm},
	}
	for i, c := range cases {
		if x, e := Parse(c.archive); e != c.want || !reflect.DeepEqual(x, tree.Item{}) {
			t.Errorf("case %d: %+v, %d, not %d", i, x, e, c.want)
		}
	}
}

func TestParseLimits(t *testing.T) {
	cases := []struct {
		what    string
		archive string
		want    api.Errno
	}{
		{"the deepest item", deepest(7) + "\x01\x01\x00", api.OK},
		{"the deepest directory", deepest(7) + "\x01\x04\x00", api.OK},
		{"a file too deep", deepest(8) + "\x01\x01\x00", api.ErrBig},
		{"a directory too deep", deepest(8) + "\x01\x04\x00", api.ErrBig},
		{"far too deep", deepest(4000) + "\x01\x01\x00", api.ErrBig},
		{"the deepest item of the kind 0", deepest(7) + "\x00", api.ErrForm},
		{"too deep, the kind 0", deepest(8) + "\x00", api.ErrBig},
		{"too deep, no kind", deepest(8), api.ErrEnd},
		{"too deep, a kind of another form", deepest(8) + "\x01\x00", api.ErrForm},
		{"too deep, no Text", deepest(8) + "\x01\x01", api.ErrBig},
		{"too deep, no number of entries", deepest(8) + "\x01\x04", api.ErrBig},
		{"too deep, no name", deepest(7) + "\x01\x04\x01\x01", api.ErrEnd},
		{"the 64th item", begin + encoded(wide(64)), api.OK},
		{"the 65th item", begin + encoded(wide(65)), api.ErrBig},
		{"the 65th item, the kind 0", crowded(64) + "\x00", api.ErrBig},
		{"the 65th item, no kind", crowded(64), api.ErrEnd},
		{"the 65th item, a kind of another form", crowded(64) + "\x09", api.ErrForm},
		{"the 65th item, no Text", crowded(64) + "\x01\x01", api.ErrBig},
		{"the 64th item, the kind 0", crowded(63) + "\x00", api.ErrForm},
		{"the 65th item in another directory", begin + encoded(dir(named("a", wide(32)), named("b", wide(32)))), api.ErrBig},
		{"the 64th item in another directory", begin + encoded(dir(named("a", wide(31)), named("b", wide(32)))), api.OK},
		{"too many items, and a wrong name before", begin + encoded(dir(named("..", wide(32)), named("b", wide(32)))), api.ErrBig},
	}
	for _, c := range cases {
		x, e := Parse(c.archive)
		if e != c.want || e != api.OK && !reflect.DeepEqual(x, tree.Item{}) {
			t.Errorf("%s: %d, not %d", c.what, e, c.want)
		}
		if e == api.OK && begin+encoded(x) != c.archive {
			t.Errorf("%s: %+v", c.what, x)
		}
	}
}

func TestParseChecksTheTree(t *testing.T) {
	for i, x := range []tree.Item{
		link(""),
		link("\x00"),
		link(strings.Repeat("t", api.MaxName+1)),
		link(strings.Repeat("t", api.MaxFile)),
		dir(named("", file(""))),
		dir(named(".", file(""))),
		dir(named("..", file(""))),
		dir(named("a/b", file(""))),
		dir(named("a\x00", file(""))),
		dir(named("b", file("")), named("a", file(""))),
		dir(named("a", file("")), named("a", file(""))),
		within(7, link("")),
	} {
		s := begin + encoded(x)
		if y, e := Parse(s); e != api.ErrTree || !reflect.DeepEqual(y, tree.Item{}) {
			t.Errorf("item %d: %+v, %d", i, y, e)
		}
		if y, e := Parse(s + "x"); e != api.ErrForm || !reflect.DeepEqual(y, tree.Item{}) {
			t.Errorf("item %d, and a byte: %+v, %d", i, y, e)
		}
	}
}

// grow makes a tree without any pattern.
func grow(source *rand.Rand, depth int, left *int) tree.Item {
	*left--
	texts := []string{"a", "b/c", "\xff", "..", strings.Repeat("t", api.MaxName)}
	switch kind := 1 + source.Intn(4); {
	case depth == 1 || kind == tree.File || kind == tree.Exec:
		return tree.Item{Kind: 1 + kind%2, Text: strings.Repeat("f", source.Intn(300))}
	case kind == tree.Link:
		return link(texts[source.Intn(len(texts))])
	}
	x := dir()
	for i := range source.Intn(12) {
		if *left > 0 {
			name := string([]byte{byte('A' + 16*i)}) + strings.Repeat("n", source.Intn(api.MaxName))
			x.In = append(x.In, named(name, grow(source, depth-1, left)))
		}
	}
	return x
}

// trees returns n trees, large and small.
func trees(seed int64, n int) []tree.Item {
	source := rand.New(rand.NewSource(seed))
	var l []tree.Item
	for len(l) < n {
		left := 1 + source.Intn(api.MaxItems)
		l = append(l, grow(source, 1+source.Intn(api.MaxDepth), &left))
	}
	return l
}

func TestTreesAndBack(t *testing.T) {
	largest := 0
	for _, x := range trees(9, 2000) {
		s, e := Write(x)
		if s != begin+encoded(x) || e != api.OK || Size(x) != len(s) {
			t.Fatalf("%+v: %x, %d", x, s, e)
		}
		y, e := Parse(s)
		if e != api.OK || !tree.Same(x, y) {
			t.Fatalf("%+v: %+v, %d", x, y, e)
		}
		largest = max(largest, x.Count())
	}
	if largest < 40 {
		t.Errorf("the largest tree has %d items", largest)
	}
}

func TestPrefixesOfArchives(t *testing.T) {
	for _, x := range trees(10, 100) {
		s, _ := Write(x)
		for n := range len(s) {
			want := api.ErrEnd
			if n < len(begin) {
				want = api.ErrForm
			}
			if _, e := Parse(s[:n]); e != want {
				t.Fatalf("%d bytes of %x: %d", n, s, e)
			}
		}
		if _, e := Parse(s + "\x00"); e != api.ErrForm {
			t.Fatalf("%x and a byte: %d", s, e)
		}
	}
}

// Whatever is parsed is the one archive of its tree, and it is a tree.
func TestArchivesAreCanonical(t *testing.T) {
	source := rand.New(rand.NewSource(11))
	parsed := 0
	for _, x := range trees(12, 300) {
		s, _ := Write(x)
		for range 200 {
			b := []byte(s)
			switch i := source.Intn(len(b)); source.Intn(4) {
			case 0:
				b[i] = byte(source.Intn(6))
			case 1:
				b[i] ^= 1 << source.Intn(8)
			case 2:
				b = slices.Insert(b, i, byte(source.Intn(6)))
			default:
				b = slices.Delete(b, i, i+1)
			}
			y, e := Parse(string(b))
			if e != api.OK {
				continue
			}
			parsed++
			again, e := Write(y)
			if again != string(b) || e != api.OK || tree.Same(x, y) != (string(b) == s) {
				t.Fatalf("%x is parsed as %+v", b, y)
			}
		}
	}
	if parsed < 1000 {
		t.Errorf("only %d altered archives are archives", parsed)
	}
}

func TestParseOfAnyBytes(t *testing.T) {
	source := rand.New(rand.NewSource(13))
	for range 20000 {
		b := make([]byte, source.Intn(200))
		for i := range b {
			b[i] = []byte{0, 1, 1, 1, 2, 3, 4, 64, 'a', 255}[source.Intn(10)]
		}
		s := begin + string(b)
		x, e := Parse(s)
		if e != api.OK && !reflect.DeepEqual(x, tree.Item{}) {
			t.Fatalf("%x: %+v, %d", s, x, e)
		}
		if again, _ := Write(x); e == api.OK && again != s {
			t.Fatalf("%x: %+v", s, x)
		}
	}
}

// A result shares no memory with another one.
func TestParseTwice(t *testing.T) {
	s, _ := Write(dir(named("a", dir(named("b", file("1"))))))
	x, _ := Parse(s)
	y, _ := Parse(s)
	x.In[0].Item.In[0].Name = "z"
	x.In[0].Name = "z"
	if y.In[0].Name != "a" || y.In[0].Item.In[0].Name != "b" {
		t.Errorf("%+v", y)
	}
}
