package tree

import (
	"cmp"
	"math"
	"math/rand"
	"reflect"
	"slices"
	"strconv"
	"strings"
	"testing"

	"caravan/api"
)

// The signatures that the chapter lists.
var (
	_ func(...Entry) Item                     = Of
	_ func(Item) api.Errno                    = Item.Check
	_ func(Item) int                          = Item.Count
	_ func(a, b Item) bool                    = Same
	_ func(a, b Item) int                     = Compare
	_ func(Item, ...string) (Item, api.Errno) = Item.At
	_ func(Item) Item                         = Item.Clone
)

func file(text string) Item { return Item{Kind: File, Text: text} }

func link(text string) Item { return Item{Kind: Link, Text: text} }

// dir is a directory with its entries in the order given, right or wrong.
func dir(in ...Entry) Item { return Item{Kind: Dir, In: in} }

func named(name string, x Item) Entry { return Entry{Name: name, Item: x} }

// nested is a file within directories, depth items deep in all.
func nested(depth int) Item {
	return within(depth-1, file(""))
}

// within puts an item into n directories.
func within(n int, x Item) Item {
	for range n {
		x = dir(named("d", x))
	}
	return x
}

// wide is a directory of n items in all.
func wide(n int) Item {
	x := dir()
	for i := range n - 1 {
		x.In = append(x.In, named(strconv.Itoa(1000+i), file("")))
	}
	return x
}

// equal compares items by reflection; a nil slice and an empty slice are equivalent.
func equal(a, b Item) bool {
	return reflect.DeepEqual(plain(a), plain(b))
}

// plain is the item with nil for each empty slice.
func plain(x Item) Item {
	y := Item{Kind: x.Kind, Text: x.Text}
	for _, entry := range x.In {
		y.In = append(y.In, Entry{Name: entry.Name, Item: plain(entry.Item)})
	}
	return y
}

// scramble changes everything that can be reached through an item.
func scramble(x Item) {
	for i := range x.In {
		scramble(x.In[i].Item)
		x.In[i] = Entry{Name: "scrambled", Item: Item{Kind: -1, Text: "scrambled"}}
	}
}

func TestKinds(t *testing.T) {
	if File != 1 || Exec != 2 || Link != 3 || Dir != 4 {
		t.Error("kinds")
	}
}

func TestOf(t *testing.T) {
	a, b := named("a", file("1")), named("b", file("2"))
	cases := []struct{ in, want []Entry }{
		{nil, nil},
		{[]Entry{}, nil},
		{[]Entry{a}, []Entry{a}},
		{[]Entry{b, a}, []Entry{a, b}},
		{[]Entry{a, b}, []Entry{a, b}},
		// Entries of the same name keep their order, and names compare as bytes.
		{
			[]Entry{named("x", file("1")), b, named("x", file("0")), a, named("x", link("2"))},
			[]Entry{a, b, named("x", file("1")), named("x", file("0")), named("x", link("2"))},
		},
		{
			[]Entry{named("\xff", file("")), named("ab", file("")), named("é", file("")), named("a", file("")), named("", file("")), named("B", file(""))},
			[]Entry{named("", file("")), named("B", file("")), named("a", file("")), named("ab", file("")), named("é", file("")), named("\xff", file(""))},
		},
		// Any entries are accepted, and what is in them keeps its order.
		{
			[]Entry{named("..", dir(b, a)), named("", Item{Kind: 9, Text: "x", In: []Entry{b, a}})},
			[]Entry{named("", Item{Kind: 9, Text: "x", In: []Entry{b, a}}), named("..", dir(b, a))},
		},
	}
	for i, c := range cases {
		before := Item{In: c.in}.Clone()
		if x := Of(c.in...); !equal(x, dir(c.want...)) {
			t.Errorf("case %d: %+v", i, x)
		}
		if !equal(Item{In: c.in}, before) {
			t.Errorf("case %d: the argument has changed: %+v", i, c.in)
		}
	}
}

func TestOfIsStableForManyEntries(t *testing.T) {
	var l []Entry
	for i := range 500 {
		l = append(l, named(strconv.Itoa(i*7%5), file(strconv.Itoa(1000+i))))
	}
	x := Of(l...)
	if len(x.In) != len(l) || !slices.IsSortedFunc(x.In, func(a, b Entry) int {
		return cmp.Or(cmp.Compare(a.Name, b.Name), cmp.Compare(a.Item.Text, b.Item.Text))
	}) {
		t.Error("entries of the same name do not keep their order")
	}
}

func TestOfSharesNoMemory(t *testing.T) {
	l := []Entry{named("a", dir(named("b", dir(named("c", file("1"))))))}
	x := Of(l...)
	want := x.Clone()
	scramble(dir(l...))
	if !equal(x, want) {
		t.Errorf("changed by a change of the argument: %+v", x)
	}
	y := Of(want.In...)
	kept := want.Clone()
	scramble(y)
	if !equal(want, kept) {
		t.Errorf("the argument is changed by a change of the result: %+v", want)
	}
}

func TestCheckNames(t *testing.T) {
	long := strings.Repeat("n", api.MaxName)
	for _, name := range []string{"a", "...", ".a", "a.", "..a", " ", "\n", "\xff\xfe", "\x01", "é", "\\", long} {
		if e := dir(named(name, file(""))).Check(); e != api.OK {
			t.Errorf("name %q: %d", name, e)
		}
	}
	for _, name := range []string{"", ".", "..", "/", "a/b", "/a", "a/", "\x00", "a\x00", "\x00a", "a\x00b", "\xff/", "\xff\x00", long + "n", long[1:] + "/", long[1:] + "\x00", strings.Repeat("n", 1000)} {
		if e := dir(named(name, file(""))).Check(); e != api.ErrTree {
			t.Errorf("name %q: %d", name, e)
		}
		if e := dir(named("\x01", file("")), named(name, file(""))).Check(); e != api.ErrTree {
			t.Errorf("second name %q: %d", name, e)
		}
	}
}

func TestCheckOrderOfNames(t *testing.T) {
	cases := []struct {
		names string
		want  api.Errno
	}{
		{"a b c", api.OK},
		{"a ab b", api.OK},
		{"B a", api.OK},
		{"z \x7f \x80 \xff", api.OK},
		{"a a", api.ErrTree},
		{"b a", api.ErrTree},
		{"ab a", api.ErrTree},
		{"a c b", api.ErrTree},
		{"a b b", api.ErrTree},
		{"a B", api.ErrTree},
		{"\x80 \x7f", api.ErrTree},
	}
	for _, c := range cases {
		x := dir()
		for _, name := range strings.Fields(c.names) {
			x.In = append(x.In, named(name, file("")))
		}
		if e := x.Check(); e != c.want {
			t.Errorf("names %q: %d, not %d", c.names, e, c.want)
		}
		if e := dir(named("x", x)).Check(); e != c.want {
			t.Errorf("names %q in a directory: %d, not %d", c.names, e, c.want)
		}
	}
	// Each directory has an order of its own.
	if e := dir(named("m", dir(named("z", file("")))), named("n", dir(named("a", file(""))))).Check(); e != api.OK {
		t.Errorf("two directories: %d", e)
	}
}

func TestCheckItems(t *testing.T) {
	in := []Entry{named("a", file(""))}
	long := strings.Repeat("t", api.MaxName)
	full := strings.Repeat("f", api.MaxFile)
	cases := []struct {
		item Item
		want api.Errno
	}{
		{Item{Kind: File}, api.OK},
		{Item{Kind: File, In: []Entry{}}, api.OK},
		{Item{Kind: File, Text: "a\x00/\xff"}, api.OK},
		{Item{Kind: File, Text: full}, api.OK},
		{Item{Kind: File, Text: full + "f"}, api.ErrBig},
		{Item{Kind: File, In: in}, api.ErrTree},
		{Item{Kind: File, Text: full + "f", In: in}, api.ErrTree},
		{Item{Kind: Exec}, api.OK},
		{Item{Kind: Exec, Text: full}, api.OK},
		{Item{Kind: Exec, Text: full + "f"}, api.ErrBig},
		{Item{Kind: Exec, In: in}, api.ErrTree},
		{Item{Kind: Link, Text: "a"}, api.OK},
		{Item{Kind: Link, Text: "a", In: []Entry{}}, api.OK},
		{Item{Kind: Link, Text: "../a//b"}, api.OK},
		{Item{Kind: Link, Text: long}, api.OK},
		{Item{Kind: Link}, api.ErrTree},
		{Item{Kind: Link, Text: long + "t"}, api.ErrTree},
		{Item{Kind: Link, Text: full + "f"}, api.ErrTree},
		{Item{Kind: Link, Text: "\x00"}, api.ErrTree},
		{Item{Kind: Link, Text: "a\x00b"}, api.ErrTree},
		{Item{Kind: Link, Text: long[1:] + "\x00"}, api.ErrTree},
		{Item{Kind: Link, Text: "a", In: in}, api.ErrTree},
		{Item{Kind: Dir}, api.OK},
		{Item{Kind: Dir, In: []Entry{}}, api.OK},
		{Item{Kind: Dir, In: in}, api.OK},
		{Item{Kind: Dir, Text: "a"}, api.ErrTree},
		{Item{Kind: Dir, Text: "\x00", In: in}, api.ErrTree},
		{Item{Kind: Dir, Text: full + "f"}, api.ErrTree},
		{Item{}, api.ErrTree},
		{Item{Kind: 5}, api.ErrTree},
		{Item{Kind: -1}, api.ErrTree},
		{Item{Kind: math.MaxInt, Text: full + "f"}, api.ErrTree},
		{Item{Kind: math.MinInt, In: in}, api.ErrTree},
	}
	for i, c := range cases {
		if e := c.item.Check(); e != c.want {
			t.Errorf("case %d: %d, not %d", i, e, c.want)
		}
		if e := within(api.MaxDepth-2, c.item).Check(); e != c.want {
			t.Errorf("case %d, deep: %d, not %d", i, e, c.want)
		}
	}
}

func TestCheckLimits(t *testing.T) {
	full := wide(api.MaxItems)
	split := dir(named("a", wide(31)), named("b", wide(32)))
	cases := []struct {
		what string
		item Item
		want api.Errno
	}{
		{"the deepest file", nested(api.MaxDepth), api.OK},
		{"the deepest directory", within(api.MaxDepth-1, dir()), api.OK},
		{"a file too deep", nested(api.MaxDepth + 1), api.ErrBig},
		{"a directory too deep", within(api.MaxDepth, dir()), api.ErrBig},
		{"a link too deep", within(api.MaxDepth, link("a")), api.ErrBig},
		{"far too deep", nested(1000), api.ErrBig},
		{"the most items", full, api.OK},
		{"the most items in two directories", split, api.OK},
		{"too many items", wide(api.MaxItems + 1), api.ErrBig},
		{"too many items in two directories", dir(named("a", wide(32)), named("b", wide(32))), api.ErrBig},
		{"far too many items", wide(2000), api.ErrBig},
	}
	for _, c := range cases {
		if e := c.item.Check(); e != c.want {
			t.Errorf("%s: %d, not %d", c.what, e, c.want)
		}
	}
}

func TestCheckReturnsTheFirstError(t *testing.T) {
	big := file(strings.Repeat("f", api.MaxFile+1))
	bad := Item{Kind: 7}
	wrong := named("..", file(""))
	many := wide(100)
	manyAndBad := wide(100)
	manyAndBad.In = append(manyAndBad.In, wrong)
	cases := []struct {
		what string
		item Item
		want api.Errno
	}{
		{"an item before the next entry", dir(named("a", big), wrong), api.ErrBig},
		{"an item before the next item", dir(named("a", big), named("b", bad)), api.ErrBig},
		{"the other order", dir(named("a", bad), named("b", big)), api.ErrTree},
		{"a name before its item", dir(named("/", big)), api.ErrTree},
		{"the order of names before the item", dir(named("a", file("")), named("a", big)), api.ErrTree},
		{"an item before what is in it", Item{Kind: Dir, Text: "x", In: []Entry{named("a", big)}}, api.ErrTree},
		{"everything in an item before the next entry", dir(named("a", dir(named("a", dir(named("a", big))))), wrong), api.ErrBig},
		{"names of deep entries before later items", dir(named("a", dir(wrong)), named("b", big)), api.ErrTree},
		{"kind before depth", within(api.MaxDepth, bad), api.ErrTree},
		{"link before depth", within(api.MaxDepth, link("")), api.ErrTree},
		{"name before depth", within(api.MaxDepth-1, dir(wrong)), api.ErrTree},
		{"depth before what is deeper", within(api.MaxDepth, dir(wrong)), api.ErrBig},
		{"depth before later entries", dir(named("a", within(api.MaxDepth, file(""))), wrong), api.ErrBig},
		{"everything before the number of items", manyAndBad, api.ErrTree},
		{"also if the bad item comes last", dir(named("a", many), named("b", bad)), api.ErrTree},
	}
	for _, c := range cases {
		if e := c.item.Check(); e != c.want {
			t.Errorf("%s: %d, not %d", c.what, e, c.want)
		}
	}
}

// faults lists all errors of an item in the chapter's order, as a slow model of Check.
func faults(x Item, depth int) []api.Errno {
	var l []api.Errno
	add := func(bad bool, e api.Errno) {
		if bad {
			l = append(l, e)
		}
	}
	dirs, links := x.Kind == Dir, x.Kind == Link
	add(!slices.Contains([]int{File, Exec, Link, Dir}, x.Kind), api.ErrTree)
	add(!dirs && len(x.In) > 0, api.ErrTree)
	add(dirs && len(x.Text) > 0, api.ErrTree)
	add(links && (len(x.Text) == 0 || len(x.Text) > 24 || slices.Contains([]byte(x.Text), 0)), api.ErrTree)
	add(len(x.Text) > 8192, api.ErrBig)
	add(depth > 8, api.ErrBig)
	for i, entry := range x.In {
		name := []byte(entry.Name)
		add(len(name) == 0 || len(name) > 24 || slices.Contains(name, '/') || slices.Contains(name, 0), api.ErrTree)
		add(entry.Name == "." || entry.Name == "..", api.ErrTree)
		add(i > 0 && slices.Compare(name, []byte(x.In[i-1].Name)) <= 0, api.ErrTree)
		l = append(l, faults(entry.Item, depth+1)...)
	}
	return l
}

// items counts with a list instead of a recursion.
func items(x Item) int {
	queue := []Item{x}
	for i := 0; i < len(queue); i++ {
		for _, entry := range queue[i].In {
			queue = append(queue, entry.Item)
		}
	}
	return len(queue)
}

// grow makes an item without any pattern, which is seldom quite a tree.
func grow(source *rand.Rand, depth int) Item {
	texts := []string{"", "a", "b", "ab", "\x00", "\xff", strings.Repeat("t", 24), strings.Repeat("t", 25), strings.Repeat("t", 8192), strings.Repeat("t", 8193)}
	pick := func(rare int) string {
		if source.Intn(rare) > 0 {
			return texts[1+source.Intn(3)]
		}
		return texts[source.Intn(len(texts))]
	}
	if depth == 0 || source.Intn(3) == 0 {
		x := Item{Kind: 1 + source.Intn(3), Text: pick(10)}
		if source.Intn(40) == 0 {
			x.Kind = source.Intn(8) - 1
		}
		return x
	}
	x := dir()
	if source.Intn(40) == 0 {
		x.Text = pick(2)
	}
	for i := range source.Intn(4) {
		name := string(rune('a' + i + source.Intn(3)/2))
		if source.Intn(40) == 0 {
			name = []string{"", ".", "..", "a/b", "\x00", "a", "z", strings.Repeat("n", 24), strings.Repeat("n", 25)}[source.Intn(9)]
		}
		x.In = append(x.In, named(name, grow(source, depth-1)))
	}
	return x
}

func TestCheckAndCountOfRandomItems(t *testing.T) {
	source := rand.New(rand.NewSource(6))
	seen := map[api.Errno]int{}
	for range 20000 {
		x := grow(source, source.Intn(11))
		if x.Count() != items(x) {
			t.Fatalf("%d items, not %d", x.Count(), items(x))
		}
		want := api.OK
		if items(x) > 64 {
			want = api.ErrBig
		}
		if l := faults(x, 1); len(l) > 0 {
			want = l[0]
		}
		before := x.Clone()
		if e := x.Check(); e != want || !equal(x, before) {
			t.Fatalf("%+v: %d, not %d", x, e, want)
		}
		seen[want]++
	}
	if seen[api.OK] < 1000 || seen[api.ErrTree] < 1000 || seen[api.ErrBig] < 200 {
		t.Errorf("the items are too much alike: %v", seen)
	}
}

func TestCount(t *testing.T) {
	cases := []struct {
		item Item
		want int
	}{
		{Item{}, 1},
		{file("a"), 1},
		{dir(), 1},
		{dir(named("a", file("")), named("a", dir(named("..", Item{})))), 4},
		{Item{Kind: File, In: []Entry{named("a", file(""))}}, 2},
		{wide(2000), 2000},
		{nested(1 << 16), 1 << 16},
	}
	for i, c := range cases {
		if n := c.item.Count(); n != c.want {
			t.Errorf("case %d: %d, not %d", i, n, c.want)
		}
	}
}

// token is a part of an item, written out from left to right.
type token struct {
	number int
	text   string
}

// tokens writes an item out such that the order of items is the lexicographic order of lists: the end of a directory comes before a further entry.
func tokens(x Item) []token {
	l := []token{{number: x.Kind}, {text: x.Text}}
	for _, entry := range x.In {
		l = append(l, token{number: 1}, token{text: entry.Name})
		l = append(l, tokens(entry.Item)...)
	}
	return append(l, token{})
}

func compareTokens(a, b []token) int {
	return slices.CompareFunc(a, b, func(a, b token) int {
		return cmp.Or(cmp.Compare(a.number, b.number), slices.Compare([]byte(a.text), []byte(b.text)))
	})
}

// ascending are items in the chapter's order, each less than the next.
func ascending() []Item {
	in := []Entry{named("a", file("1"))}
	return []Item{
		{Kind: math.MinInt},
		{Kind: -1, Text: "z"},
		{},
		{In: in},
		{Kind: File},
		{Kind: File, In: in},
		{Kind: File, Text: "a"},
		{Kind: File, Text: "a", In: in},
		{Kind: File, Text: "a\x00"},
		{Kind: File, Text: "ab"},
		{Kind: File, Text: "b"},
		{Kind: File, Text: "\x80"},
		{Kind: File, Text: "\xff"},
		{Kind: Exec},
		{Kind: Link, Text: "a"},
		dir(),
		dir(named("", dir())),
		dir(named("a", file("1"))),
		dir(named("a", file("1")), named("a", file("1"))),
		dir(named("a", file("1")), named("b", file("1"))),
		dir(named("a", file("2"))),
		dir(named("a", link("0"))),
		dir(named("a", dir())),
		dir(named("a", dir()), named("b", file(""))),
		dir(named("a", dir(named("a", file(""))))),
		dir(named("aa", file(""))),
		dir(named("b", file("")), named("a", file(""))),
		{Kind: Dir, Text: "a"},
		{Kind: 5},
		{Kind: math.MaxInt},
	}
}

func TestCompareAndSame(t *testing.T) {
	l := ascending()
	for i, a := range l {
		for j, b := range l {
			if order := Compare(a, b); order != cmp.Compare(i, j) {
				t.Errorf("items %d and %d: %d", i, j, order)
			}
			if Same(a, b) != (i == j) {
				t.Errorf("items %d and %d: same %v", i, j, i != j)
			}
		}
		if Compare(a, a.Clone()) != 0 || !Same(a.Clone(), a) {
			t.Errorf("item %d is not equal to its clone", i)
		}
	}
	if !Same(Item{Kind: Dir, In: []Entry{}}, Item{Kind: Dir}) || Compare(Item{Kind: Dir}, Item{Kind: Dir, In: []Entry{}}) != 0 {
		t.Error("an empty slice and nil differ")
	}
	deep, other := nested(1<<16), within(1<<16-1, file("x"))
	if Compare(deep, other) != -1 || Compare(other, deep) != 1 || Same(deep, other) || !Same(deep, nested(1<<16)) {
		t.Error("deep items")
	}
}

func TestCompareIsATotalOrder(t *testing.T) {
	source := rand.New(rand.NewSource(7))
	equals := 0
	for range 20000 {
		a, b, c := grow(source, source.Intn(4)), grow(source, source.Intn(4)), grow(source, source.Intn(4))
		if source.Intn(4) == 0 {
			b = a.Clone()
			touch(source, b)
		}
		order := Compare(a, b)
		if order != compareTokens(tokens(a), tokens(b)) || order != -Compare(b, a) {
			t.Fatalf("%+v and %+v: %d", a, b, order)
		}
		if (order == 0) != equal(a, b) || Same(a, b) != equal(a, b) {
			t.Fatalf("%+v and %+v: %d, same %v", a, b, order, Same(a, b))
		}
		if order <= 0 && Compare(b, c) <= 0 && Compare(a, c) > 0 {
			t.Fatalf("not transitive: %+v, %+v, %+v", a, b, c)
		}
		if order == 0 {
			equals++
		}
	}
	if equals < 500 {
		t.Errorf("only %d equal pairs", equals)
	}
}

// touch changes at most one entry somewhere within an item.
func touch(source *rand.Rand, x Item) {
	if len(x.In) == 0 {
		return
	}
	entry := &x.In[source.Intn(len(x.In))]
	switch source.Intn(4) {
	case 0:
		entry.Name += "'"
	case 1:
		entry.Item.Text += "'"
	case 2:
		entry.Item.Kind++
	default:
		touch(source, entry.Item)
	}
}

func TestAt(t *testing.T) {
	a := file("1")
	x := dir(
		named("z", link("q")),
		named("lib", dir(named("a", a), named("", dir(named("/", Item{Kind: 9}))))),
		named("twice", dir(named("first", a))),
		named("twice", dir(named("second", a))),
		named("odd", Item{Kind: File, Text: "t", In: []Entry{named("in", a)}}),
	)
	cases := []struct {
		names []string
		want  Item
	}{
		{nil, x},
		{[]string{}, x},
		{[]string{"z"}, link("q")},
		{[]string{"lib"}, x.In[1].Item},
		{[]string{"lib", "a"}, a},
		{[]string{"lib", "", "/"}, Item{Kind: 9}},
		{[]string{"twice", "first"}, a},
		{[]string{"odd", "in"}, a},
	}
	for _, c := range cases {
		if y, e := x.At(c.names...); e != api.OK || !equal(y, c.want) {
			t.Errorf("%q: %+v, %d", c.names, y, e)
		}
	}
	for _, names := range [][]string{{""}, {"a"}, {"Lib"}, {"li"}, {"lib/a"}, {"lib", "b"}, {"lib", "a", ""}, {"lib", "a", "a"}, {"z", "q"}, {"no", "a"}, {"lib", "lib"}, {"twice", "second"}} {
		if y, e := x.At(names...); e != api.ErrUnknown || !reflect.DeepEqual(y, Item{}) {
			t.Errorf("%q: %+v, %d", names, y, e)
		}
	}
	if y, e := file("a").At(); e != api.OK || !equal(y, file("a")) {
		t.Errorf("no names: %+v, %d", y, e)
	}
	if y, e := nested(1 << 16).At(slices.Repeat([]string{"d"}, 1<<16-1)...); e != api.OK || !equal(y, file("")) {
		t.Errorf("deep: %+v, %d", y, e)
	}
}

func TestAtSharesNoMemory(t *testing.T) {
	x := dir(named("a", dir(named("b", dir(named("c", file("1")))))))
	want := x.Clone()
	for _, names := range [][]string{nil, {"a"}, {"a", "b"}} {
		y, _ := x.At(names...)
		scramble(y)
		if !equal(x, want) {
			t.Fatalf("%q: changed by a change of the result: %+v", names, x)
		}
	}
}

func TestClone(t *testing.T) {
	source := rand.New(rand.NewSource(8))
	for range 2000 {
		x := grow(source, source.Intn(6))
		y, z := x.Clone(), x.Clone()
		if !equal(x, y) {
			t.Fatalf("%+v is not %+v", y, x)
		}
		scramble(y)
		if !equal(x, z) {
			t.Fatalf("changed by a change of its clone: %+v", x)
		}
		want := z.Clone()
		scramble(x)
		if !equal(z, want) {
			t.Fatalf("a clone is changed by a change of the item: %+v", z)
		}
	}
	if y := nested(1 << 16).Clone(); y.Count() != 1<<16 {
		t.Error("deep")
	}
}

// One slice may occur twice within an item; a clone has two.
func TestCloneOfSharedSlices(t *testing.T) {
	in := []Entry{named("a", file("1"))}
	x := dir(named("x", dir(in...)), named("y", dir(in...)))
	for _, y := range []Item{x.Clone(), Of(x.In...)} {
		y.In[0].Item.In[0].Name = "b"
		if y.In[1].Item.In[0].Name != "a" {
			t.Error("two directories of a clone share their entries")
		}
	}
}
