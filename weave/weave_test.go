package weave

import (
	"math"
	"math/rand"
	"slices"
	"strings"
	"testing"

	"caravan/api"
	"caravan/merkle"
	"caravan/oid"
)

// The signatures that the chapter lists.
var (
	_ func(merkle.Part) *Weave                                                = New
	_ func(*Weave) bool                                                       = (*Weave).Over
	_ func(*Weave) (Want, bool)                                               = (*Weave).Next
	_ func(*Weave, string) api.Errno                                          = (*Weave).Give
	_ func(*Weave) (int, int)                                                 = (*Weave).Got
	_ func(*Weave) []Want                                                     = (*Weave).Wants
	_ func(*Weave) (string, api.Errno)                                        = (*Weave).Text
	_ func(merkle.Part, func(w Want) (string, api.Errno)) (string, api.Errno) = All
	_                                                                         = Want{Kind: 0, Part: merkle.Part{}}
)

// content is chunks, the root over them, and the bytes of all objects.
type content struct {
	chunks []string
	root   merkle.Part
	texts  map[api.ID]string
	count  int
}

func built(t *testing.T, chunks ...string) content {
	t.Helper()
	root, objects, e := merkle.Build(chunks...)
	if e != api.OK {
		t.Fatalf("%d chunks: %d", len(chunks), e)
	}
	c := content{chunks, root, map[api.ID]string{}, len(objects)}
	for _, o := range objects {
		c.texts[o.ID] = o.Text
	}
	return c
}

func (c content) all() string { return strings.Join(c.chunks, "") }

func (c content) get(w Want) (string, api.Errno) { return c.texts[w.Part.ID], api.OK }

// numbered are n chunks of various lengths.
func numbered(n int) []string {
	var chunks []string
	for i := range n {
		chunks = append(chunks, strings.Repeat(string([]byte{byte(i)}), 1+i*5%90))
	}
	return chunks
}

func partOf(kind int, text string, size int) merkle.Part {
	return merkle.Part{ID: oid.Of(kind, text), Size: size}
}

// over is the node of a level that has these parts, as a part and as bytes.
func over(level int, parts ...merkle.Part) (merkle.Part, string) {
	n := merkle.Node{Level: level, Parts: parts}
	return partOf(oid.Node, n.Text(), n.Size()), n.Text()
}

func chunk(text string) merkle.Part { return partOf(oid.Chunk, text, len(text)) }

// state is everything that the calls of a weave say of it.
type state struct {
	over           bool
	next           Want
	ok             bool
	objects, bytes int
	text           string
	e              api.Errno
}

func stateOf(w *Weave) (state, []Want) {
	s := state{over: w.Over()}
	s.next, s.ok = w.Next()
	s.objects, s.bytes = w.Got()
	s.text, s.e = w.Text()
	return s, w.Wants()
}

// gives tells whether Give returns an error and, if it does, leaves everything as it is.
func gives(t *testing.T, what string, w *Weave, text string, want api.Errno) {
	t.Helper()
	before, wants := stateOf(w)
	if e := w.Give(text); e != want {
		t.Errorf("%s: %d, not %d", what, e, want)
	}
	if want == api.OK {
		return
	}
	if after, left := stateOf(w); after != before || !slices.Equal(left, wants) {
		t.Errorf("%s: %+v became %+v", what, before, after)
	}
}

func TestExample(t *testing.T) {
	c := built(t, "ab", "c")
	w := New(c.root)
	for _, want := range []Want{{oid.Node, c.root}, {oid.Chunk, chunk("ab")}, {oid.Chunk, chunk("c")}} {
		if next, ok := w.Next(); !ok || next != want || w.Over() {
			t.Fatalf("next is %+v, %v, not %+v", next, ok, want)
		}
		gives(t, "the next object", w, c.texts[want.Part.ID], api.OK)
	}
	if s, e := w.Text(); s != "abc" || e != api.OK || !w.Over() {
		t.Errorf("%q, %d", s, e)
	}
	if s, e := All(c.root, c.get); s != "abc" || e != api.OK {
		t.Errorf("All: %q, %d", s, e)
	}
}

// Each call of a weave, step by step, over two levels.
func TestSteps(t *testing.T) {
	c := built(t, "a", "bb", "c", "d", "e", "f", "g", "h", "ij", "k")
	low := []merkle.Part{chunk("a"), chunk("bb"), chunk("c"), chunk("d"), chunk("e"), chunk("f"), chunk("g"), chunk("h")}
	first, firstText := over(1, low...)
	second, secondText := over(1, chunk("ij"), chunk("k"))
	top, topText := over(2, first, second)
	if top != c.root {
		t.Fatal("another root")
	}
	var wants []Want
	for _, p := range low {
		wants = append(wants, Want{oid.Chunk, p})
	}
	wants = append(wants, Want{oid.Node, second})
	w := New(top)
	check := func(objects, bytes int, want ...Want) {
		t.Helper()
		s, list := stateOf(w)
		if !slices.Equal(list, want) || s != (state{next: want[0], ok: true, objects: objects, bytes: bytes, e: api.ErrBusy}) {
			t.Fatalf("%+v, %+v", s, list)
		}
	}
	check(0, 0, Want{oid.Node, top})
	gives(t, "the root", w, topText, api.OK)
	check(1, 0, Want{oid.Node, first}, Want{oid.Node, second})
	gives(t, "the second node too early", w, secondText, api.ErrSum)
	gives(t, "the root again", w, topText, api.ErrSum)
	gives(t, "the first node", w, firstText, api.OK)
	check(2, 0, wants...)
	gives(t, "the second chunk too early", w, "bb", api.ErrSum)
	gives(t, "the first chunk", w, "a", api.OK)
	check(3, 1, wants[1:]...)
	gives(t, "the first chunk again", w, "a", api.ErrSum)
	for i, s := range []string{"bb", "c", "d", "e", "f", "g", "h"} {
		gives(t, "a chunk", w, s, api.OK)
		check(4+i, 3+i, wants[2+i:]...)
	}
	gives(t, "the second node", w, secondText, api.OK)
	check(11, 9, Want{oid.Chunk, chunk("ij")}, Want{oid.Chunk, chunk("k")})
	gives(t, "a chunk", w, "ij", api.OK)
	check(12, 11, Want{oid.Chunk, chunk("k")})
	gives(t, "the last chunk", w, "k", api.OK)
	if s, list := stateOf(w); s != (state{over: true, objects: 13, bytes: 12, text: "abbcdefghijk"}) || len(list) != 0 {
		t.Errorf("at the end: %+v, %+v", s, list)
	}
	for _, s := range []string{"", "k", topText} {
		gives(t, "more at the end", w, s, api.ErrIdle)
	}
}

func TestGiveRefusesOtherBytes(t *testing.T) {
	c := built(t, "abc", "d")
	text := c.texts[c.root.ID]
	w := New(c.root)
	for _, s := range []string{"", "abc", "\x00", text + "\x00", text[1:], text[:len(text)-1], strings.Repeat("x", 1<<16)} {
		gives(t, "not the root", w, s, api.ErrSum)
	}
	for i := range len(text) {
		b := []byte(text)
		b[i] ^= 1
		gives(t, "a root that was altered", w, string(b), api.ErrSum)
	}
	gives(t, "the root", w, text, api.OK)
	for _, s := range []string{"", "ab", "abd", "abcd", "ABC", "d", text} {
		gives(t, "not the chunk", w, s, api.ErrSum)
	}
	// The kind is part of a name: what a chunk is named by does not name a node with the same bytes.
	node, nodeText := over(1, chunk("x"))
	gives(t, "a node under the name of a chunk", New(partOf(oid.Chunk, nodeText, 1)), nodeText, api.ErrSum)
	top, topText := over(1, merkle.Part{ID: node.ID, Size: len(nodeText)})
	w = New(top)
	gives(t, "a node of level 1", w, topText, api.OK)
	gives(t, "a node in the place of a chunk", w, nodeText, api.ErrSum)
	gives(t, "a path in the place of a node", New(partOf(oid.Path, nodeText, 1)), nodeText, api.ErrSum)
}

// What has the right name may still be no node: Parse's errors, whatever the size of the part.
func TestGiveRefusesWhatIsNoNode(t *testing.T) {
	many := merkle.Node{Level: 1, Parts: make([]merkle.Part, 9)}.Text()
	big := merkle.Node{Level: 1, Parts: []merkle.Part{{Size: 257}}}.Text()
	none := merkle.Node{Level: 1, Parts: []merkle.Part{{Size: 0}}}.Text()
	heavy := merkle.Node{Level: 8, Parts: []merkle.Part{{Size: 32768}, {Size: 1}}}.Text()
	_, good := over(1, chunk("x"))
	for _, s := range []string{"", "x", "\x01\x01", "\x01\x01\x00", "\x00\x00", "\x01\x09", many, big, none, heavy, good + "\x00", good[:len(good)-1], strings.Repeat("\xff", 9999)} {
		_, want := merkle.Parse(s)
		if want == api.OK {
			t.Fatalf("%x is a node", s)
		}
		for _, size := range []int{1, 0, 257, 32769, len(s), -1} {
			root := partOf(oid.Node, s, size)
			gives(t, "the root", New(root), s, want)
			if size >= 1 && size <= 2048 {
				top, text := over(2, root)
				w := New(top)
				gives(t, "the root above it", w, text, api.OK)
				gives(t, "a node below the root", w, s, want)
			}
		}
	}
}

func TestGiveRefusesSizes(t *testing.T) {
	node, text := over(1, chunk("ab"), chunk("cde"))
	for _, size := range []int{0, 1, 4, 6, 256, 32768, -5, math.MaxInt, math.MinInt} {
		gives(t, "a root of another size", New(merkle.Part{ID: node.ID, Size: size}), text, api.ErrForm)
	}
	for _, size := range []int{1, 4, 6, 2048} {
		top, topText := over(2, merkle.Part{ID: node.ID, Size: size})
		w := New(top)
		gives(t, "the root", w, topText, api.OK)
		gives(t, "a node of another size", w, text, api.ErrForm)
	}
	for _, size := range []int{1, 2, 4, 256} {
		top, topText := over(1, partOf(oid.Chunk, "abc", size), chunk("d"))
		w := New(top)
		gives(t, "the root", w, topText, api.OK)
		gives(t, "a chunk of another length", w, "abc", api.ErrForm)
		gives(t, "what follows it", w, "d", api.ErrSum)
	}
	top, topText := over(1, partOf(oid.Chunk, "", 1))
	w := New(top)
	gives(t, "the root", w, topText, api.OK)
	gives(t, "an empty chunk", w, "", api.ErrForm)
}

func TestGiveRefusesLevels(t *testing.T) {
	for above := 2; above <= 8; above++ {
		for level := 1; level <= 8; level++ {
			node, text := over(level, chunk("ab"), chunk("c"))
			top, topText := over(above, node)
			w := New(top)
			gives(t, "the root", w, topText, api.OK)
			want := api.ErrForm
			if level == above-1 {
				want = api.OK
			}
			gives(t, "a node below the root", w, text, want)
		}
	}
	// The levels of all nodes count, not only of the first one.
	first, firstText := over(1, chunk("a"))
	second, secondText := over(2, first)
	top, topText := over(2, first, second)
	w := New(top)
	for _, s := range []string{topText, firstText, "a"} {
		gives(t, "what precedes", w, s, api.OK)
	}
	gives(t, "a second node of another level", w, secondText, api.ErrForm)
}

// The root may have any level, also one that Build would not have given it.
func TestRootOfAnyLevel(t *testing.T) {
	for level := 1; level <= 8; level++ {
		texts := map[api.ID]string{oid.Of(oid.Chunk, "ab"): "ab", oid.Of(oid.Chunk, "c"): "c"}
		root, text := over(1, chunk("ab"), chunk("c"), chunk("ab"))
		texts[root.ID] = text
		for l := 2; l <= level; l++ {
			root, text = over(l, root, root)
			texts[root.ID] = text
		}
		s, e := All(root, func(w Want) (string, api.Errno) { return texts[w.Part.ID], api.OK })
		if want := strings.Repeat("abcab", 1<<(level-1)); s != want || e != api.OK || root.Size != len(want) {
			t.Errorf("level %d: %q, %d", level, s, e)
		}
	}
}

// A weave of a root that cannot be is never over.
func TestImpossibleRoots(t *testing.T) {
	c := built(t, "a")
	for _, root := range []merkle.Part{{}, {Size: 1}, {ID: c.root.ID}, {ID: c.root.ID, Size: -1}, {ID: c.root.ID, Size: 32769}} {
		w := New(root)
		if next, ok := w.Next(); !ok || next != (Want{oid.Node, root}) || w.Over() {
			t.Errorf("%+v: %+v, %v", root, next, ok)
		}
		if e := w.Give(c.texts[c.root.ID]); e == api.OK || w.Over() || !slices.Equal(w.Wants(), []Want{{oid.Node, root}}) {
			t.Errorf("%+v: Give returned %d", root, e)
		}
		if s, e := All(root, c.get); s != "" || e == api.OK {
			t.Errorf("%+v: All returned %q, %d", root, s, e)
		}
	}
}

// model is a weave that remembers only what has arrived, and works everything else out anew, from the root on.
type model struct {
	root    merkle.Part
	arrived []string
}

// walk goes through an object and what is below it. It returns what is pending, and the bytes.
func (m model) walk(x Want, left *[]string) ([]Want, string) {
	if len(*left) == 0 {
		return []Want{x}, ""
	}
	text := (*left)[0]
	*left = (*left)[1:]
	if x.Kind == oid.Chunk {
		return nil, text
	}
	n, _ := merkle.Parse(text)
	kind := oid.Node
	if n.Level == 1 {
		kind = oid.Chunk
	}
	var wants []Want
	var all string
	for _, part := range n.Parts {
		more, s := m.walk(Want{kind, part}, left)
		wants = append(wants, more...)
		all += s
	}
	return wants, all
}

func (m model) state() (state, []Want) {
	left := m.arrived
	wants, text := m.walk(Want{oid.Node, m.root}, &left)
	s := state{over: len(wants) == 0, ok: len(wants) > 0, objects: len(m.arrived), bytes: len(text), text: text}
	if s.ok {
		s.next, s.text, s.e = wants[0], "", api.ErrBusy
	}
	return s, wants
}

// P10.1 to P10.3 after many sequences of calls, with right and wrong objects.
func TestModel(t *testing.T) {
	r := rand.New(rand.NewSource(5))
	for _, n := range []int{1, 2, 7, 8, 9, 16, 20, 63, 64, 65, 66, 100} {
		c := built(t, numbered(n)...)
		var texts []string
		for _, text := range c.texts {
			texts = append(texts, text)
		}
		slices.Sort(texts)
		m, w := model{root: c.root}, New(c.root)
		for !w.Over() {
			before, wants := m.state()
			if got, list := stateOf(w); got != before || !slices.Equal(list, wants) {
				t.Fatalf("%d chunks, %d objects: %+v, not %+v", n, before.objects, got, before)
			}
			checkRequests(t, c.root, before.bytes, wants)
			if other := texts[r.Intn(len(texts))]; other != c.texts[before.next.Part.ID] {
				gives(t, "another object", w, other, api.ErrSum)
			}
			text := c.texts[before.next.Part.ID]
			gives(t, "the next object", w, text, api.OK)
			m.arrived = append(m.arrived, text)
		}
		s, list := stateOf(w)
		if s != (state{over: true, objects: c.count, bytes: c.root.Size, text: c.all()}) || len(list) != 0 {
			t.Errorf("%d chunks: %d objects, %d bytes, %d", n, s.objects, s.bytes, s.e)
		}
	}
}

// checkRequests tells whether all that is pending, with what has arrived, has as many bytes as the root.
func checkRequests(t *testing.T, root merkle.Part, arrived int, wants []Want) {
	t.Helper()
	for _, x := range wants {
		arrived += x.Part.Size
		if x.Kind != oid.Node && x.Kind != oid.Chunk || x.Part.Size < 1 || x.Kind == oid.Chunk && x.Part.Size > api.MaxChunk {
			t.Errorf("%+v is pending", x)
		}
	}
	if arrived != root.Size {
		t.Errorf("%d bytes arrived or are pending, not %d", arrived, root.Size)
	}
}

// P10.3: a sender that makes up its nodes cannot make a weave request more than the root's part says.
func TestLyingSenders(t *testing.T) {
	r := rand.New(rand.NewSource(6))
	ended := 0
	for range 3000 {
		texts := map[api.ID]string{}
		root := lie(r, 1+r.Intn(4), texts)
		if r.Intn(4) == 0 {
			root.Size = max(1, root.Size+r.Intn(5)-2)
		}
		w := New(root)
		e := api.OK
		for next, ok := w.Next(); ok && e == api.OK; next, ok = w.Next() {
			_, bytes := w.Got()
			checkRequests(t, root, bytes, w.Wants())
			e = w.Give(texts[next.Part.ID])
		}
		if _, bytes := w.Got(); bytes > root.Size {
			t.Errorf("%d bytes arrived, not %d", bytes, root.Size)
		}
		if s, e := w.Text(); w.Over() {
			ended++
			if len(s) != root.Size || e != api.OK {
				t.Errorf("%d bytes, not %d; %d", len(s), root.Size, e)
			}
		}
	}
	if ended == 0 || ended == 3000 {
		t.Errorf("%d of all weaves ended", ended)
	}
}

// lie makes up a node of a level, in which sometimes a size or a level is wrong.
func lie(r *rand.Rand, level int, texts map[api.ID]string) merkle.Part {
	var parts []merkle.Part
	for range 1 + r.Intn(3) {
		var p merkle.Part
		if level == 1 {
			text := strings.Repeat("l", 1+r.Intn(9))
			p = chunk(text)
			texts[p.ID] = text
		} else {
			below := level - 1
			if r.Intn(60) == 0 {
				below = 1 + r.Intn(3)
			}
			p = lie(r, below, texts)
		}
		if r.Intn(60) == 0 {
			p.Size = max(1, p.Size+r.Intn(5)-2)
		}
		parts = append(parts, p)
	}
	p, text := over(level, parts...)
	texts[p.ID] = text
	return p
}

func TestAll(t *testing.T) {
	full := strings.Repeat("f", 256)
	for _, chunks := range [][]string{{"a"}, {"\x00"}, {"a", "a"}, numbered(8), numbered(9), numbered(64), numbered(65), numbered(250), slices.Repeat([]string{"same"}, 300), slices.Repeat([]string{full}, 128), slices.Repeat([]string{"1"}, 32768)} {
		c := built(t, chunks...)
		asked := 0
		s, e := All(c.root, func(w Want) (string, api.Errno) {
			asked++
			return c.get(w)
		})
		if s != c.all() || e != api.OK || len(s) != c.root.Size || asked != c.count {
			t.Errorf("%d chunks: %d bytes, %d, after %d objects", len(chunks), len(s), e, asked)
		}
	}
}

// get is called for each Next, in order, and not any more after the first error, its own or Give's.
func TestAllAsks(t *testing.T) {
	c := built(t, numbered(20)...)
	var order []Want
	w := New(c.root)
	for next, ok := w.Next(); ok; next, ok = w.Next() {
		order = append(order, next)
		gives(t, "the next object", w, c.texts[next.Part.ID], api.OK)
	}
	for stop := range order {
		for _, e := range []api.Errno{api.ErrUnknown, api.ErrEnd, api.ErrIdle, api.ErrBusy, api.Errno(-1), api.Errno(99)} {
			var asked []Want
			s, got := All(c.root, func(x Want) (string, api.Errno) {
				asked = append(asked, x)
				if len(asked) == stop+1 {
					return c.texts[x.Part.ID], e // the bytes beside an error do not count
				}
				return c.get(x)
			})
			if s != "" || got != e || !slices.Equal(asked, order[:stop+1]) {
				t.Errorf("error %d at object %d: %q, %d, after %d objects", e, stop, s, got, len(asked))
			}
		}
		asked := 0
		s, got := All(c.root, func(x Want) (string, api.Errno) {
			if asked++; asked == stop+1 {
				return "wrong", api.OK
			}
			return c.get(x)
		})
		if s != "" || got != api.ErrSum || asked != stop+1 {
			t.Errorf("wrong bytes for object %d: %q, %d, after %d objects", stop, s, got, asked)
		}
	}
	bad, badText := over(1, partOf(oid.Chunk, "abc", 2))
	s, e := All(bad, func(x Want) (string, api.Errno) {
		if x.Kind == oid.Node {
			return badText, api.OK
		}
		return "abc", api.OK
	})
	if s != "" || e != api.ErrForm {
		t.Errorf("a chunk of another length: %q, %d", s, e)
	}
	if s, e := All(partOf(oid.Node, "\x01\x09", 1), func(Want) (string, api.Errno) { return "\x01\x09", api.OK }); s != "" || e != api.ErrBig {
		t.Errorf("no node: %q, %d", s, e)
	}
}

// K3 and K4: results share no memory with a weave, and weaves none with each other.
func TestWeavesAreApart(t *testing.T) {
	c := built(t, numbered(20)...)
	a, b := New(c.root), New(c.root)
	gives(t, "the root", a, c.texts[c.root.ID], api.OK)
	if next, _ := b.Next(); next != (Want{oid.Node, c.root}) {
		t.Error("one weave reached another")
	}
	list := a.Wants()
	kept := slices.Clone(list)
	clear(list)
	if again := a.Wants(); !slices.Equal(again, kept) {
		t.Error("a list of a weave is the weave's own")
	}
	list = a.Wants()
	for next, ok := a.Next(); ok; next, ok = a.Next() {
		gives(t, "the next object", a, c.texts[next.Part.ID], api.OK)
	}
	if !slices.Equal(list, kept) {
		t.Error("later calls changed a list")
	}
	first, _ := a.Text()
	again, _ := a.Text()
	if first != again || first != c.all() {
		t.Error("a second Text is another one")
	}
}
