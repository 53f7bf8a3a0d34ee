package reap

import (
	"bytes"
	"encoding/binary"
	"math/rand"
	"slices"
	"strings"
	"testing"

	"caravan/api"
	"caravan/book"
	"caravan/info"
	"caravan/merkle"
	"caravan/oid"
	"caravan/registry"
	"caravan/tree"
)

// The signatures that the chapter lists.
var (
	_ func(Source, ...api.ID) []api.ID                = Reach
	_ func(Source, ...api.ID) []api.ID                = Objects
	_ func(*registry.Registry, Source) []api.ID       = Live
	_ func(*registry.Registry, Source) []api.ID       = Dead
	_ func(Source, api.ID) api.Errno                  = Whole
	_ func(Source, api.ID) (merkle.Object, api.Errno) = Source.Get
)

// shelf is a source that has these objects. A name with an object of kind failing has that error instead.
type shelf map[api.ID]merkle.Object

const failing = -1

func (s shelf) Get(id api.ID) (merkle.Object, api.Errno) {
	o, found := s[id]
	if !found {
		return merkle.Object{}, api.ErrUnknown
	}
	if o.Kind == failing {
		return merkle.Object{}, api.Errno(len(o.Text))
	}
	return o, api.OK
}

// fail makes Get of these names return an error.
func (s shelf) fail(e api.Errno, l ...api.ID) {
	for _, id := range l {
		s[id] = merkle.Object{Kind: failing, Text: strings.Repeat("!", int(e))}
	}
}

func (s shelf) put(l ...merkle.Object) {
	for _, o := range l {
		s[o.ID] = o
	}
}

// without is a copy of the source that lacks these.
func (s shelf) without(l ...api.ID) shelf {
	rest := shelf{}
	for id, o := range s {
		if !slices.Contains(l, id) {
			rest[id] = o
		}
	}
	return rest
}

// path puts the own object of a path with this root.
func (s shelf) path(root merkle.Part, refs ...api.ID) api.ID {
	o := merkle.Make(oid.Path, info.Info{Root: root, Refs: rising(refs...)}.Text())
	s.put(o)
	return o.ID
}

// chunk puts a chunk.
func (s shelf) chunk(text string) merkle.Part {
	o := merkle.Make(oid.Chunk, text)
	s.put(o)
	return merkle.Part{ID: o.ID, Size: len(text)}
}

// node puts a node, whatever its parts are.
func (s shelf) node(level int, parts ...merkle.Part) merkle.Part {
	n := merkle.Node{Level: level, Parts: parts}
	o := merkle.Make(oid.Node, n.Text())
	s.put(o)
	return merkle.Part{ID: o.ID, Size: n.Size()}
}

// add puts everything of the path of a file with these contents, and returns its name and its other objects.
func (s shelf) add(t *testing.T, text string, refs ...api.ID) (api.ID, []merkle.Object) {
	t.Helper()
	x, l, e := info.Of(tree.Item{Kind: tree.File, Text: text}, refs...)
	if e != api.OK {
		t.Fatalf("Of: %d", e)
	}
	s.put(l...)
	s.put(merkle.Make(oid.Path, x.Text()))
	return x.Name(), l
}

func compare(a, b api.ID) int { return bytes.Compare(a[:], b[:]) }

// rising is names in ascending order, each once.
func rising(l ...api.ID) []api.ID {
	list := slices.Clone(l)
	slices.SortFunc(list, compare)
	return slices.Compact(list)
}

func ids(l ...merkle.Part) []api.ID {
	var list []api.ID
	for _, p := range l {
		list = append(list, p.ID)
	}
	return list
}

// noise is n bytes that are cut into many different chunks.
func noise(n int) string {
	b := make([]byte, n)
	rand.New(rand.NewSource(int64(n))).Read(b)
	return string(b)
}

func equal(t *testing.T, what string, got []api.ID, want ...api.ID) {
	t.Helper()
	if !slices.Equal(got, want) {
		t.Errorf("%s: %x, not %x", what, got, want)
	}
}

// filled is a registry with the paths of these names, which the source has.
func filled(t *testing.T, s shelf, l ...api.ID) *registry.Registry {
	t.Helper()
	r := registry.New()
	for _, id := range l {
		does(t, r, book.Record{Kind: registry.There, Data: s[id].Text})
	}
	return r
}

func does(t *testing.T, r *registry.Registry, l ...book.Record) {
	t.Helper()
	for _, x := range l {
		if e := r.Do(x); e != api.OK {
			t.Fatalf("Do(%d): %d", x.Kind, e)
		}
	}
}

func TestExample(t *testing.T) {
	s := shelf{}
	b, _ := s.add(t, "b")
	a, _ := s.add(t, "a", b)
	r := filled(t, s, b, a)
	does(t, r, registry.Record(registry.Hold, a))
	equal(t, "Live", Live(r, s), rising(a, b)...)
	equal(t, "Dead", Dead(r, s))
}

func TestReach(t *testing.T) {
	s := shelf{}
	a := s.path(merkle.Part{Size: 1})
	b := s.path(merkle.Part{Size: 2}, a, api.ID{7})
	c := s.path(merkle.Part{Size: 3}, b)
	d := s.path(merkle.Part{Size: 4}, c, a)
	unknown := api.ID{9}
	for i, q := range []struct{ ask, want []api.ID }{
		{nil, nil},
		{[]api.ID{a}, []api.ID{a}},
		{[]api.ID{unknown}, []api.ID{unknown}},
		{[]api.ID{{}}, []api.ID{{}}},
		{[]api.ID{b}, []api.ID{a, b, {7}}},
		{[]api.ID{c}, []api.ID{a, b, c, {7}}},
		{[]api.ID{d}, []api.ID{a, b, c, d, {7}}},
		{[]api.ID{c, a, c, unknown, b, unknown}, []api.ID{a, b, c, {7}, unknown}},
		{[]api.ID{d, {7}}, []api.ID{a, b, c, d, {7}}},
	} {
		ask := slices.Clone(q.ask)
		equal(t, "Reach", Reach(s, ask...), rising(q.want...)...)
		if !slices.Equal(ask, q.ask) {
			t.Errorf("%d: the names were changed", i)
		}
	}
	// What a path refers to that is not known is not reached through it.
	equal(t, "Reach", Reach(s.without(c), d), rising(a, c, d)...)
	equal(t, "Reach", Reach(s.without(b), d), rising(a, b, c, d)...)
	equal(t, "Reach", Reach(s.without(d), d), d)
}

// A path is known only if its own object is there, has kind Path, and is an info.
func TestKnown(t *testing.T) {
	text := info.Info{Root: merkle.Part{Size: 3}, Refs: []api.ID{{7}}}.Text()
	for i, c := range []struct {
		o     merkle.Object
		known bool
	}{
		{merkle.Object{Kind: oid.Path, Text: text}, true},
		{merkle.Object{Kind: oid.Node, Text: text}, false},
		{merkle.Object{Kind: oid.Chunk, Text: text}, false},
		{merkle.Object{Kind: oid.Peer, Text: text}, false},
		{merkle.Object{Kind: oid.Path + 256, Text: text}, false},
		{merkle.Object{Kind: oid.Path, Text: text + "\x00"}, false},
		{merkle.Object{Kind: oid.Path, Text: text[1:]}, false},
		{merkle.Object{Kind: oid.Path, Text: ""}, false},
		// A root has at least one byte.
		{merkle.Object{Kind: oid.Path, Text: info.Info{Refs: []api.ID{{7}}}.Text()}, false},
		{merkle.Object{Kind: oid.Path, Text: info.Info{Root: merkle.Part{Size: 3}, Refs: []api.ID{{7}, {7}}}.Text()}, false},
		{merkle.Object{Kind: failing, Text: "!!!"}, false},
		{merkle.Object{Kind: failing, Text: strings.Repeat("!", int(api.ErrIO))}, false},
	} {
		id := api.ID{1}
		s := shelf{id: c.o}
		reach, objects, whole := []api.ID{id}, []api.ID(nil), api.ErrUnknown
		if c.known {
			reach, objects = []api.ID{{1}, {7}}, []api.ID{id}
		}
		if got := Reach(s, id); !slices.Equal(got, reach) {
			t.Errorf("%d: Reach: %x", i, got)
		}
		if got := Objects(s, id); !slices.Equal(got, objects) {
			t.Errorf("%d: Objects: %x", i, got)
		}
		if got := Whole(s, id); got != whole {
			t.Errorf("%d: Whole: %d", i, got)
		}
	}
}

func TestObjects(t *testing.T) {
	s := shelf{}
	a, objects := s.add(t, noise(8000))
	b, _ := s.add(t, "b", a)
	all := []api.ID{a}
	for _, o := range objects {
		all = append(all, o.ID)
	}
	all = rising(all...)
	if len(all) < 50 {
		t.Fatalf("%d objects", len(all))
	}
	equal(t, "Objects", Objects(s, a), all...)
	equal(t, "Objects", Objects(s, a, a), all...)
	// References do not count, nor what is not a path.
	if n := len(Objects(s, b)); n != 3 {
		t.Errorf("%d objects of a path with one chunk", n)
	}
	equal(t, "Objects", Objects(s))
	equal(t, "Objects", Objects(s, objects[0].ID, objects[len(objects)-1].ID, api.ID{1}, api.ID{}))
	equal(t, "Objects", Objects(s, b, api.ID{1}, a, b), rising(append(all, Objects(s, b)...)...)...)
	ask := []api.ID{b, a, b}
	Objects(s, ask...)
	equal(t, "the argument", ask, b, a, b)
}

// What is there of a tree counts, however little; what is not there does not, nor what is below it.
func TestObjectsThatAreMissing(t *testing.T) {
	s := shelf{}
	c := []merkle.Part{s.chunk("a"), s.chunk("b"), s.chunk("c"), s.chunk("d")}
	n, m := s.node(1, c[0], c[1]), s.node(1, c[2], c[3])
	root := s.node(2, n, m)
	p := s.path(root)
	for i, q := range []struct {
		lacks []api.ID
		want  []api.ID
	}{
		{nil, append(ids(root, n, m, c[0], c[1], c[2], c[3]), p)},
		{ids(c[1]), append(ids(root, n, m, c[0], c[2], c[3]), p)},
		{ids(c...), append(ids(root, n, m), p)},
		{ids(n), append(ids(root, m, c[2], c[3]), p)},
		{ids(n, m), append(ids(root), p)},
		{ids(n, c[2]), append(ids(root, m, c[3]), p)},
		{ids(root), []api.ID{p}},
		{[]api.ID{p}, nil},
	} {
		if got := Objects(s.without(q.lacks...), p); !slices.Equal(got, rising(q.want...)) {
			t.Errorf("%d: %x", i, got)
		}
		for _, e := range []api.Errno{api.ErrSum, api.ErrIO, api.ErrUnknown} {
			broken := s.without()
			broken.fail(e, q.lacks...)
			if got := Objects(broken, p); !slices.Equal(got, rising(q.want...)) {
				t.Errorf("%d: error %d: %x", i, e, got)
			}
		}
	}
}

// A node in the position of a chunk counts, but what is below it does not, unless it stands elsewhere in the position of a node, too.
func TestObjectsByPosition(t *testing.T) {
	s := shelf{}
	c, d := s.chunk("c"), s.chunk("d")
	inner := s.node(1, c)
	asChunk := s.node(1, inner, d)
	asNode := s.node(2, inner)
	equal(t, "chunk", Objects(s, s.path(asChunk)), rising(append(ids(asChunk, inner, d), s.path(asChunk))...)...)
	equal(t, "node", Objects(s, s.path(asNode)), rising(append(ids(asNode, inner, c), s.path(asNode))...)...)
	equal(t, "both", Objects(s, s.path(asChunk), s.path(asNode)), rising(append(ids(asChunk, asNode, inner, c, d), s.path(asNode), s.path(asChunk))...)...)
	equal(t, "both", Objects(s, s.path(asNode), s.path(asChunk)), rising(append(ids(asChunk, asNode, inner, c, d), s.path(asNode), s.path(asChunk))...)...)
	for _, parts := range [][]merkle.Part{{asChunk, asNode}, {asNode, asChunk}} {
		root := s.node(3, parts...)
		equal(t, "below one root", Objects(s, s.path(root)), rising(append(ids(root, asChunk, asNode, inner, c, d), s.path(root))...)...)
	}
}

// Objects takes a tree as it is, whether Whole would return OK or not.
func TestObjectsOfTreesThatAreNotWhole(t *testing.T) {
	s := shelf{}
	c := s.chunk("c")
	n := s.node(1, c)
	invalid := merkle.Make(oid.Node, merkle.Node{Level: 1, Parts: []merkle.Part{{ID: c.ID}}}.Text())
	s.put(invalid)
	lost := merkle.Part{ID: api.ID{1}, Size: 1}
	other := s.path(n)
	lie := s.chunk(s[n.ID].Text)
	for i, q := range []struct {
		root  merkle.Part
		below []merkle.Part
	}{
		{c, nil},
		{lie, nil},
		{s.node(2, lie, lost), partsOf(lie)},
		{merkle.Part{ID: invalid.ID, Size: 1}, nil},
		{merkle.Part{ID: other, Size: 1}, nil},
		{merkle.Part{ID: n.ID, Size: 77}, partsOf(c)},
		{s.node(8, n), partsOf(n, c)},
		{s.node(2, s.node(2, s.node(2, n))), partsOf(s.node(2, s.node(2, n)), s.node(2, n), n, c)},
		{s.node(2, merkle.Part{ID: c.ID, Size: 9}, lost), partsOf(c)},
		{s.node(3, merkle.Part{ID: invalid.ID, Size: 1}, n), []merkle.Part{{ID: invalid.ID}, n, c}},
		{s.node(2, merkle.Part{ID: other, Size: 1}), []merkle.Part{{ID: other}}},
		{s.node(1, merkle.Part{ID: other, Size: 1}, lost, c, c), []merkle.Part{{ID: other}, c}},
	} {
		p := s.path(q.root)
		want := append(ids(q.below...), p, q.root.ID)
		if got := Objects(s, p); !slices.Equal(got, rising(want...)) {
			t.Errorf("%d: %x, not %x", i, got, rising(want...))
		}
	}
}

func partsOf(l ...merkle.Part) []merkle.Part { return l }

func TestLiveAndDead(t *testing.T) {
	s := shelf{}
	a, _ := s.add(t, "a")
	b, _ := s.add(t, "b", a)
	c, _ := s.add(t, "c", a, b)
	d, _ := s.add(t, "d")
	away, _ := s.add(t, "away", d, api.ID{7})
	hold := func(id api.ID) book.Record { return registry.Record(registry.Hold, id) }
	ask := func(id api.ID) book.Record { return registry.Record(registry.Ask, id) }
	for i, q := range []struct {
		records []book.Record
		live    []api.ID
	}{
		{nil, nil},
		{[]book.Record{hold(a)}, []api.ID{a}},
		{[]book.Record{hold(b)}, []api.ID{a, b}},
		{[]book.Record{ask(b)}, []api.ID{a, b}},
		{[]book.Record{hold(c), ask(c)}, []api.ID{a, b, c}},
		{[]book.Record{hold(d), ask(a)}, []api.ID{a, d}},
		{[]book.Record{ask(api.ID{9})}, []api.ID{{9}}},
		// A path that is asked for and not there keeps what it refers to.
		{[]book.Record{ask(away)}, []api.ID{away, d, {7}}},
		{[]book.Record{ask(away), hold(c), ask(api.ID{7})}, []api.ID{a, b, c, d, away, {7}}},
	} {
		r := filled(t, s, a, b, c, d)
		does(t, r, q.records...)
		if got := Live(r, s); !slices.Equal(got, rising(q.live...)) {
			t.Errorf("%d: Live: %x", i, got)
		}
		var dead []api.ID
		for _, id := range slices.Backward(r.Order()) {
			if !slices.Contains(q.live, id) {
				dead = append(dead, id)
			}
		}
		if got := Dead(r, s); !slices.Equal(got, dead) {
			t.Errorf("%d: Dead: %x, not %x", i, got, dead)
		}
		removable(t, r, s)
	}
}

// removable tells whether the dead paths can be removed one by one, in their order, and changes the registry.
func removable(t *testing.T, r *registry.Registry, s Source) {
	t.Helper()
	live := Live(r, s)
	for _, id := range Dead(r, s) {
		if e := r.Do(registry.Record(registry.Gone, id)); e != api.OK {
			t.Errorf("Gone: %d", e)
		}
	}
	for _, id := range r.Paths() {
		if !slices.Contains(live, id) {
			t.Errorf("%x is not live, and not removed", id)
		}
	}
	equal(t, "Dead", Dead(r, s))
	equal(t, "Live", Live(r, s), live...)
}

// The source says what a path refers to, not the registry.
func TestLiveAsFarAsKnown(t *testing.T) {
	s := shelf{}
	a, _ := s.add(t, "a")
	b, _ := s.add(t, "b", a)
	r := filled(t, s, a, b)
	does(t, r, registry.Record(registry.Hold, b))
	equal(t, "Live", Live(r, s.without(b)), b)
	equal(t, "Dead", Dead(r, s.without(b)), a)
	equal(t, "Live", Live(r, s.without(a)), rising(a, b)...)
	equal(t, "Dead", Dead(r, s.without(a)))
	equal(t, "Live", Live(registry.New(), s))
	equal(t, "Dead", Dead(registry.New(), s))
}

func TestWhole(t *testing.T) {
	s := shelf{}
	a, objects := s.add(t, noise(8000), api.ID{1})
	if e := Whole(s, a); e != api.OK {
		t.Errorf("Whole: %d", e)
	}
	for i, o := range objects {
		if e := Whole(s.without(o.ID), a); e != api.ErrUnknown {
			t.Errorf("%d: Whole without it: %d", i, e)
		}
		for _, want := range []api.Errno{api.ErrSum, api.ErrIO, api.ErrBig} {
			broken := s.without()
			broken.fail(want, o.ID)
			if e := Whole(broken, a); e != want {
				t.Errorf("%d: %d, not %d", i, e, want)
			}
		}
	}
	for _, id := range []api.ID{{}, {1}, objects[0].ID, objects[len(objects)-1].ID} {
		if e := Whole(s, id); e != api.ErrUnknown {
			t.Errorf("Whole of what is not a path: %d", e)
		}
	}
}

func TestWholeRefuses(t *testing.T) {
	s := shelf{}
	c, d := s.chunk("c"), s.chunk("dd")
	n, m := s.node(1, c), s.node(1, c, d)
	lost := merkle.Part{ID: api.ID{1}, Size: 1}
	sized := func(p merkle.Part, size int) merkle.Part { return merkle.Part{ID: p.ID, Size: size} }
	raw := func(text string) merkle.Part {
		o := merkle.Make(oid.Node, text)
		s.put(o)
		return merkle.Part{ID: o.ID, Size: 1}
	}
	text := merkle.Node{Level: 1, Parts: partsOf(c)}.Text()
	other := merkle.Part{ID: s.path(n), Size: 1}
	// lie has the bytes of a node, but is a chunk.
	lie := sized(s.chunk(text), 1)
	for i, q := range []struct {
		root merkle.Part
		want api.Errno
	}{
		{n, api.OK}, {m, api.OK}, {s.node(1, d, d, c, d), api.OK}, {s.node(2, m, n, m), api.OK}, {s.node(3, s.node(2, n), s.node(2, m)), api.OK},
		// The root may have any level.
		{s.node(8, s.node(7, s.node(6, s.node(5, s.node(4, s.node(3, s.node(2, n))))))), api.OK},
		// The size of the root.
		{sized(n, 2), api.ErrForm}, {sized(m, 2), api.ErrForm}, {sized(m, 4), api.ErrForm},
		// The size of a node, and the length of a chunk.
		{s.node(2, sized(m, 2)), api.ErrForm}, {s.node(2, n, sized(m, 4)), api.ErrForm}, {s.node(1, sized(c, 2)), api.ErrForm}, {s.node(1, c, sized(d, 1)), api.ErrForm},
		// Another kind in the position of a node.
		{c, api.ErrForm}, {other, api.ErrForm}, {s.node(2, c), api.ErrForm}, {s.node(2, n, other), api.ErrForm}, {s.node(3, s.node(2, n, c)), api.ErrForm}, {lie, api.ErrForm}, {s.node(2, n, lie), api.ErrForm},
		// Another kind in the position of a chunk, even with the right length.
		{s.node(1, n), api.ErrForm}, {s.node(1, sized(n, len(text))), api.ErrForm}, {s.node(1, sized(other, len(s[other.ID].Text))), api.ErrForm}, {s.node(2, s.node(1, c, n)), api.ErrForm},
		// Another level.
		{s.node(3, n), api.ErrForm}, {s.node(2, s.node(2, n)), api.ErrForm}, {s.node(3, s.node(2, n), n), api.ErrForm}, {s.node(2, s.node(8, c)), api.ErrForm},
		// The errors of Parse.
		{raw(""), api.ErrEnd}, {raw(text[:20]), api.ErrEnd}, {raw(text + "\x00"), api.ErrForm}, {raw("\x01\x09"), api.ErrBig}, {raw("\x00"), api.ErrEnd}, {raw("\x00\x00"), api.ErrForm},
		{s.node(2, n, raw("\x01\x09")), api.ErrBig}, {s.node(2, raw(text[:9])), api.ErrEnd}, {sized(s.node(1, sized(c, 0)), 1), api.ErrForm},
		// What is not there.
		{lost, api.ErrUnknown}, {s.node(1, lost), api.ErrUnknown}, {s.node(1, c, lost), api.ErrUnknown}, {s.node(2, n, lost), api.ErrUnknown}, {s.node(2, n, s.node(1, c, lost)), api.ErrUnknown},
		// The first error counts: each node comes ahead of its parts, and all that is below it ahead of the next one.
		{s.node(1, lost, sized(c, 2)), api.ErrUnknown}, {s.node(1, sized(c, 2), lost), api.ErrForm},
		{s.node(2, s.node(1, lost), raw("")), api.ErrUnknown}, {s.node(2, raw(""), lost), api.ErrEnd}, {s.node(2, s.node(1, c, sized(c, 9)), lost), api.ErrForm},
		{s.node(2, sized(s.node(1, lost), 7), raw("")), api.ErrForm}, {s.node(3, s.node(2, s.node(1, lost)), raw("\x01\x09")), api.ErrUnknown}, {s.node(3, s.node(1, lost)), api.ErrForm},
	} {
		if e := Whole(s, s.path(q.root)); e != q.want {
			t.Errorf("%d: %d, not %d", i, e, q.want)
		}
	}
}

// Whole concerns the path itself, not what it refers to.
func TestWholeWithoutReferences(t *testing.T) {
	s := shelf{}
	p := s.path(s.node(1, s.chunk("c")), api.ID{1}, api.ID{2})
	if e := Whole(s, p); e != api.OK {
		t.Errorf("%d", e)
	}
}

// reached is what the chapter says of Reach: a list that grows until nothing is added.
func reached(s shelf, l []api.ID) []api.ID {
	for {
		next := slices.Clone(l)
		for _, id := range l {
			if x, e := info.Parse(s[id].Text); e == api.OK && s[id].Kind == oid.Path {
				next = append(next, x.Refs...)
			}
		}
		next = rising(next...)
		if slices.Equal(next, rising(l...)) {
			return next
		}
		l = next
	}
}

// objectsOf is what the chapter says of Objects, in the same way.
func objectsOf(s shelf, l []api.ID) []api.ID {
	var nodes, chunks, paths []api.ID
	for _, id := range l {
		if x, e := info.Parse(s[id].Text); e == api.OK && s[id].Kind == oid.Path {
			paths, nodes = append(paths, id), append(nodes, x.Root.ID)
		}
	}
	nodes = rising(nodes...)
	for count := -1; count != len(nodes)+len(chunks); {
		count = len(nodes) + len(chunks)
		for _, id := range nodes {
			n, e := merkle.Parse(s[id].Text)
			if e != api.OK || s[id].Kind != oid.Node {
				continue
			}
			if n.Level == 1 {
				chunks = append(chunks, ids(n.Parts...)...)
			} else {
				nodes = append(nodes, ids(n.Parts...)...)
			}
		}
		nodes, chunks = rising(nodes...), rising(chunks...)
	}
	all := slices.DeleteFunc(slices.Concat(nodes, chunks), func(id api.ID) bool { _, found := s[id]; return !found })
	return rising(append(all, paths...)...)
}

// Sources of all kinds of objects that refer to each other: parts of any level, names that are missing, paths that refer to anything.
func TestRandomSources(t *testing.T) {
	for seed := range 400 {
		r := rand.New(rand.NewSource(int64(seed)))
		s := shelf{}
		parts := []merkle.Part{s.chunk("a"), s.chunk("bb"), {ID: api.ID{1}, Size: 1}}
		paths := []api.ID{{2}}
		for range 30 {
			var l []merkle.Part
			for range 1 + r.Intn(4) {
				l = append(l, parts[r.Intn(len(parts))])
			}
			if p := s.node(1+r.Intn(3), l...); p.Size < 300 {
				parts = append(parts, p)
			}
			var refs []api.ID
			for range r.Intn(4) {
				refs = append(refs, paths[r.Intn(len(paths))])
			}
			paths = append(paths, s.path(parts[r.Intn(len(parts))], refs...))
			parts = append(parts, merkle.Part{ID: paths[r.Intn(len(paths))], Size: 1})
		}
		for id := range s {
			if r.Intn(12) == 0 {
				delete(s, id)
			}
		}
		reg := registry.New()
		for range 20 {
			id := paths[r.Intn(len(paths))]
			reg.Do(book.Record{Kind: registry.There, Data: s[id].Text})
			reg.Do(registry.Record([]int{registry.Hold, registry.Ask}[r.Intn(2)], paths[r.Intn(len(paths))]))
		}
		var ask []api.ID
		for range r.Intn(5) {
			ask = append(ask, paths[r.Intn(len(paths))])
		}
		equal(t, "Reach", Reach(s, ask...), reached(s, ask)...)
		equal(t, "Objects", Objects(s, ask...), objectsOf(s, ask)...)
		live := reached(s, slices.Concat(reg.Held(), reg.Asked()))
		equal(t, "Live", Live(reg, s), live...)
		dead := slices.DeleteFunc(reg.Order(), func(id api.ID) bool { return slices.Contains(live, id) })
		slices.Reverse(dead)
		equal(t, "Dead", Dead(reg, s), dead...)
		if len(reached(s, reg.Paths())) == len(reg.Paths()) {
			removable(t, reg, s)
		}
		if t.Failed() {
			t.Fatalf("seed %d", seed)
		}
	}
}

// A source that does not return what its names say cannot keep a call from ending.
func TestRings(t *testing.T) {
	s := shelf{}
	a, b, n, m := api.ID{1}, api.ID{2}, api.ID{3}, api.ID{4}
	part := func(id api.ID) merkle.Part { return merkle.Part{ID: id, Size: 1} }
	s[a] = merkle.Object{Kind: oid.Path, Text: info.Info{Root: part(n), Refs: []api.ID{b}}.Text()}
	s[b] = merkle.Object{Kind: oid.Path, Text: info.Info{Root: part(m), Refs: []api.ID{a}}.Text()}
	s[n] = merkle.Object{Kind: oid.Node, Text: merkle.Node{Level: 8, Parts: partsOf(part(m))}.Text()}
	s[m] = merkle.Object{Kind: oid.Node, Text: merkle.Node{Level: 8, Parts: partsOf(part(n))}.Text()}
	equal(t, "Reach", Reach(s, b), a, b)
	equal(t, "Objects", Objects(s, a), a, n, m)
	if e := Whole(s, a); e != api.ErrForm {
		t.Errorf("Whole: %d", e)
	}
}

// Very many ways lead to the same names, each of which counts once; a way may be very long.
func TestManyWays(t *testing.T) {
	n := 1 << 16
	if testing.Short() {
		n = 1 << 10
	}
	s := shelf{}
	one := s.chunk("1")
	wide := merkle.Part{ID: s.node(1, one).ID, Size: 1}
	long := wide
	var paths []api.ID
	for i := range n {
		if i < 200 {
			wide.ID = s.node(2+i%7, wide, wide, wide, wide, wide, wide, wide, wide).ID
		}
		long.ID = s.node(2, long, one).ID
		refs := paths[max(0, i-8):]
		if i > 200 {
			refs = paths[i-1:]
		}
		paths = append(paths, s.path(merkle.Part{ID: api.ID{1}, Size: 1 + i%5}, refs...))
	}
	if got := Reach(s, paths[n-1]); !slices.Equal(got, rising(paths...)) {
		t.Errorf("%d paths", len(got))
	}
	if got := Objects(s, s.path(wide)); len(got) != 203 {
		t.Errorf("%d objects", len(got))
	}
	if got := Objects(s, s.path(long)); len(got) != n+3 {
		t.Errorf("%d objects", len(got))
	}
	// The greatest tree that may be is visited part by part.
	full := one
	for level := range 8 {
		parts := []merkle.Part{full}
		if full.Size < 32768 {
			parts = slices.Repeat(parts, 8)
		}
		full = s.node(level+1, parts...)
	}
	if e := Whole(s, s.path(full)); full.Size != 32768 || e != api.OK {
		t.Errorf("Whole: %d, %d bytes", e, full.Size)
	}
}

func TestResultsAreApart(t *testing.T) {
	s := shelf{}
	a, _ := s.add(t, "a")
	b, _ := s.add(t, "b", a)
	r := filled(t, s, a, b)
	does(t, r, registry.Record(registry.Hold, a), registry.Record(registry.Ask, api.ID{7}))
	ask := append(make([]api.ID, 0, 20), b)
	for _, list := range [][]api.ID{Reach(s, ask...), Objects(s, ask...), Live(r, s), Dead(r, s)} {
		clear(list)
	}
	equal(t, "the argument", ask[:2], b, api.ID{})
	equal(t, "Held", r.Held(), a)
	equal(t, "Asked", r.Asked(), api.ID{7})
	equal(t, "Paths", r.Paths(), rising(a, b)...)
	equal(t, "Dead", Dead(r, s), b)
}

// The same calls give the same results.
func TestTheSameAgain(t *testing.T) {
	run := func() [][]api.ID {
		s := shelf{}
		var l []api.ID
		for i := range 30 {
			id, _ := s.add(t, noise(100*i), l[max(0, i-5):]...)
			l = append(l, id)
		}
		r := filled(t, s, l...)
		does(t, r, registry.Record(registry.Hold, l[9]), registry.Record(registry.Ask, l[14]))
		return [][]api.ID{Reach(s, l[20]), Objects(s, l...), Live(r, s), Dead(r, s)}
	}
	want := run()
	for range 5 {
		for i, list := range run() {
			equal(t, "again", list, want[i]...)
		}
	}
}

// Whatever bytes objects have, no call panics, and every call ends.
func FuzzSources(f *testing.F) {
	f.Add([]byte("\x01\x01\x01\x01"), []byte("x"))
	f.Add([]byte(merkle.Node{Level: 2, Parts: partsOf(merkle.Part{Size: 3})}.Text()), []byte(info.Info{Root: merkle.Part{Size: 1}}.Text()))
	f.Fuzz(func(t *testing.T, node, own []byte) {
		s := shelf{}
		o := merkle.Make(oid.Node, string(node))
		s.put(o, merkle.Make(oid.Chunk, string(node)), merkle.Make(oid.Path, string(own)))
		s[api.ID{}] = o
		size := binary.BigEndian.Uint16(append(node, 1, 1)) % 32768
		p := s.path(merkle.Part{ID: o.ID, Size: 1 + int(size)}, oid.Of(oid.Path, string(own)))
		r := registry.New()
		r.Do(registry.Record(registry.Ask, p))
		Dead(r, s)
		equal(t, "Reach", Reach(s, p), reached(s, []api.ID{p})...)
		equal(t, "Live", Live(r, s), reached(s, []api.ID{p})...)
		equal(t, "Objects", Objects(s, p), objectsOf(s, []api.ID{p})...)
		Whole(s, p)
	})
}
