package frontier

import (
	"bytes"
	"math/rand"
	"slices"
	"strings"
	"testing"

	"caravan/api"
	"caravan/info"
	"caravan/merkle"
	"caravan/oid"
	"caravan/reap"
	"caravan/sector"
	"caravan/store"
	"caravan/tree"
)

// The signatures that the chapter lists.
var (
	_ func(reap.Source, func(id api.ID) bool, api.ID) (Front, api.Errno) = Of
	_ func(Front) int                                                    = Front.Bytes
	_                                                                    = Want{0, api.ID{}, 0}
	_                                                                    = Front{[]api.ID(nil), []Want(nil), []api.ID(nil)}
	_                                                                    = [1]int{}[MostPaths-32]
)

// shelf is a source that has these objects. A name with an object whose kind is below 0 has that error, too.
type shelf map[api.ID]merkle.Object

func (s shelf) Get(id api.ID) (merkle.Object, api.Errno) {
	o, found := s[id]
	if !found {
		return merkle.Object{}, api.ErrUnknown
	}
	if o.Kind < 0 {
		e := api.Errno(-o.Kind)
		o.Kind = kindOf(o)
		return o, e
	}
	return o, api.OK
}

// kindOf finds the kind with which an object has its name.
func kindOf(o merkle.Object) int {
	for kind := oid.Chunk; kind <= oid.Path; kind++ {
		if oid.Of(kind, o.Text) == o.ID {
			return kind
		}
	}
	return 0
}

func (s shelf) put(l ...merkle.Object) {
	for _, o := range l {
		s[o.ID] = o
	}
}

// without is a copy of the source that lacks these.
func (s shelf) without(l ...api.ID) shelf {
	rest := shelf{}
	for id, o := range s {
		if !slices.Contains(l, id) {
			rest[id] = o
		}
	}
	return rest
}

// failing is a copy of the source that has an error for these.
func (s shelf) failing(e api.Errno, l ...api.ID) shelf {
	broken := s.without()
	for _, id := range l {
		if o, found := s[id]; found {
			o.Kind = -int(e)
			broken[id] = o
		}
	}
	return broken
}

func (s shelf) chunk(text string) merkle.Part {
	o := merkle.Make(oid.Chunk, text)
	s.put(o)
	return merkle.Part{ID: o.ID, Size: len(text)}
}

// node puts a node, whatever its parts are.
func (s shelf) node(level int, parts ...merkle.Part) merkle.Part {
	n := merkle.Node{Level: level, Parts: parts}
	o := merkle.Make(oid.Node, n.Text())
	s.put(o)
	return merkle.Part{ID: o.ID, Size: n.Size()}
}

// path puts the own object of a path with this root.
func (s shelf) path(root merkle.Part, refs ...api.ID) api.ID {
	o := merkle.Make(oid.Path, info.Info{Root: root, Refs: rising(refs...)}.Text())
	s.put(o)
	return o.ID
}

// add puts everything of the path of a file with these contents.
func (s shelf) add(t *testing.T, text string, refs ...api.ID) api.ID {
	t.Helper()
	x, l, e := info.Of(tree.Item{Kind: tree.File, Text: text}, refs...)
	if e != api.OK {
		t.Fatalf("Of: %d", e)
	}
	s.put(l...)
	s.put(merkle.Make(oid.Path, x.Text()))
	return x.Name()
}

func compare(a, b api.ID) int { return bytes.Compare(a[:], b[:]) }

// rising is names in ascending order, each once.
func rising(l ...api.ID) []api.ID {
	list := slices.Clone(l)
	slices.SortFunc(list, compare)
	return slices.Compact(list)
}

// noise is n bytes that are cut into many different chunks.
func noise(n int) string {
	b := make([]byte, n)
	rand.New(rand.NewSource(int64(n))).Read(b)
	return string(b)
}

// among is a set of paths that are there.
func among(l ...api.ID) func(api.ID) bool {
	return func(id api.ID) bool { return slices.Contains(l, id) }
}

// of is the front of a path if none is there.
func of(t *testing.T, src reap.Source, id api.ID) Front {
	t.Helper()
	f, e := Of(src, among(), id)
	if e != api.OK {
		t.Errorf("Of: %d", e)
	}
	return f
}

func same(a, b Front) bool {
	return slices.Equal(a.Paths, b.Paths) && slices.Equal(a.Wants, b.Wants) && slices.Equal(a.Ready, b.Ready)
}

func equal(t *testing.T, what string, got, want Front) {
	t.Helper()
	if !same(got, want) {
		t.Errorf("%s: %x, not %x", what, got, want)
	}
}

// needs checks what a path without references needs: it is Ready if that is nothing.
func needs(t *testing.T, i int, src reap.Source, id api.ID, want []Want) Front {
	t.Helper()
	f := of(t, src, id)
	ready := 0
	if len(want) == 0 {
		ready = 1
	}
	if !same(f, Front{Paths: ids(id), Wants: want, Ready: ids(id)[:ready]}) {
		t.Errorf("%d: %x, not %x", i, f, want)
	}
	return f
}

func ids(l ...api.ID) []api.ID { return l }

func wants(l ...Want) []Want { return l }

func pathOf(id api.ID) Want         { return Want{oid.Path, id, 294} }
func nodeOf(part merkle.Part) Want  { return Want{oid.Node, part.ID, 292} }
func chunkOf(part merkle.Part) Want { return Want{oid.Chunk, part.ID, part.Size} }

func TestExample(t *testing.T) {
	f := of(t, shelf{}, api.ID{7})
	equal(t, "nothing is stored", f, Front{Paths: ids(api.ID{7}), Wants: wants(pathOf(api.ID{7}))})
	if f.Bytes() != 294 {
		t.Errorf("%d bytes", f.Bytes())
	}
}

// The front of a path whose objects arrive one after the other, from the whole source to nothing.
func TestTree(t *testing.T) {
	s := shelf{}
	c := []merkle.Part{s.chunk("a"), s.chunk("bb"), s.chunk("ccc"), s.chunk("dddd"), s.chunk("eeeee")}
	n, m, o := s.node(1, c[0], c[1], c[2]), s.node(1, c[3]), s.node(1, c[4], c[0])
	root := s.node(2, n, m, o)
	p := s.path(root)
	for i, q := range []struct {
		lacks []api.ID
		want  []Want
		bytes int
	}{
		{nil, nil, 0},
		{ids(p), wants(pathOf(p)), 294},
		{ids(root.ID), wants(nodeOf(root)), 292},
		{ids(root.ID, n.ID, c[0].ID), wants(nodeOf(root)), 292},
		{ids(n.ID), wants(nodeOf(n)), 292},
		{ids(o.ID, m.ID, n.ID), wants(nodeOf(n), nodeOf(m), nodeOf(o)), 876},
		{ids(c[1].ID), wants(chunkOf(c[1])), 2},
		{ids(c[4].ID, c[2].ID, c[3].ID, c[1].ID), wants(chunkOf(c[1]), chunkOf(c[2]), chunkOf(c[3]), chunkOf(c[4])), 14},
		{ids(c[0].ID), wants(chunkOf(c[0])), 1},
		{ids(c[2].ID, m.ID, c[4].ID, c[0].ID), wants(chunkOf(c[0]), chunkOf(c[2]), nodeOf(m), chunkOf(c[4])), 301},
		{ids(n.ID, c[0].ID), wants(nodeOf(n), chunkOf(c[0])), 293},
		{ids(n.ID, c[1].ID, c[3].ID), wants(nodeOf(n), chunkOf(c[3])), 296},
	} {
		if got := needs(t, i, s.without(q.lacks...), p, q.want).Bytes(); got != q.bytes {
			t.Errorf("%d: %d bytes", i, got)
		}
		// What the source has, but does not return, is needed as well.
		for _, e := range []api.Errno{api.ErrUnknown, api.ErrSum, api.ErrIO} {
			needs(t, i, s.failing(e, q.lacks...), p, q.want)
		}
	}
}

// The references are processed in order, each path after its own ones, and each once.
func TestReferences(t *testing.T) {
	s := shelf{}
	one := func(text string) merkle.Part { return s.node(1, s.chunk(text)) }
	a, b, c, d := one("a"), one("b"), one("c"), one("d")
	low, high := s.path(a), s.path(b)
	if compare(low, high) > 0 {
		low, high, a, b = high, low, b, a
	}
	top := s.path(c, high, low)
	all := s.path(d, top, low, high)
	order := ids(low, high, top, all)
	equal(t, "whole", of(t, s, all), Front{Paths: order, Ready: order})
	equal(t, "top", of(t, s, top), Front{Paths: order[:3], Ready: order[:3]})
	equal(t, "high", of(t, s, high), Front{Paths: ids(high), Ready: ids(high)})
	roots := s.without(a.ID, b.ID, c.ID, d.ID)
	equal(t, "no roots", of(t, roots, all), Front{Paths: order, Wants: wants(nodeOf(a), nodeOf(b), nodeOf(c), nodeOf(d))})
	equal(t, "own objects alone", of(t, roots.without(low, high), top), Front{Paths: order[:3], Wants: wants(pathOf(low), pathOf(high), nodeOf(c))})
	equal(t, "high is missing", of(t, s.without(high), top), Front{Paths: order[:3], Wants: wants(pathOf(high)), Ready: ids(low, top)})
	equal(t, "low is missing", of(t, s.without(low, c.ID), top), Front{Paths: order[:3], Wants: wants(pathOf(low), nodeOf(c)), Ready: ids(high)})
	equal(t, "top is missing", of(t, s.without(top), top), Front{Paths: ids(top), Wants: wants(pathOf(top))})
	// What refers to a path that still needs something may be Ready itself.
	equal(t, "a chunk of low is missing", of(t, s.without(merkle.Make(oid.Chunk, "a").ID, merkle.Make(oid.Chunk, "b").ID), top), Front{Paths: order[:3], Wants: wants(firstBelow(s, a), firstBelow(s, b)), Ready: ids(top)})
}

// firstBelow is the want of the first part of a node of level 1.
func firstBelow(s shelf, part merkle.Part) Want {
	n, _ := merkle.Parse(s[part.ID].Text)
	return chunkOf(n.Parts[0])
}

// Wherever a path stands among the references of another one, its own ones come ahead of it.
func TestOrder(t *testing.T) {
	first := [3]int{}
	for i := range 30 {
		s := shelf{}
		lost := api.ID{byte(8 * i)}
		roots := make([]merkle.Part, 3)
		for k := range roots {
			roots[k] = merkle.Part{ID: api.ID{1, byte(i), byte(k)}, Size: 1}
		}
		x := s.path(roots[0], lost)
		y := s.path(roots[1], x)
		top := s.path(roots[2], x, y, lost)
		equal(t, "order", of(t, s, top), Front{Paths: ids(lost, x, y, top), Wants: wants(pathOf(lost), nodeOf(roots[0]), nodeOf(roots[1]), nodeOf(roots[2]))})
		first[slices.Index(ids(x, y, lost), rising(x, y, lost)[0])]++
	}
	if slices.Contains(first[:], 0) {
		t.Errorf("not each of them is the first reference: %v", first)
	}
}

// Paths that are there are skipped, and so is what only they refer to.
func TestThere(t *testing.T) {
	s := shelf{}
	low := api.ID{1}
	middle := s.path(s.node(1, s.chunk("m")), low)
	top := s.path(s.node(1, s.chunk("t")), middle)
	both := s.path(s.node(1, s.chunk("b")), middle, low)
	for i, q := range []struct {
		there []api.ID
		id    api.ID
		want  Front
	}{
		{nil, top, Front{Paths: ids(low, middle, top), Wants: wants(pathOf(low)), Ready: ids(middle, top)}},
		{ids(low), top, Front{Paths: ids(middle, top), Ready: ids(middle, top)}},
		{ids(middle), top, Front{Paths: ids(top), Ready: ids(top)}},
		{ids(low, middle), top, Front{Paths: ids(top), Ready: ids(top)}},
		{ids(top), top, Front{}},
		{ids(top, middle, low), top, Front{}},
		{ids(low), low, Front{}},
		{ids(top), middle, Front{Paths: ids(low, middle), Wants: wants(pathOf(low)), Ready: ids(middle)}},
		{ids(middle), both, Front{Paths: ids(low, both), Wants: wants(pathOf(low)), Ready: ids(both)}},
		{ids(low), both, Front{Paths: ids(middle, both), Ready: ids(middle, both)}},
	} {
		if f, e := Of(s, among(q.there...), q.id); e != api.OK || !same(f, q.want) {
			t.Errorf("%d: %d, %x, not %x", i, e, f, q.want)
		}
	}
	// It makes no difference whether the source has anything of a path that is there.
	f, e := Of(shelf{}, among(top), top)
	if e != api.OK || !same(f, Front{}) {
		t.Errorf("%d, %x", e, f)
	}
}

// A path is known only if its own object is there, has kind Path, and is an info.
func TestKnown(t *testing.T) {
	root := merkle.Part{ID: api.ID{9}, Size: 3}
	text := info.Info{Root: root, Refs: []api.ID{{7}}}.Text()
	needed := Front{Paths: ids(api.ID{1}), Wants: wants(pathOf(api.ID{1}))}
	useless := Front{Paths: ids(api.ID{1})}
	known := Front{Paths: ids(api.ID{7}, api.ID{1}), Wants: wants(pathOf(api.ID{7}), nodeOf(root))}
	for i, c := range []struct {
		o    merkle.Object
		want Front
	}{
		{merkle.Object{Kind: oid.Path, Text: text}, known},
		{merkle.Object{Kind: oid.Node, Text: text}, needed},
		{merkle.Object{Kind: oid.Chunk, Text: text}, needed},
		{merkle.Object{Kind: oid.Peer, Text: text}, needed},
		{merkle.Object{Kind: oid.Path + 256, Text: text}, needed},
		{merkle.Object{}, needed},
		{merkle.Object{Kind: -int(api.ErrSum), Text: text}, needed},
		{merkle.Object{Kind: oid.Path, Text: text + "\x00"}, useless},
		{merkle.Object{Kind: oid.Path, Text: text[1:]}, useless},
		{merkle.Object{Kind: oid.Path, Text: ""}, useless},
		// A root has at least one byte.
		{merkle.Object{Kind: oid.Path, Text: info.Info{Refs: []api.ID{{7}}}.Text()}, useless},
		{merkle.Object{Kind: oid.Path, Text: info.Info{Root: root, Refs: []api.ID{{7}, {7}}}.Text()}, useless},
	} {
		if f := of(t, shelf{api.ID{1}: c.o}, api.ID{1}); !same(f, c.want) {
			t.Errorf("%d: %x, not %x", i, f, c.want)
		}
	}
}

// The position of a part says which kind of object is needed, and a name may stand in several.
func TestPositions(t *testing.T) {
	s := shelf{}
	c := s.chunk("c")
	n := s.node(1, c)
	lie := s.chunk(s[n.ID].Text)
	lost := merkle.Part{ID: api.ID{1}, Size: 5}
	longer := merkle.Part{ID: lost.ID, Size: 6}
	p := s.path(n)
	own := merkle.Part{ID: p, Size: 9}
	for i, q := range []struct {
		root merkle.Part
		want []Want
	}{
		{c, wants(nodeOf(c))},
		{lie, wants(nodeOf(lie))},
		{own, wants(nodeOf(own))},
		{n, nil},
		{s.node(1, n), wants(chunkOf(n))},
		{s.node(1, lie, own, c), wants(chunkOf(own))},
		{s.node(2, c, n, c, lie), wants(nodeOf(c), nodeOf(lie))},
		{s.node(1, lost, lost, c, lost), wants(chunkOf(lost))},
		{s.node(1, lost, longer, lost, longer), wants(chunkOf(lost), chunkOf(longer))},
		{s.node(2, lost, longer), wants(nodeOf(lost))},
		{s.node(2, s.node(1, longer), lost, s.node(1, lost, longer)), wants(chunkOf(longer), nodeOf(lost), chunkOf(lost))},
		{s.node(2, s.node(1, n), n, c, s.node(1, c)), wants(chunkOf(n), nodeOf(c))},
	} {
		needs(t, i, s, s.path(q.root), q.want)
	}
}

// Trees that are not what they should be need nothing more than what is missing of them.
func TestTreesThatAreNotWhole(t *testing.T) {
	s := shelf{}
	c := s.chunk("c")
	n := s.node(1, c)
	lost := merkle.Part{ID: api.ID{1}, Size: 1}
	invalid := s.node(1, merkle.Part{ID: lost.ID})
	tooBig := s.node(1, merkle.Part{ID: lost.ID, Size: 257})
	noLevel := s.node(0, lost)
	empty := s.node(1)
	longer := s.node(1, lost)
	o := s[longer.ID]
	rest := merkle.Make(oid.Node, o.Text+"\x00")
	s.put(rest)
	for i, q := range []struct {
		root merkle.Part
		want []Want
	}{
		{invalid, nil},
		{tooBig, nil},
		{noLevel, nil},
		{empty, nil},
		{merkle.Part{ID: rest.ID, Size: 1}, nil},
		{s.node(2, invalid, n, lost), nil}, // a part without bytes: the node itself is invalid
		{s.node(2, merkle.Part{ID: invalid.ID, Size: 1}, n, lost, merkle.Part{ID: tooBig.ID, Size: 7}), wants(nodeOf(lost))},
		// The sizes and levels of what is there make no difference.
		{merkle.Part{ID: n.ID, Size: 77}, nil},
		{merkle.Part{ID: longer.ID, Size: 77}, wants(chunkOf(lost))},
		{s.node(1, merkle.Part{ID: c.ID, Size: 200}), nil},
		{s.node(8, n, longer), wants(chunkOf(lost))},
		{s.node(2, s.node(2, s.node(8, s.node(2, longer)))), wants(chunkOf(lost))},
	} {
		q.root.Size = max(q.root.Size, 1)
		needs(t, i, s, s.path(q.root), q.want)
	}
}

// What two paths share is needed once, but for both.
func TestShared(t *testing.T) {
	s := shelf{}
	lost := merkle.Part{ID: api.ID{1}, Size: 3}
	shared := s.node(1, s.chunk("c"), lost)
	a := s.path(s.node(2, shared))
	b := s.path(s.node(3, shared), a)
	c := s.path(shared, b)
	d := s.path(merkle.Part{ID: shared.ID, Size: 99}, c)
	equal(t, "a chunk", of(t, s, d), Front{Paths: ids(a, b, c, d), Wants: wants(chunkOf(lost))})
	equal(t, "a node", of(t, s.without(shared.ID), d), Front{Paths: ids(a, b, c, d), Wants: wants(nodeOf(shared))})
	s[lost.ID] = merkle.Object{Kind: oid.Chunk, ID: lost.ID, Text: "abc"}
	equal(t, "nothing", of(t, s, d), Front{Paths: ids(a, b, c, d), Ready: ids(a, b, c, d)})
}

func TestBytes(t *testing.T) {
	for _, c := range []struct {
		most []int
		want int
	}{{nil, 0}, {[]int{5}, 5}, {[]int{294, 292, 1, 256, 0}, 843}, {[]int{7, -9, 7}, 5}} {
		f := Front{Paths: ids(api.ID{}), Ready: ids(api.ID{}, api.ID{})}
		for _, most := range c.most {
			f.Wants = append(f.Wants, Want{oid.Chunk, api.ID{}, most})
		}
		if got := f.Bytes(); got != c.want {
			t.Errorf("%v: %d", c.most, got)
		}
	}
}

// No info and no node has more bytes than are asked for.
func TestMost(t *testing.T) {
	x := info.Info{Root: merkle.Part{Size: api.MaxPack}}
	for i := range api.MaxRefs {
		x.Refs = append(x.Refs, api.ID{byte(i)})
	}
	if e := x.Check(); e != api.OK || len(x.Text()) > mostInfo {
		t.Errorf("an info: %d, %d bytes", e, len(x.Text()))
	}
	n := merkle.Node{Level: 8, Parts: slices.Repeat([]merkle.Part{{Size: api.MaxPack / 8}}, 8)}
	if e := n.Check(); e != api.OK || len(n.Text()) > mostNode {
		t.Errorf("a node: %d, %d bytes", e, len(n.Text()))
	}
}

// chain puts n paths that refer to one another, and returns them, each after its reference.
func (s shelf) chain(n int) []api.ID {
	var l []api.ID
	for i := range n {
		l = append(l, s.path(merkle.Part{ID: api.ID{byte(i), byte(i >> 8)}, Size: 1}, l[max(0, i-1):]...))
	}
	return l
}

func big(t *testing.T, src reap.Source, id api.ID, there ...api.ID) {
	t.Helper()
	if f, e := Of(src, among(there...), id); e != api.ErrBig || f.Paths != nil || f.Wants != nil || f.Ready != nil {
		t.Errorf("Of: %d, %x", e, f)
	}
}

func TestManyPaths(t *testing.T) {
	s := shelf{}
	l := s.chain(40)
	for n := 1; n <= 32; n++ {
		f := of(t, s, l[n-1])
		if !slices.Equal(f.Paths, l[:n]) || len(f.Wants) != n || f.Ready != nil {
			t.Errorf("%d paths: %x", n, f)
		}
	}
	for n := 33; n <= 40; n++ {
		big(t, s, l[n-1])
	}
	// Those that are there do not count, those that are missing do.
	if f, e := Of(s, among(l[7]), l[39]); e != api.OK || !slices.Equal(f.Paths, l[8:]) {
		t.Errorf("%d, %x", e, f)
	}
	big(t, s, l[39], l[6])
	if f := of(t, s.without(l[8]), l[39]); !slices.Equal(f.Paths, l[8:]) || f.Wants[0] != pathOf(l[8]) {
		t.Errorf("%x", f)
	}
	big(t, s.without(l[7]), l[39])
	// A path may have many references, each of which has many.
	wide := s.path(merkle.Part{Size: 1}, l[:8]...)
	if f := of(t, s, wide); len(f.Paths) != 9 {
		t.Errorf("%x", f)
	}
	var middle []api.ID
	for i := range 4 {
		refs := ids(api.ID{1, byte(i)}, api.ID{2, byte(i)}, api.ID{3, byte(i)}, api.ID{4, byte(i)}, api.ID{5, byte(i)}, api.ID{6, byte(i)}, api.ID{9})
		middle = append(middle, s.path(merkle.Part{Size: 2 + i}, refs...))
	}
	if f := of(t, s, s.path(merkle.Part{Size: 9}, middle...)); len(f.Paths) != 30 || len(f.Wants) != 26 {
		t.Errorf("%x", f)
	}
	if f := of(t, s, s.path(merkle.Part{Size: 9}, append(middle, l[1])...)); len(f.Paths) != 32 {
		t.Errorf("%x", f)
	}
	big(t, s, s.path(merkle.Part{Size: 9}, append(middle, l[2])...))
	big(t, s, s.path(merkle.Part{Size: 9}, append(middle, l[1], api.ID{8})...))
	if f := of(t, s, s.path(merkle.Part{Size: 9}, append(middle, l[1], api.ID{9})...)); len(f.Paths) != 32 {
		t.Errorf("%x", f)
	}
}

// However many paths there are, and however they refer to each other, the call ends soon.
func TestVeryManyPaths(t *testing.T) {
	s := shelf{}
	l := s.chain(1 << 16)
	big(t, s, l[len(l)-1])
	l = nil
	for i := range 32 {
		l = append(l, s.path(merkle.Part{ID: api.ID{1}, Size: 1 + i}, l[max(0, i-8):]...))
	}
	if f := of(t, s, l[31]); len(f.Paths) != 32 || len(f.Wants) != 1 {
		t.Errorf("%x", f)
	}
	big(t, s, s.path(merkle.Part{ID: api.ID{1}, Size: 40}, l[24:]...))
}

// A source that does not return what its names say cannot keep a call from ending.
func TestRings(t *testing.T) {
	s := shelf{}
	a, b, n, m := api.ID{1}, api.ID{2}, api.ID{3}, api.ID{4}
	part := func(id api.ID) merkle.Part { return merkle.Part{ID: id, Size: 1} }
	s[a] = merkle.Object{Kind: oid.Path, Text: info.Info{Root: part(n), Refs: []api.ID{a, b}}.Text()}
	s[b] = merkle.Object{Kind: oid.Path, Text: info.Info{Root: part(m), Refs: []api.ID{a, b}}.Text()}
	s[n] = merkle.Object{Kind: oid.Node, Text: merkle.Node{Level: 8, Parts: []merkle.Part{part(m), part(n)}}.Text()}
	s[m] = merkle.Object{Kind: oid.Node, Text: merkle.Node{Level: 8, Parts: []merkle.Part{part(n)}}.Text()}
	equal(t, "from a", of(t, s, a), Front{Paths: ids(b, a), Ready: ids(b, a)})
	equal(t, "from b", of(t, s, b), Front{Paths: ids(a, b), Ready: ids(a, b)})
	delete(s, n)
	equal(t, "n is missing", of(t, s, b), Front{Paths: ids(a, b), Wants: wants(nodeOf(part(n)))})
}

// Very many ways lead to the same nodes, each of which counts once; a way may be very long.
func TestManyWays(t *testing.T) {
	n := 1 << 16
	if testing.Short() {
		n = 1 << 10
	}
	s := shelf{}
	lost := merkle.Part{ID: api.ID{1}, Size: 1}
	wide := merkle.Part{ID: s.node(1, s.chunk("1"), lost).ID, Size: 1}
	long := wide
	for i := range n {
		if i < 200 {
			wide.ID = s.node(2+i%7, slices.Repeat([]merkle.Part{wide}, 8)...).ID
		}
		long.ID = s.node(2, long, lost).ID
	}
	for _, root := range []merkle.Part{wide, long} {
		want := Front{Paths: ids(s.path(root)), Wants: wants(chunkOf(lost))}
		if root == long {
			want.Wants = append(want.Wants, nodeOf(lost))
		}
		equal(t, "one is missing", of(t, s, want.Paths[0]), want)
	}
	s[lost.ID] = merkle.Object{Kind: oid.Chunk}
	equal(t, "nothing is missing", of(t, s, s.path(wide)), Front{Paths: ids(s.path(wide)), Ready: ids(s.path(wide))})
}

// model goes through everything, as often as it occurs, and counts what is needed as often.
type model struct {
	s            shelf
	there, begun []api.ID
	paths, ready []api.ID
	all          []Want
}

func (m *model) get(x Want) (string, bool) {
	o, found := m.s[x.ID]
	if found && o.Kind == x.Kind {
		return o.Text, true
	}
	m.all = append(m.all, x)
	return "", false
}

func (m *model) path(id api.ID) {
	if slices.Contains(m.there, id) || slices.Contains(m.begun, id) {
		return
	}
	m.begun = append(m.begun, id)
	text, found := m.get(pathOf(id))
	x, e := info.Parse(text)
	if !found || e != api.OK {
		m.paths = append(m.paths, id)
		return
	}
	for _, ref := range x.Refs {
		m.path(ref)
	}
	m.paths = append(m.paths, id)
	before := len(m.all)
	m.node(x.Root)
	if len(m.all) == before {
		m.ready = append(m.ready, id)
	}
}

func (m *model) node(part merkle.Part) {
	text, _ := m.get(nodeOf(part))
	n, e := merkle.Parse(text)
	if e != api.OK {
		return
	}
	for _, below := range n.Parts {
		if n.Level == 1 {
			m.get(chunkOf(below))
		} else {
			m.node(below)
		}
	}
}

// slow is what Of returns, by the model.
func slow(s shelf, there []api.ID, id api.ID) (Front, api.Errno) {
	m := &model{s: s, there: there}
	m.path(id)
	if len(m.paths) > 32 {
		return Front{}, api.ErrBig
	}
	f := Front{Paths: m.paths, Ready: m.ready}
	for i, x := range m.all {
		if !slices.Contains(m.all[:i], x) {
			f.Wants = append(f.Wants, x)
		}
	}
	return f, api.OK
}

// Sources of all kinds of objects that refer to each other: parts of any level, names that are missing, paths that refer to anything.
func TestRandomSources(t *testing.T) {
	ready, needed, tooMany := 0, 0, 0
	for seed := range 400 {
		r := rand.New(rand.NewSource(int64(seed)))
		s := shelf{}
		parts := []merkle.Part{s.chunk("a"), s.chunk("bb"), s.chunk("ccc"), {ID: api.ID{1}, Size: 1}}
		paths := []api.ID{{2}}
		for range 20 + 15*(seed%7) {
			var l []merkle.Part
			for range 1 + r.Intn(4) {
				l = append(l, parts[r.Intn(len(parts))])
			}
			if p := s.node(1+r.Intn(3), l...); p.Size < 200 {
				parts = append(parts, p)
			}
			var refs []api.ID
			for range r.Intn(5) {
				refs = append(refs, paths[r.Intn(len(paths))])
			}
			paths = append(paths, s.path(parts[r.Intn(len(parts))], refs...))
			if r.Intn(3) == 0 {
				parts = append(parts, merkle.Part{ID: parts[r.Intn(len(parts))].ID, Size: 1 + r.Intn(3)})
			}
		}
		gaps := []int{8, 20, 60, 300}[seed%4]
		for _, id := range paths {
			if r.Intn(gaps) == 0 {
				delete(s, id)
			}
		}
		for _, part := range parts {
			if r.Intn(gaps) == 0 {
				delete(s, part.ID)
			}
		}
		for range 10 {
			id := paths[r.Intn(len(paths))]
			if r.Intn(2) == 0 {
				id = paths[len(paths)-1]
			}
			var there []api.ID
			for range r.Intn(5) * r.Intn(3) {
				there = append(there, paths[r.Intn(len(paths))])
			}
			want, e := slow(s, there, id)
			if f, got := Of(s, among(there...), id); got != e || !same(f, want) {
				t.Fatalf("source %d: %d, %x, not %d, %x", seed, got, f, e, want)
			}
			ready, needed = ready+len(want.Ready), needed+len(want.Wants)
			if e == api.ErrBig {
				tooMany++
			}
		}
	}
	if ready < 500 || needed < 5000 || tooMany < 20 {
		t.Errorf("the sources are too poor: %d, %d, %d", ready, needed, tooMany)
	}
}

// occurs reports whether a name occurs in a stored object.
func (s shelf) occurs(id api.ID) bool {
	for _, o := range s {
		if strings.Contains(o.Text, string(id[:])) {
			return true
		}
	}
	return false
}

// fetch puts what a path needs, of which a part arrives each time, and checks that only what is called for is needed. It returns how often.
func fetch(t *testing.T, r *rand.Rand, s, from shelf, id api.ID) int {
	t.Helper()
	for rounds := 0; ; rounds++ {
		f := of(t, s, id)
		if len(f.Wants) == 0 {
			return rounds
		}
		for _, x := range f.Wants {
			o, found := from[x.ID]
			if !found || o.Kind != x.Kind || len(o.Text) > x.Most || x.Kind == oid.Chunk && len(o.Text) != x.Most {
				t.Fatalf("no such object: %x", x)
			}
			if _, again := s[x.ID]; again || x.ID != id && !s.occurs(x.ID) {
				t.Fatalf("%x is not called for", x)
			}
		}
		if len(f.Ready) == len(f.Paths) {
			t.Fatal("something is needed for none of the paths")
		}
		for _, i := range r.Perm(len(f.Wants))[:1+r.Intn(len(f.Wants))] {
			s.put(from[f.Wants[i].ID])
		}
	}
}

// If what is needed arrives, the process ends, with exactly the objects of the paths.
func TestTheProcessEnds(t *testing.T) {
	closures := 60
	if testing.Short() {
		closures = 6
	}
	for seed := range closures {
		r := rand.New(rand.NewSource(int64(seed)))
		from := shelf{}
		var paths []api.ID
		for range 1 + r.Intn(12) {
			var refs []api.ID
			for range r.Intn(4) {
				if len(paths) > 0 {
					refs = append(refs, paths[r.Intn(len(paths))])
				}
			}
			paths = append(paths, from.add(t, noise(r.Intn(3))+noise(r.Intn(3)*r.Intn(2000)), refs...))
		}
		id := paths[len(paths)-1]
		closure := reap.Reach(from, id)
		s := shelf{}
		for _, o := range from {
			// Some of it is stored already.
			if r.Intn(4) == 0 && seed%2 == 0 {
				s.put(o)
			}
		}
		rounds := fetch(t, r, s, from, id)
		f := of(t, s, id)
		if !slices.Equal(f.Paths, f.Ready) || !slices.Equal(rising(f.Paths...), closure) || f.Paths[len(f.Paths)-1] != id {
			t.Errorf("%d paths, %d Ready, %d in the closure", len(f.Paths), len(f.Ready), len(closure))
		}
		for i, p := range f.Paths {
			x, e := info.Parse(s[p].Text)
			if e != api.OK || reap.Whole(s, p) != api.OK {
				t.Errorf("a path is not whole")
			}
			for _, ref := range x.Refs {
				if !slices.Contains(f.Paths[:i], ref) {
					t.Errorf("a path comes ahead of one of its references")
				}
			}
		}
		objects := reap.Objects(from, closure...)
		if rounds > len(objects) || seed%2 == 1 && len(s) != len(objects) {
			t.Errorf("%d objects after %d rounds, not %d", len(s), rounds, len(objects))
		}
		if t.Failed() {
			t.Fatalf("closure %d", seed)
		}
	}
}

// A store that stages what is needed, and installs what is Ready, has the path in the end.
func TestStores(t *testing.T) {
	open := func() *store.Store {
		s, e := store.Open(sector.New(4000))
		if e != api.OK {
			t.Fatalf("Open: %d", e)
		}
		return s
	}
	from, to := open(), open()
	add := func(s *store.Store, text string, refs ...api.ID) api.ID {
		id, e := s.Add(tree.Item{Kind: tree.File, Text: text}, refs...)
		if e != api.OK {
			t.Fatalf("Add: %d", e)
		}
		return id
	}
	a := add(from, noise(900))
	b := add(from, noise(5000), a)
	c := add(from, noise(5000)+"c", b, a)
	if add(to, noise(900)) != a {
		t.Fatal("other names")
	}
	there := func(id api.ID) bool {
		_, ok := to.Path(id)
		return ok
	}
	var staged []int
	for range 20 {
		f, e := Of(to, there, c)
		if e != api.OK {
			t.Fatalf("Of: %d", e)
		}
		for _, id := range f.Ready {
			// A path may be Ready while one that it refers to is not.
			if e := to.Install(id); e != api.OK && (e != api.ErrRef || there(b)) {
				t.Fatalf("Install: %d", e)
			}
		}
		if len(f.Wants) == 0 {
			break
		}
		bytes := 0
		for _, x := range f.Wants {
			o, e := from.Get(x.ID)
			if e != api.OK || to.Stage(o) != api.OK {
				t.Fatalf("Get: %d", e)
			}
			bytes += len(o.Text)
		}
		if bytes > f.Bytes() {
			t.Errorf("%d bytes, not %d", bytes, f.Bytes())
		}
		staged = append(staged, len(f.Wants))
	}
	if !there(b) || !there(c) || staged[0] != 1 || staged[1] != 2 {
		t.Errorf("staged %v", staged)
	}
	item, refs, e := to.Read(c)
	if e != api.OK || item.Text != noise(5000)+"c" || !slices.Equal(refs, rising(a, b)) {
		t.Errorf("Read: %d", e)
	}
	if f, e := Of(to, there, c); e != api.OK || !same(f, Front{}) {
		t.Errorf("%d, %x", e, f)
	}
}

func TestResultsAreApart(t *testing.T) {
	s := shelf{}
	lost := merkle.Part{ID: api.ID{1}, Size: 1}
	a := s.path(s.node(1, s.chunk("a")))
	b := s.path(s.node(1, lost), a, api.ID{5})
	first := of(t, s, b)
	want := Front{Paths: slices.Clone(first.Paths), Wants: slices.Clone(first.Wants), Ready: slices.Clone(first.Ready)}
	for range 2 {
		f := of(t, s, b)
		clear(f.Paths)
		clear(f.Wants)
		clear(f.Ready)
		_ = append(append(f.Paths[:0], a, a, a, a), f.Ready...)
	}
	given := slices.Clone(first.Wants)
	first.Bytes()
	if !slices.Equal(given, first.Wants) {
		t.Error("Bytes changes the wants")
	}
	equal(t, "the first result", first, want)
	equal(t, "again", of(t, s, b), want)
}

// The same calls return the same again.
func TestTheSameAgain(t *testing.T) {
	run := func() []Front {
		s := shelf{}
		var fronts []Front
		var l []api.ID
		for i := range 20 {
			l = append(l, s.add(t, noise(100*i), l[max(0, i-5):]...))
		}
		for i, o := range l {
			for range 2 {
				fronts = append(fronts, of(t, s.without(l[i/2]), o), of(t, s, o))
			}
		}
		return fronts
	}
	want := run()
	for range 5 {
		for i, f := range run() {
			equal(t, "again", f, want[i])
		}
	}
	for i := 0; i < len(want); i += 4 {
		equal(t, "twice", want[i], want[i+2])
		equal(t, "twice", want[i+1], want[i+3])
	}
}

// Whatever bytes objects have, no call panics, and every call ends.
func FuzzSources(f *testing.F) {
	f.Add([]byte("\x01\x01\x01\x01"), []byte("x"), []byte("\x01\x02\x03\x04\x05\x06\x07\x08"))
	f.Add([]byte(merkle.Node{Level: 2, Parts: []merkle.Part{{Size: 3}}}.Text()), []byte(info.Info{Root: merkle.Part{Size: 1}}.Text()), bytes.Repeat([]byte{3, 8, 70, 200, 11}, 12))
	f.Fuzz(func(t *testing.T, node, own, build []byte) {
		s := shelf{}
		s.put(merkle.Make(oid.Node, string(node)), merkle.Make(oid.Path, string(own)))
		names := ids(oid.Of(oid.Node, string(node)), oid.Of(oid.Path, string(own)), api.ID{1})
		for i := 0; i+3 < min(len(build), 48); i += 4 {
			part := func(b byte) merkle.Part {
				return merkle.Part{ID: names[int(b)%len(names)], Size: 1 + int(b>>6)}
			}
			x, y := part(build[i+1]), part(build[i+2])
			switch build[i] % 4 {
			case 0:
				names = append(names, s.chunk(string(build[i+1:i+4])).ID)
			case 1:
				names = append(names, s.path(x, y.ID, part(build[i+3]).ID))
			default:
				names = append(names, s.node(int(build[i]>>2)%10, x, y).ID)
			}
			if build[i] > 250 {
				delete(s, names[len(names)-1])
			}
		}
		last := names[len(names)-1]
		for _, id := range ids(last, s.path(merkle.Part{ID: last, Size: 1}, last), s.path(merkle.Part{ID: names[0], Size: 1}, names[1])) {
			want, e := slow(s, names[2:3], id)
			if f, got := Of(s, among(names[2]), id); got != e || !same(f, want) {
				t.Fatalf("%d, %x, not %d, %x", got, f, e, want)
			}
		}
	})
}
