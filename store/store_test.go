package store

import (
	"bytes"
	"math/rand"
	"slices"
	"strings"
	"testing"

	"caravan/api"
	"caravan/archive"
	"caravan/book"
	"caravan/depot"
	"caravan/info"
	"caravan/merkle"
	"caravan/oid"
	"caravan/registry"
	"caravan/sector"
	"caravan/tree"
)

// The signatures that the chapter lists: a store embeds its registry, whose methods are promoted.
var (
	_ func(*sector.Disk) (*Store, api.Errno)                 = Open
	_ func(*Store) bool                                      = (*Store).Sick
	_ func(*Store) int                                       = (*Store).Free
	_ func(*Store, api.ID) (merkle.Object, api.Errno)        = (*Store).Get
	_ func(*Store, ...api.ID) bool                           = (*Store).Has
	_ func(*Store) []api.ID                                  = (*Store).Objects
	_ func(*Store, ...merkle.Object) api.Errno               = (*Store).Stage
	_ func(*Store) api.Errno                                 = (*Store).Sync
	_ func(*Store, tree.Item, ...api.ID) (api.ID, api.Errno) = (*Store).Add
	_ func(*Store, api.ID) api.Errno                         = (*Store).Install
	_ func(*Store, api.ID) (tree.Item, []api.ID, api.Errno)  = (*Store).Read
	_ func(*Store, api.ID, bool) api.Errno                   = (*Store).Hold
	_ func(*Store, api.ID, bool) api.Errno                   = (*Store).Ask
	_ func(*Store) (int, api.Errno)                          = (*Store).Gc
	_ func(*Store) ([]api.ID, api.Errno)                     = (*Store).Scrub
	_ func(*Store, api.ID) (info.Info, bool)                 = (*Store).Path
	_ func(*Store) []api.ID                                  = (*Store).Paths
	_ func(*Store) []api.ID                                  = (*Store).Held
	_ func(*Store) []api.ID                                  = (*Store).Asked
	_ func(*Store, ...api.ID) []api.ID                       = (*Store).Closure
	_ *registry.Registry                                     = Store{}.Registry
)

func file(text string) tree.Item { return tree.Item{Kind: tree.File, Text: text} }

// noise is n bytes that are cut into many different chunks.
func noise(n int) string {
	b := make([]byte, n)
	rand.New(rand.NewSource(int64(n))).Read(b)
	return string(b)
}

func compare(a, b api.ID) int { return bytes.Compare(a[:], b[:]) }

// rising is names in ascending order, each once.
func rising(l ...api.ID) []api.ID {
	list := slices.Clone(l)
	slices.SortFunc(list, compare)
	return slices.Compact(list)
}

// path is a tree with references, and everything that a store has of it.
type path struct {
	item    tree.Item
	refs    []api.ID
	x       info.Info
	id      api.ID
	objects []merkle.Object // its own one at the end
}

func of(t *testing.T, item tree.Item, refs ...api.ID) path {
	t.Helper()
	x, l, e := info.Of(item, refs...)
	if e != api.OK {
		t.Fatalf("Of: %d", e)
	}
	return made(item, x, l)
}

// made is a path whose info and objects may be any, as another node may make them up.
func made(item tree.Item, x info.Info, l []merkle.Object) path {
	own := merkle.Make(oid.Path, x.Text())
	return path{item: item, refs: x.Refs, x: x, id: own.ID, objects: append(l, own)}
}

// over is a path over these chunks.
func over(t *testing.T, item tree.Item, chunks []string, refs ...api.ID) path {
	t.Helper()
	root, l, e := merkle.Build(chunks...)
	if e != api.OK {
		t.Fatalf("Build: %d", e)
	}
	return made(item, info.Info{Root: root, Refs: rising(refs...)}, l)
}

func (p path) names() []api.ID {
	var list []api.ID
	for _, o := range p.objects {
		list = append(list, o.ID)
	}
	return rising(list...)
}

// cost is how many sectors the objects have, each once.
func cost(l ...merkle.Object) int {
	n := 0
	for i, o := range l {
		if !slices.Contains(l[:i], o) {
			n += book.Cost(1 + len(o.Text))
		}
	}
	return n
}

func (p path) cost() int { return cost(p.objects...) + p.there() }

// there is how many sectors its record There has.
func (p path) there() int { return book.Cost(len(p.x.Text())) }

// named is how many sectors a record with a name has.
var named = book.Cost(32)

// on opens a disk where nothing stands in the way.
func on(t *testing.T, disk *sector.Disk) *Store {
	t.Helper()
	s, e := Open(disk)
	if e != api.OK || s == nil {
		t.Fatalf("Open: %d", e)
	}
	return s
}

// fresh is a store on a new disk, with that many sectors in a half.
func fresh(t *testing.T, half int) (*Store, *sector.Disk) {
	t.Helper()
	disk := sector.New(2 + 2*half)
	return on(t, disk), disk
}

func ok(t *testing.T, what string, l ...api.Errno) {
	t.Helper()
	for _, e := range l {
		if e != api.OK {
			t.Fatalf("%s: %d", what, e)
		}
	}
}

func add(t *testing.T, s *Store, l ...path) {
	t.Helper()
	for _, p := range l {
		if id, e := s.Add(p.item, p.refs...); e != api.OK || id != p.id {
			t.Fatalf("Add: %x, %d, not %x", id, e, p.id)
		}
	}
}

func same(t *testing.T, what string, got []api.ID, want ...api.ID) {
	t.Helper()
	if !slices.Equal(got, want) {
		t.Errorf("%s: %x, not %x", what, got, want)
	}
}

// has tells whether a store has these paths, all of which can be read, and exactly the objects of these and more.
func has(t *testing.T, s *Store, l []path, more ...merkle.Object) {
	t.Helper()
	var paths, objects []api.ID
	for _, p := range l {
		paths, objects = append(paths, p.id), append(objects, p.names()...)
		reads(t, s, p)
	}
	for _, o := range more {
		objects = append(objects, o.ID)
	}
	same(t, "Paths", s.Paths(), rising(paths...)...)
	same(t, "Objects", s.Objects(), rising(objects...)...)
	for _, id := range objects {
		if o, e := s.Get(id); e != api.OK || o.ID != id || o != merkle.Make(o.Kind, o.Text) {
			t.Errorf("Get: %+v, %d", o, e)
		}
	}
	if !s.Has(objects...) || s.Has(append(objects, api.ID{99})...) {
		t.Errorf("Has: %t", s.Has(objects...))
	}
}

func reads(t *testing.T, s *Store, p path) {
	t.Helper()
	x, refs, e := s.Read(p.id)
	if e != api.OK || !tree.Same(x, p.item) || !slices.Equal(refs, p.refs) {
		t.Errorf("Read: %+v, %x, %d", x, refs, e)
	}
}

func fails(t *testing.T, s *Store, id api.ID, want api.Errno) {
	t.Helper()
	if x, refs, e := s.Read(id); e != want || !tree.Same(x, tree.Item{}) || refs != nil {
		t.Errorf("Read: %+v, %x, %d, not %d", x, refs, e, want)
	}
}

// pins tells what is held and asked for.
func pins(t *testing.T, s *Store, held, asked []api.ID) {
	t.Helper()
	same(t, "Held", s.Held(), rising(held...)...)
	same(t, "Asked", s.Asked(), rising(asked...)...)
}

// contents reads a whole disk.
func contents(t *testing.T, d *sector.Disk) string {
	t.Helper()
	n, armed := d.Armed()
	d.Clear()
	text, e := d.Read(0, d.Size())
	ok(t, "Read", e)
	if armed {
		d.Arm(n)
	}
	return text
}

// spoil alters a byte of an object on the disk, which is found by its bytes, wherever these are: what another turn has left there does not matter.
func spoil(t *testing.T, d *sector.Disk, o merkle.Object) {
	t.Helper()
	text := contents(t, d)
	record := string([]byte{byte(o.Kind)}) + o.Text
	found := false
	for from := strings.Index(text, record); from >= 0; {
		end := from + len(record)
		for at := from; at < end; at++ {
			if at%sector.Len >= 40 {
				ok(t, "Spoil", d.Spoil(at/sector.Len, at%sector.Len, 4))
				found = true
				break
			}
		}
		next := strings.Index(text[end:], record)
		if next < 0 {
			break
		}
		from = end + next
	}
	if !found {
		t.Fatalf("an object of kind %d with %d bytes cannot be spoilt", o.Kind, len(o.Text))
	}
}

func TestExample(t *testing.T) {
	s, _ := fresh(t, 40)
	a := of(t, file("a"))
	add(t, s, a)
	if n, e := s.Gc(); n != 1 || e != api.OK {
		t.Errorf("Gc: %d, %d", n, e)
	}
	has(t, s, nil)
	add(t, s, a)
	ok(t, "Hold", s.Hold(a.id, true))
	if n, e := s.Gc(); n != 0 || e != api.OK {
		t.Errorf("Gc: %d, %d", n, e)
	}
	has(t, s, []path{a})
}

func TestEmptyStore(t *testing.T) {
	s, disk := fresh(t, 1)
	has(t, s, nil)
	pins(t, s, nil, nil)
	if s.Sick() || s.Free() != 1 || !s.Has() || s.Has(api.ID{}) || s.Stage() != api.OK || s.Sync() != api.OK {
		t.Error("an empty store has something")
	}
	if n, e := s.Gc(); n != 0 || e != api.OK {
		t.Errorf("Gc: %d, %d", n, e)
	}
	if l, e := s.Scrub(); len(l) != 0 || e != api.OK {
		t.Errorf("Scrub: %x, %d", l, e)
	}
	if o, e := s.Get(api.ID{}); o != (merkle.Object{}) || e != api.ErrUnknown {
		t.Errorf("Get: %+v, %d", o, e)
	}
	fails(t, s, api.ID{}, api.ErrUnknown)
	if id, e := s.Add(file("")); id != (api.ID{}) || e != api.ErrSpace || s.Ask(api.ID{1}, true) != api.ErrSpace || s.Install(api.ID{}) != api.ErrUnknown {
		t.Errorf("Add: %x, %d", id, e)
	}
	has(t, s, nil)
	pins(t, s, nil, nil)
	has(t, on(t, disk), nil)
}

func TestOpenRefuses(t *testing.T) {
	for n := range 4 {
		if s, e := Open(sector.New(n)); s != nil || e != api.ErrArg {
			t.Errorf("%d sectors: %v, %d", n, s, e)
		}
	}
	for n := 0; ; n++ {
		disk := sector.New(100)
		disk.Arm(n)
		s, e := Open(disk)
		if e == api.OK {
			if n < 4 || s.Sick() {
				t.Errorf("%d calls were enough", n)
			}
			break
		}
		if s != nil || e != api.ErrIO {
			t.Fatalf("after %d calls: %v, %d", n, s, e)
		}
	}
	disk := sector.New(3)
	disk.Arm(0)
	if _, e := Open(disk); e != api.ErrArg {
		t.Errorf("ErrArg comes first: %d", e)
	}
}

// The records of a store are objects and those of a registry, each of which has no error.
func TestOpenRecords(t *testing.T) {
	a := of(t, file("a"))
	b := of(t, file("b"), a.id)
	adds := func(p path) book.Record { return registry.Adds(p.x) }
	with := func(kind int, p path) book.Record { return registry.Record(kind, p.id) }
	for i, c := range []struct {
		l    []book.Record
		want api.Errno
	}{
		{nil, api.OK},
		{[]book.Record{adds(a), adds(b), with(registry.Hold, b), with(registry.Ask, a)}, api.OK},
		{[]book.Record{adds(a), with(registry.Gone, a), with(registry.Ask, b), with(registry.Forget, b)}, api.OK},
		{[]book.Record{{Kind: 1, Data: "\x01chunk"}, {Kind: 1, Data: "\x02"}, {Kind: 1, Data: "\x03path"}, {Kind: 1, Data: "\x01chunk"}}, api.OK},
		{[]book.Record{adds(b)}, api.ErrForm},
		{[]book.Record{adds(b), adds(a)}, api.ErrForm},
		{[]book.Record{adds(a), {Kind: registry.There, Data: a.x.Text() + "\x00"}}, api.ErrForm},
		{[]book.Record{{Kind: registry.There}}, api.ErrForm},
		{[]book.Record{with(registry.Gone, a)}, api.ErrForm},
		{[]book.Record{adds(a), adds(b), with(registry.Gone, a)}, api.ErrForm},
		{[]book.Record{with(registry.Hold, a)}, api.ErrForm},
		{[]book.Record{adds(a), with(registry.Free, a)}, api.ErrForm},
		{[]book.Record{adds(a), with(registry.Forget, a)}, api.ErrForm},
		{[]book.Record{{Kind: registry.Ask, Data: "short"}}, api.ErrForm},
		{[]book.Record{{Kind: 8, Data: string(a.id[:])}}, api.ErrForm},
		{[]book.Record{adds(a), {Kind: 200}}, api.ErrForm},
		{[]book.Record{{Kind: 1}}, api.ErrForm},
		{[]book.Record{{Kind: 1, Data: "\x00"}}, api.ErrForm},
		{[]book.Record{{Kind: 1, Data: "\x04peer"}}, api.ErrForm},
	} {
		disk := sector.New(100)
		b, _, e := book.Open(disk)
		ok(t, "Open", e)
		_, e = b.Rewrite(c.l...)
		ok(t, "Rewrite", e)
		if s, e := Open(disk); e != c.want || (s == nil) != (e != api.OK) {
			t.Errorf("%d: %v, %d, not %d", i, s, e, c.want)
		}
	}
}

// Another Open finds everything that the store had.
func TestOpenContents(t *testing.T) {
	s, disk := fresh(t, 200)
	a := of(t, file("a"))
	b := of(t, tree.Of(tree.Entry{Name: "x", Item: file(noise(500))}), a.id)
	c := of(t, file("c"))
	staged := merkle.Make(oid.Chunk, "staged")
	add(t, s, a, b, c)
	ok(t, "pins", s.Hold(b.id, true), s.Ask(c.id, true), s.Ask(api.ID{7}, true), s.Stage(staged, staged), s.Sync())
	free := s.Free()
	want := 200 - a.cost() - b.cost() - c.cost() - 3*named - cost(staged)
	for range 3 {
		has(t, s, []path{a, b, c}, staged)
		pins(t, s, []api.ID{b.id}, []api.ID{c.id, {7}})
		if s.Free() != free || free != want {
			t.Errorf("%d free, not %d", s.Free(), want)
		}
		disk.Crash()
		s = on(t, disk)
	}
	if x, there := s.Path(b.id); !there || !info.Same(x, b.x) {
		t.Errorf("Path: %+v, %t", x, there)
	}
}

// A store has nothing that is not on its disk.
func TestStoresAreApart(t *testing.T) {
	s, _ := fresh(t, 40)
	q, _ := fresh(t, 40)
	a, b := of(t, file("a")), of(t, file("b"))
	add(t, s, a)
	add(t, q, b)
	has(t, s, []path{a})
	has(t, q, []path{b})
}

func TestStage(t *testing.T) {
	a, b, c := merkle.Make(oid.Chunk, "a"), merkle.Make(oid.Node, noise(100)), merkle.Make(oid.Path, "c")
	s, disk := fresh(t, 40)
	ok(t, "Stage", s.Stage(a), s.Stage(a, b, a), s.Stage())
	has(t, s, nil, a, b)
	if s.Free() != 40-cost(a, b) {
		t.Errorf("%d free", s.Free())
	}
	// What is staged is not durable before a Sync.
	ok(t, "Sync", s.Sync())
	ok(t, "Stage", s.Stage(c))
	has(t, s, nil, a, b, c)
	disk.Crash()
	has(t, on(t, disk), nil, a, b)
}

func TestStageRefuses(t *testing.T) {
	kept, good := merkle.Make(oid.Chunk, "kept"), merkle.Make(oid.Chunk, "good")
	for i, c := range []struct {
		o    merkle.Object
		want api.Errno
	}{
		{merkle.Make(oid.Chunk, strings.Repeat("x", 4096)), api.ErrBig},
		{merkle.Object{Kind: oid.Chunk, ID: kept.ID, Text: strings.Repeat("x", 4096)}, api.ErrBig},
		{merkle.Object{}, api.ErrSum},
		{merkle.Make(oid.Peer, "p"), api.ErrSum},
		{merkle.Make(0, "p"), api.ErrSum},
		{merkle.Make(-1, "p"), api.ErrSum},
		{merkle.Make(oid.Chunk+256, "p"), api.ErrSum},
		{merkle.Object{Kind: oid.Chunk, ID: api.ID{1}, Text: "x"}, api.ErrSum},
		{merkle.Object{Kind: oid.Node, ID: kept.ID, Text: kept.Text}, api.ErrSum},
		{merkle.Object{Kind: oid.Chunk, ID: kept.ID, Text: "x"}, api.ErrSum},
		// Room is made first.
		{merkle.Object{Kind: oid.Chunk, ID: api.ID{1}, Text: strings.Repeat("x", 9999)}, api.ErrSpace},
		{merkle.Make(oid.Peer, strings.Repeat("x", 9999)), api.ErrSpace},
	} {
		for _, l := range [][]merkle.Object{{c.o}, {good, c.o}, {kept, c.o, good}} {
			s, disk := fresh(t, 100)
			ok(t, "Stage", s.Stage(kept))
			before, free := contents(t, disk), s.Free()
			if e := s.Stage(l...); e != c.want {
				t.Errorf("%d: %d, not %d", i, e, c.want)
			}
			if c.want == api.ErrSpace {
				// Packing has removed what nobody needs.
				has(t, s, nil)
				continue
			}
			has(t, s, nil, kept)
			if s.Free() != free || contents(t, disk) != before || s.Sick() {
				t.Errorf("%d: something has changed", i)
			}
		}
	}
}

// sized is a chunk that occupies that many sectors.
func sized(sectors, n int) merkle.Object {
	return merkle.Make(oid.Chunk, string(rune('a'+n))+strings.Repeat("x", 64*sectors-40))
}

func TestStageMakesRoom(t *testing.T) {
	a := of(t, file("a"))
	s, _ := fresh(t, a.cost()+6)
	add(t, s, a)
	ok(t, "Stage", s.Stage(sized(2, 0)), s.Stage(sized(4, 1)))
	has(t, s, []path{a}, sized(2, 0), sized(4, 1))
	// What is stored does not need room.
	ok(t, "Stage", s.Stage(sized(4, 1), sized(2, 0)))
	has(t, s, []path{a}, sized(2, 0), sized(4, 1))
	ok(t, "Stage", s.Stage(sized(1, 2)))
	has(t, s, []path{a}, sized(1, 2))
	ok(t, "Stage", s.Stage(sized(5, 3)))
	has(t, s, []path{a}, sized(1, 2), sized(5, 3))
	ok(t, "Stage", s.Stage(sized(6, 4)))
	has(t, s, []path{a}, sized(6, 4))
	if e := s.Stage(sized(7, 5)); e != api.ErrSpace {
		t.Errorf("Stage: %d", e)
	}
	has(t, s, []path{a})
	if e := s.Stage(sized(3, 1), sized(4, 2)); e != api.ErrSpace || s.Free() != 6 {
		t.Errorf("Stage: %d", e)
	}
	has(t, s, []path{a})
}

// Packing may remove objects that were stored, so that they need room after all. The error is that of Put, but nothing is stored then.
func TestStageAfterPacking(t *testing.T) {
	bad := merkle.Object{Kind: oid.Chunk, Text: "bad"}
	for i, c := range []struct {
		l    []merkle.Object
		want api.Errno
	}{
		{[]merkle.Object{sized(4, 0), sized(3, 1)}, api.OK},
		{[]merkle.Object{sized(4, 0), sized(6, 1)}, api.OK},
		{[]merkle.Object{sized(4, 0), sized(7, 1)}, api.ErrSpace},
		{[]merkle.Object{sized(7, 1), sized(4, 0)}, api.ErrSpace},
		{[]merkle.Object{sized(4, 0), sized(7, 1), bad}, api.ErrSpace},
		{[]merkle.Object{sized(4, 0), bad, sized(7, 1)}, api.ErrSum},
		{[]merkle.Object{sized(4, 0), sized(4, 0), sized(6, 1), sized(6, 1)}, api.OK},
	} {
		s, _ := fresh(t, 10)
		ok(t, "Stage", s.Stage(sized(4, 0), sized(4, 9)))
		if e := s.Stage(c.l...); e != c.want {
			t.Errorf("%d: %d, not %d", i, e, c.want)
		}
		if c.want == api.OK {
			has(t, s, nil, c.l...)
		} else {
			has(t, s, nil)
		}
	}
}

func TestAdd(t *testing.T) {
	a := of(t, file("lib"))
	b := of(t, tree.Of(tree.Entry{Name: "b", Item: file(noise(3000))}, tree.Entry{Name: "a", Item: tree.Item{Kind: tree.Link, Text: "b"}}), a.id)
	c := of(t, file("lib"), b.id, a.id)
	s, disk := fresh(t, 400)
	left := 400
	for i, p := range []path{a, b, c} {
		add(t, s, p)
		left -= p.cost()
		if i == 2 {
			// The tree is that of a, whose objects are stored once.
			left += cost(a.objects[:len(a.objects)-1]...)
		}
		if s.Free() != left {
			t.Errorf("%d free, not %d", s.Free(), left)
		}
		disk.Crash()
		s = on(t, disk)
		has(t, s, []path{a, b, c}[:i+1])
	}
	// A path that is there is not added once more, however it is said.
	before := contents(t, disk)
	add(t, s, a, b, c)
	if id, e := s.Add(c.item, a.id, b.id, a.id, b.id); id != c.id || e != api.OK || s.Free() != left || contents(t, disk) != before {
		t.Errorf("Add: %x, %d, %d free", id, e, s.Free())
	}
	pins(t, s, nil, nil)
}

func TestAddRefuses(t *testing.T) {
	s, disk := fresh(t, 60)
	a := of(t, file("a"))
	add(t, s, a)
	before := contents(t, disk)
	var nine []api.ID
	for i := range 9 {
		nine = append(nine, api.ID{byte(i)})
	}
	for i, c := range []struct {
		x    tree.Item
		refs []api.ID
		want api.Errno
	}{
		{tree.Item{}, nil, api.ErrTree},
		{tree.Item{Kind: tree.Link}, nil, api.ErrTree},
		{file(strings.Repeat("x", 8193)), nil, api.ErrBig},
		{tree.Item{}, nine, api.ErrTree},
		{file("x"), nine, api.ErrBig},
		{file("x"), []api.ID{{1}}, api.ErrRef},
		{file("x"), []api.ID{a.id, {1}}, api.ErrRef},
		{file("x"), nine[:8], api.ErrRef},
		{file("x"), []api.ID{of(t, file("x")).id}, api.ErrRef},
		{file("a"), []api.ID{{1}}, api.ErrRef},
		// ErrRef is named ahead of ErrSpace.
		{file(noise(8000)), []api.ID{{1}}, api.ErrRef},
	} {
		if id, e := s.Add(c.x, c.refs...); id != (api.ID{}) || e != c.want {
			t.Errorf("%d: %x, %d, not %d", i, id, e, c.want)
		}
		if contents(t, disk) != before {
			t.Errorf("%d: something has changed", i)
		}
	}
	if id, e := s.Add(file(noise(8000))); id != (api.ID{}) || e != api.ErrSpace {
		t.Errorf("%x, %d", id, e)
	}
	has(t, s, []path{a})
}

// A reference to a name that is only asked for, or whose objects are stored, is not there.
func TestAddNeedsReferences(t *testing.T) {
	s, _ := fresh(t, 100)
	a := of(t, file("a"))
	ok(t, "Stage", s.Stage(a.objects...), s.Ask(a.id, true))
	if _, e := s.Add(file("b"), a.id); e != api.ErrRef {
		t.Errorf("%d", e)
	}
	ok(t, "Install", s.Install(a.id))
	add(t, s, of(t, file("b"), a.id))
}

func TestAddFillsTheLastSector(t *testing.T) {
	for _, n := range []int{0, 1, 100, 1000} {
		p := of(t, file(noise(n)))
		s, disk := fresh(t, p.cost())
		add(t, s, p)
		if s.Free() != 0 {
			t.Errorf("%d bytes: %d free", n, s.Free())
		}
		has(t, on(t, disk), []path{p})
		s, disk = fresh(t, p.cost()-1)
		if id, e := s.Add(p.item); id != (api.ID{}) || e != api.ErrSpace {
			t.Errorf("%d bytes: %x, %d", n, id, e)
		}
		has(t, s, nil)
		has(t, on(t, disk), nil)
	}
}

func TestAddMakesRoom(t *testing.T) {
	a, p := of(t, file("a")), of(t, file(noise(1000)))
	for _, short := range []int{0, 1} {
		s, _ := fresh(t, a.cost()+p.cost()-short)
		add(t, s, a)
		ok(t, "Stage", s.Stage(sized(3, 0)))
		id, e := s.Add(p.item)
		if short == 0 {
			if e != api.OK || id != p.id {
				t.Fatalf("Add: %x, %d", id, e)
			}
			has(t, s, []path{a, p})
			continue
		}
		if e != api.ErrSpace || id != (api.ID{}) {
			t.Errorf("Add: %x, %d", id, e)
		}
		has(t, s, []path{a})
	}
}

// If there is room, nothing is packed.
func TestAddKeepsWhatIsStaged(t *testing.T) {
	a := of(t, file("a"))
	s, _ := fresh(t, a.cost()+3)
	ok(t, "Stage", s.Stage(sized(3, 0)))
	add(t, s, a)
	has(t, s, []path{a}, sized(3, 0))
}

// Objects that are stored need no room, unless they have to be packed away: then they need it again.
func TestAddAfterPacking(t *testing.T) {
	p := of(t, file(noise(1000)))
	s, _ := fresh(t, p.cost())
	ok(t, "Stage", s.Stage(p.objects...))
	add(t, s, p)
	has(t, s, []path{p})
	for short := range 2 {
		s, _ = fresh(t, p.cost()-short)
		ok(t, "Stage", s.Stage(p.objects...), s.Stage(sized(1, 0)))
		id, e := s.Add(p.item)
		if short == 0 {
			if e != api.OK || id != p.id {
				t.Fatalf("Add: %x, %d", id, e)
			}
			has(t, s, []path{p})
			continue
		}
		if e != api.ErrSpace || id != (api.ID{}) {
			t.Errorf("Add: %x, %d", id, e)
		}
		has(t, s, nil)
	}
	// What is asked for is kept.
	s, _ = fresh(t, p.cost()+named)
	ok(t, "Ask", s.Ask(p.id, true), s.Stage(p.objects...), s.Stage(sized(1, 0)))
	add(t, s, p)
	has(t, s, []path{p})
}

func TestInstall(t *testing.T) {
	a := of(t, file("a"))
	b := of(t, file(noise(2000)), a.id)
	s, disk := fresh(t, 200)
	ok(t, "Stage", s.Stage(a.objects...), s.Stage(b.objects...))
	ok(t, "Install", s.Install(a.id), s.Install(b.id))
	if want := 200 - a.cost() - b.cost(); s.Free() != want {
		t.Errorf("%d free, not %d", s.Free(), want)
	}
	before := contents(t, disk)
	ok(t, "Install", s.Install(b.id), s.Install(a.id))
	if contents(t, disk) != before {
		t.Error("what is there was installed again")
	}
	disk.Crash()
	s = on(t, disk)
	has(t, s, []path{a, b})
	pins(t, s, nil, nil)
	ok(t, "Install", s.Install(a.id))
}

func TestInstallRefuses(t *testing.T) {
	a := of(t, file("a"))
	packed := func(x tree.Item) string {
		text, e := archive.Write(x)
		ok(t, "Write", e)
		return text
	}
	cut := func(s string, at ...int) (l []string) {
		for _, i := range at {
			l, s = append(l, s[:i]), s[i:]
		}
		return append(l, s)
	}
	text := packed(file("abc"))
	resized := func(p path, size int) path {
		p.x.Root.Size = size
		return made(p.item, p.x, p.objects[:len(p.objects)-1])
	}
	deep := of(t, file("abc"))
	root := merkle.Make(oid.Node, merkle.Node{Level: 2, Parts: []merkle.Part{deep.x.Root}}.Text())
	deep = made(deep.item, info.Info{Root: merkle.Part{ID: root.ID, Size: len(text)}}, append(deep.objects[:len(deep.objects)-1], root))
	for i, c := range []struct {
		p    path
		want api.Errno
	}{
		{over(t, file("abc"), []string{text}), api.OK},
		{over(t, file("abc"), []string{text}, a.id), api.OK},
		// The tree in other chunks, or below another root, has another name.
		{over(t, file("abc"), cut(text, 3)), api.ErrTree},
		{over(t, file("abc"), cut(text, 1, 2, 3)), api.ErrTree},
		{over(t, file("abc"), cut(text, 3), a.id), api.ErrTree},
		{deep, api.ErrTree},
		// What is not an archive, or not that of a tree.
		{over(t, file(""), []string{"x"}), api.ErrForm},
		{over(t, file(""), []string{text + "x"}), api.ErrForm},
		{over(t, file(""), []string{text[:len(text)-1]}), api.ErrEnd},
		{over(t, file(""), []string{"crv\x01\x01\x05"}), api.ErrBig},
		{over(t, file(""), []string{"crv\x01\x01\x03\x00"}), api.ErrTree},
		// The error of Whole comes first, ErrRef last.
		{resized(over(t, file("abc"), []string{text}), len(text)+1), api.ErrForm},
		{resized(over(t, file("abc"), []string{"x"}), 2), api.ErrForm},
		{over(t, file("abc"), cut(text, 3), api.ID{1}), api.ErrTree},
		{over(t, file("abc"), []string{"x"}, api.ID{1}), api.ErrForm},
		{over(t, file("abc"), []string{text}, api.ID{1}), api.ErrRef},
		{over(t, file("abc"), []string{text}, a.id, api.ID{1}), api.ErrRef},
	} {
		s, disk := fresh(t, 100)
		add(t, s, a)
		ok(t, "Stage", s.Stage(c.p.objects...))
		before := contents(t, disk)
		if e := s.Install(c.p.id); e != c.want {
			t.Errorf("%d: %d, not %d", i, e, c.want)
		}
		if c.want == api.OK {
			has(t, s, []path{a, c.p})
			continue
		}
		has(t, s, []path{a}, c.p.objects...)
		if contents(t, disk) != before || s.Sick() {
			t.Errorf("%d: something has changed", i)
		}
	}
}

// Without one of its objects a path is not installed, nor with one that is spoilt.
func TestInstallNeedsAllObjects(t *testing.T) {
	p := of(t, file(noise(1500)), api.ID{1})
	for i, o := range p.objects {
		s, disk := fresh(t, 200)
		rest := slices.Delete(slices.Clone(p.objects), i, i+1)
		ok(t, "Stage", s.Stage(rest...))
		if e := s.Install(p.id); e != api.ErrUnknown {
			t.Errorf("%d: %d", i, e)
		}
		ok(t, "Stage", s.Stage(o), s.Sync())
		spoil(t, disk, o)
		want := api.ErrSum
		if o.Kind == oid.Path {
			want = api.ErrUnknown
		}
		if e := s.Install(p.id); e != want || s.Sick() {
			t.Errorf("%d: %d, not %d", i, e, want)
		}
		same(t, "Paths", s.Paths())
	}
	s, _ := fresh(t, 200)
	ok(t, "Stage", s.Stage(p.objects...))
	for _, id := range append(p.names(), api.ID{}) {
		want := api.ErrUnknown
		if id == p.id {
			want = api.ErrRef
		}
		if e := s.Install(id); e != want {
			t.Errorf("%d, not %d", e, want)
		}
	}
}

// When Install makes room, the objects of its own path are kept, too, whether it is asked for or not.
func TestInstallMakesRoom(t *testing.T) {
	a := of(t, file("a"))
	p := of(t, file(noise(700)), a.id)
	s, _ := fresh(t, a.cost()+p.cost())
	add(t, s, a)
	ok(t, "Stage", s.Stage(p.objects...), s.Stage(sized(1, 0)))
	if s.Free() >= p.there() {
		t.Fatalf("%d free", s.Free())
	}
	ok(t, "Install", s.Install(p.id))
	has(t, s, []path{a, p})
	s, disk := fresh(t, a.cost()+p.cost()-1)
	add(t, s, a)
	ok(t, "Stage", s.Stage(p.objects...))
	if e := s.Install(p.id); e != api.ErrSpace || s.Sick() {
		t.Errorf("Install: %d", e)
	}
	has(t, s, []path{a}, p.objects...)
	has(t, on(t, disk), []path{a}, p.objects...)
}

func TestRead(t *testing.T) {
	s, disk := fresh(t, 700)
	a := of(t, file(noise(6000)))
	items := []tree.Item{
		file(""), {Kind: tree.Exec, Text: noise(300)}, {Kind: tree.Link, Text: "to"}, tree.Of(),
		tree.Of(tree.Entry{Name: "b", Item: tree.Of(tree.Entry{Name: "c", Item: file(noise(900))})}, tree.Entry{Name: "a", Item: file("a")}),
	}
	add(t, s, a)
	l := []path{a}
	for i, x := range items {
		l = append(l, of(t, x, l[i].id, a.id))
		add(t, s, l[i+1])
	}
	for range 2 {
		for _, p := range l {
			reads(t, s, p)
			for _, o := range p.objects[:len(p.objects)-1] {
				fails(t, s, o.ID, api.ErrUnknown)
			}
		}
		s = on(t, disk)
	}
	// Results share no memory with the store.
	x, refs, _ := s.Read(l[5].id)
	clear(refs)
	clear(x.In)
	reads(t, s, l[5])
}

func TestReadWhatIsSpoilt(t *testing.T) {
	p := of(t, file(noise(1500)))
	other := of(t, file("other"), p.id)
	for i, o := range p.objects {
		s, disk := fresh(t, 200)
		add(t, s, p, other)
		spoil(t, disk, o)
		reads(t, s, other)
		if o.Kind == oid.Path {
			// The registry has the bytes of a path's own object.
			reads(t, s, p)
			continue
		}
		fails(t, s, p.id, api.ErrSum)
		if s.Sick() || !s.Has(o.ID) {
			t.Errorf("%d: sick %t", i, s.Sick())
		}
	}
	// The first error counts: the last node stands ahead of the first chunk.
	s, disk := fresh(t, 200)
	add(t, s, p)
	spoil(t, disk, p.objects[0])
	disk.Arm(1)
	fails(t, s, p.id, api.ErrIO)
	disk.Clear()
	fails(t, s, p.id, api.ErrSum)
	if s.Sick() {
		t.Error("a store is not sick because of a Read")
	}
}

func TestHoldAndAsk(t *testing.T) {
	a := of(t, file("a"))
	s, disk := fresh(t, 60)
	add(t, s, a)
	free := s.Free()
	step := func(e, want api.Errno, held, asked []api.ID) {
		t.Helper()
		if e != want {
			t.Errorf("%d, not %d", e, want)
		}
		if e == api.OK {
			free -= named
		}
		if s.Free() != free {
			t.Errorf("%d free, not %d", s.Free(), free)
		}
		pins(t, s, held, asked)
		disk.Crash()
		free = on(t, disk).Free()
		s = on(t, disk)
		pins(t, s, held, asked)
		has(t, s, []path{a})
	}
	here, away := []api.ID{a.id}, []api.ID{{7}}
	step(s.Hold(api.ID{7}, true), api.ErrUnknown, nil, nil)
	step(s.Hold(a.id, false), api.ErrUnknown, nil, nil)
	step(s.Ask(a.id, false), api.ErrUnknown, nil, nil)
	step(s.Hold(a.id, true), api.OK, here, nil)
	step(s.Hold(a.id, true), api.OK, here, nil)
	step(s.Ask(api.ID{7}, true), api.OK, here, away)
	step(s.Ask(api.ID{7}, true), api.OK, here, away)
	step(s.Ask(a.id, true), api.OK, here, []api.ID{a.id, {7}})
	step(s.Hold(a.id, false), api.OK, nil, []api.ID{a.id, {7}})
	step(s.Hold(a.id, false), api.ErrUnknown, nil, []api.ID{a.id, {7}})
	step(s.Ask(a.id, false), api.OK, nil, away)
	step(s.Ask(api.ID{7}, false), api.OK, nil, nil)
	step(s.Ask(api.ID{7}, false), api.ErrUnknown, nil, nil)
}

// Notes fill a disk until it is packed: what they say is kept in fewer records.
func TestNotesMakeRoom(t *testing.T) {
	a := of(t, file("a"))
	s, disk := fresh(t, a.cost()+2*named+1)
	add(t, s, a)
	for range 20 {
		ok(t, "Hold", s.Hold(a.id, true), s.Hold(a.id, false))
	}
	has(t, s, []path{a})
	pins(t, s, nil, nil)
	ok(t, "pins", s.Hold(a.id, true), s.Ask(api.ID{1}, true))
	for _, e := range []api.Errno{s.Ask(api.ID{2}, true), s.Ask(api.ID{1}, false), s.Hold(a.id, false), s.Hold(a.id, true)} {
		if e != api.ErrSpace || s.Sick() {
			t.Errorf("%d", e)
		}
	}
	// The error of the registry is named first.
	if e := s.Ask(api.ID{3}, false); e != api.ErrUnknown {
		t.Errorf("%d", e)
	}
	for range 2 {
		has(t, s, []path{a})
		pins(t, s, []api.ID{a.id}, []api.ID{{1}})
		s = on(t, disk)
	}
}

// Packing keeps the needed objects, in ascending order, and the records of the registry.
func TestPacking(t *testing.T) {
	a := of(t, file("a"))
	b := of(t, file(noise(400)), a.id)
	c := of(t, file("c"), b.id)
	s, disk := fresh(t, 200)
	add(t, s, a, b)
	ok(t, "pins", s.Stage(c.objects...), s.Stage(sized(3, 0)), s.Hold(b.id, true), s.Ask(c.id, true))
	if n, e := s.Gc(); n != 0 || e != api.OK {
		t.Fatalf("Gc: %d, %d", n, e)
	}
	has(t, s, []path{a, b}, c.objects...)
	_, l, e := book.Open(disk)
	ok(t, "Open", e)
	var data []string
	for _, id := range rising(slices.Concat(a.names(), b.names(), c.names())...) {
		o, _ := s.Get(id)
		data = append(data, "\x01"+string([]byte{byte(o.Kind)})+o.Text)
	}
	data = append(data, "\x02"+a.x.Text(), "\x02"+b.x.Text(), "\x04"+string(b.id[:]), "\x06"+string(c.id[:]))
	for i, x := range l {
		if i >= len(data) || string([]byte{byte(x.Kind)})+x.Data != data[i] {
			t.Fatalf("record %d: %+v", i, x)
		}
	}
	if len(l) != len(data) {
		t.Errorf("%d records, not %d", len(l), len(data))
	}
}

func TestGc(t *testing.T) {
	a := of(t, file("a"))
	b := of(t, file(noise(400)), a.id)
	c := of(t, file("c"), b.id)
	d := of(t, file("d"))
	away := of(t, file("away"), d.id)
	staged := sized(2, 0)
	all := []path{a, b, c, d}
	for i, q := range []struct {
		held, asked, want []path
		more              []merkle.Object
	}{
		{nil, nil, nil, nil},
		{[]path{a}, nil, []path{a}, nil},
		{[]path{b}, nil, []path{a, b}, nil},
		{nil, []path{b}, []path{a, b}, nil},
		{[]path{c}, []path{a}, []path{a, b, c}, nil},
		{[]path{d}, []path{c}, all, nil},
		// What a path that is asked for refers to is live once its own object is stored, and so are its objects.
		{nil, []path{away}, []path{d}, away.objects[1:]},
		{[]path{a}, []path{away}, []path{a, d}, away.objects[1:]},
	} {
		s, disk := fresh(t, 200)
		add(t, s, all...)
		ok(t, "Stage", s.Stage(staged), s.Stage(away.objects[1:]...))
		for _, p := range q.held {
			ok(t, "Hold", s.Hold(p.id, true))
		}
		for _, p := range q.asked {
			ok(t, "Ask", s.Ask(p.id, true))
		}
		held, asked := s.Held(), s.Asked()
		for _, count := range []int{len(all) - len(q.want), 0} {
			if n, e := s.Gc(); n != count || e != api.OK {
				t.Errorf("%d: %d, %d, not %d", i, n, e, count)
			}
			has(t, s, q.want, q.more...)
			pins(t, s, held, asked)
		}
		disk.Crash()
		s = on(t, disk)
		has(t, s, q.want, q.more...)
		pins(t, s, held, asked)
	}
}

// Gc needs no room, however full the disk is.
func TestGcOfAFullDisk(t *testing.T) {
	a, b := of(t, file("a")), of(t, file("b"))
	s, _ := fresh(t, a.cost()+b.cost())
	add(t, s, a, b)
	if s.Free() != 0 {
		t.Fatalf("%d free", s.Free())
	}
	if n, e := s.Gc(); n != 2 || e != api.OK || s.Free() != a.cost()+b.cost() {
		t.Errorf("Gc: %d, %d, %d free", n, e, s.Free())
	}
}

// What a path that is there refers to is known, even if its own object is spoilt: it is neither removed, nor is its tree.
func TestOwnObjectIsSpoilt(t *testing.T) {
	a := of(t, file("a"))
	b := of(t, file(noise(400)), a.id)
	own := b.objects[len(b.objects)-1]
	rest := b.objects[:len(b.objects)-1]
	for i, act := range []func(s *Store) api.Errno{
		func(s *Store) api.Errno { n, e := s.Gc(); return e + api.Errno(n) },
		func(s *Store) api.Errno { l, e := s.Scrub(); return e + api.Errno(len(l)) },
		func(s *Store) api.Errno { return s.Stage(sized(1, 0)) },
	} {
		s, disk := fresh(t, a.cost()+b.cost()+named+2)
		add(t, s, a, b)
		ok(t, "Hold", s.Hold(b.id, true))
		ok(t, "Stage", s.Stage(sized(2, 1)), s.Sync())
		spoil(t, disk, own)
		ok(t, "the call", act(s))
		same(t, "Paths", s.Paths(), rising(a.id, b.id)...)
		pins(t, s, []api.ID{b.id}, nil)
		if !s.Has(a.names()...) || s.Has(own.ID) || s.Has(sized(2, 1).ID) {
			t.Errorf("%d: %x", i, s.Objects())
		}
		for _, o := range rest {
			if !s.Has(o.ID) {
				t.Errorf("%d: kind %d is gone", i, o.Kind)
			}
		}
		reads(t, s, a)
		reads(t, s, b)
	}
}

func TestScrub(t *testing.T) {
	a := of(t, file(noise(300)))
	b := of(t, file(noise(400)), a.id)
	c := of(t, file(noise(500)), b.id)
	d := of(t, file(noise(600)))
	all := []path{a, b, c, d}
	for i, q := range []struct {
		spoilt, held, asked, lost []path
	}{
		{nil, []path{a, d}, nil, nil},
		{[]path{d}, nil, nil, []path{d}},
		{[]path{c}, nil, nil, []path{c}},
		{[]path{b}, nil, nil, []path{b, c}},
		{[]path{a}, nil, nil, []path{a, b, c}},
		{[]path{a, d}, nil, nil, all},
		{[]path{a}, []path{a, c, d}, []path{b, d}, []path{a, b, c}},
		{[]path{b}, []path{a, b}, []path{b}, []path{b, c}},
		{[]path{c, d}, []path{d}, []path{c}, []path{c, d}},
	} {
		s, disk := fresh(t, 300)
		add(t, s, all...)
		var held, asked, lost, keeps []api.ID
		var left []path
		for _, p := range q.held {
			ok(t, "Hold", s.Hold(p.id, true))
		}
		for _, p := range q.asked {
			ok(t, "Ask", s.Ask(p.id, true))
			asked = append(asked, p.id)
		}
		ok(t, "Stage", s.Stage(sized(2, 0)), s.Sync())
		var gone []api.ID
		for _, p := range q.spoilt {
			spoil(t, disk, p.objects[0])
			gone = append(gone, p.objects[0].ID)
		}
		isLost := func(p path) bool { return slices.ContainsFunc(q.lost, func(x path) bool { return x.id == p.id }) }
		for _, p := range q.held {
			if isLost(p) {
				asked = append(asked, p.id)
			} else {
				held = append(held, p.id)
			}
		}
		for _, p := range all {
			if isLost(p) {
				lost = append(lost, p.id)
			} else {
				left = append(left, p)
			}
		}
		// What is left of the paths that are asked for is kept, and of what they refer to.
		keeps = s.Closure(asked...)
		for round, want := range [][]api.ID{rising(lost...), nil} {
			if l, e := s.Scrub(); !slices.Equal(l, want) || e != api.OK {
				t.Errorf("%d, round %d: %x, %d, not %x", i, round, l, e, want)
			}
			pins(t, s, held, asked)
			var more []merkle.Object
			for _, p := range q.lost {
				for _, o := range p.objects {
					if slices.Contains(keeps, p.id) && !slices.Contains(gone, o.ID) {
						more = append(more, o)
					}
				}
			}
			has(t, s, left, more...)
		}
		disk.Crash()
		s = on(t, disk)
		pins(t, s, held, asked)
		for _, p := range left {
			reads(t, s, p)
		}
		// A path that was removed can be added again, and is not spoilt then.
		add(t, s, all...)
		for _, p := range all {
			reads(t, s, p)
		}
	}
}

// Scrub finds what is missing, too: here after the disk has lost the tail of a turn.
func TestScrubOfAFullDisk(t *testing.T) {
	a := of(t, file(noise(300)))
	b := of(t, file(noise(400)), a.id)
	s, disk := fresh(t, a.cost()+b.cost()+2*named)
	add(t, s, a, b)
	ok(t, "Hold", s.Hold(a.id, true), s.Hold(b.id, true))
	spoil(t, disk, a.objects[0])
	if l, e := s.Scrub(); !slices.Equal(l, rising(a.id, b.id)) || e != api.OK {
		t.Errorf("Scrub: %x, %d", l, e)
	}
	pins(t, s, nil, []api.ID{a.id, b.id})
	// The rest comes again.
	ok(t, "Stage", s.Stage(a.objects[0]), s.Install(a.id), s.Install(b.id))
	has(t, s, []path{a, b})
}

// Everything on a disk is spoilt, but nothing that is held is forgotten.
func TestScrubOfASpoiltDisk(t *testing.T) {
	a := of(t, file("a"))
	b := of(t, file(noise(400)), a.id)
	s, disk := fresh(t, 100)
	add(t, s, a, b)
	ok(t, "Hold", s.Hold(b.id, true))
	for i := 2; i < disk.Size(); i++ {
		disk.Spoil(i, 40+i%24, byte(1+i%255))
	}
	if l, e := s.Scrub(); !slices.Equal(l, rising(a.id, b.id)) || e != api.OK {
		t.Errorf("Scrub: %x, %d", l, e)
	}
	for range 2 {
		has(t, s, nil)
		pins(t, s, nil, []api.ID{b.id})
		s = on(t, disk)
	}
}

// What the disk says of the registry is not read again before the store is opened anew.
func TestRegistryIsSpoilt(t *testing.T) {
	a, b := of(t, file("a")), of(t, file("b"))
	s, disk := fresh(t, 60)
	add(t, s, a)
	ok(t, "Hold", s.Hold(a.id, true))
	add(t, s, b)
	text := contents(t, disk)
	at := strings.LastIndex(text, string(a.id[:])) + 31
	ok(t, "Spoil", disk.Spoil(at/64, 40, 1))
	if l, e := s.Scrub(); len(l) != 0 || e != api.OK {
		t.Errorf("Scrub: %x, %d", l, e)
	}
	for range 2 {
		has(t, s, []path{a, b})
		pins(t, s, []api.ID{a.id}, nil)
		s = on(t, disk)
	}
}

func TestResultsAreApart(t *testing.T) {
	s, disk := fresh(t, 100)
	a := of(t, file("a"))
	b := of(t, file("b"), a.id)
	item, refs := tree.Of(tree.Entry{Name: "x", Item: file("x")}), []api.ID{b.id, a.id, b.id}
	id, e := s.Add(item, refs...)
	if e != api.ErrRef {
		t.Errorf("Add: %x, %d", id, e)
	}
	add(t, s, a, b)
	id, e = s.Add(item, refs...)
	ok(t, "Add", e)
	same(t, "the references", refs, b.id, a.id, b.id)
	clear(refs)
	item.In[0].Name = "y"
	l := slices.Clone(a.objects)
	ok(t, "Stage", s.Stage(l...))
	clear(l)
	ok(t, "Hold", s.Hold(id, true))
	clear(s.Objects())
	x, got, e := s.Read(id)
	if x.In[0].Name != "x" || !slices.Equal(got, rising(a.id, b.id)) || e != api.OK {
		t.Errorf("Read: %+v, %x, %d", x, got, e)
	}
	spoil(t, disk, merkle.Make(oid.Path, of(t, x, a.id, b.id).x.Text()))
	spoil(t, disk, a.objects[0])
	lost, e := s.Scrub()
	if len(lost) != 3 || e != api.OK {
		t.Fatalf("Scrub: %x, %d", lost, e)
	}
	clear(lost)
	pins(t, s, nil, []api.ID{id})
}

// The registry of a store stays the same one, whatever changes it.
func TestRegistryIsOne(t *testing.T) {
	s, _ := fresh(t, 100)
	r := s.Registry
	a, b := of(t, file("a")), of(t, file("b"))
	add(t, s, a, b)
	ok(t, "Hold", s.Hold(a.id, true))
	same(t, "Paths", r.Paths(), rising(a.id, b.id)...)
	s.Gc()
	same(t, "Paths", r.Paths(), a.id)
	same(t, "Held", r.Held(), a.id)
	if s.Registry != r {
		t.Error("another registry")
	}
}

// The same calls give the same results and the same disk.
func TestTheSameAgain(t *testing.T) {
	run := func() string {
		s, disk := fresh(t, 300)
		var l []path
		for i := range 12 {
			var refs []api.ID
			for _, p := range l[max(0, i-3):] {
				refs = append(refs, p.id)
			}
			l = append(l, of(t, file(noise(30*i)), refs...))
			add(t, s, l[i])
			s.Hold(l[i/2].id, i%3 > 0)
			s.Ask(l[i/3].id, i%2 > 0)
		}
		s.Sync()
		spoil(t, disk, l[4].objects[0])
		s.Gc()
		s.Scrub()
		return contents(t, disk)
	}
	want := run()
	for range 5 {
		if run() != want {
			t.Fatal("another disk")
		}
	}
}

// The depot's largest object can be staged.
func TestLargestObject(t *testing.T) {
	o := merkle.Make(oid.Chunk, strings.Repeat("x", depot.MaxText))
	s, _ := fresh(t, cost(o))
	ok(t, "Stage", s.Stage(o))
	has(t, s, nil, o)
}

// Whatever records a disk has, no call panics; what can be read has the requested name, and everything that is there has what it refers to.
func FuzzRecords(f *testing.F) {
	a := merkle.Part{ID: api.ID{1}, Size: 1}
	f.Add(uint8(20), []byte("\x01\x01chunk"), []byte("\x02"+info.Info{Root: a}.Text()), []byte("\x06"+strings.Repeat("n", 32)))
	f.Add(uint8(60), []byte("\x01\x02"+merkle.Node{Level: 1, Parts: []merkle.Part{a}}.Text()), []byte("\x01\x03"+info.Info{Root: a}.Text()), []byte("\x09"))
	f.Fuzz(func(t *testing.T, half uint8, x, y, z []byte) {
		disk := sector.New(4 + 2*int(half))
		b, _, e := book.Open(disk)
		ok(t, "Open", e)
		for _, r := range [][]byte{x, y, z} {
			if len(r) > 0 {
				b.Append(int(r[0]), string(r[1:]))
			}
		}
		ok(t, "Sync", b.Sync())
		s, e := Open(disk)
		if e != api.OK {
			if s != nil || e != api.ErrForm {
				t.Errorf("Open: %v, %d", s, e)
			}
			return
		}
		names := slices.Concat(s.Objects(), s.Paths(), s.Asked())
		for i, id := range names {
			s.Install(id)
			if _, refs, e := s.Read(id); e == api.OK && !slices.Equal(s.Closure(append(refs, id)...), s.Closure(id)) {
				t.Error("a reference is not there")
			}
			s.Hold(id, i%2 == 0)
			s.Ask(id, i%3 == 0)
		}
		s.Gc()
		s.Scrub()
		for _, id := range s.Paths() {
			_, _, e := s.Read(id)
			ok(t, "Read", e)
		}
		if s.Sick() {
			t.Error("sick")
		}
	})
}
