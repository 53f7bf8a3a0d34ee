package store

import (
	"math/rand"
	"slices"
	"testing"

	"caravan/api"
	"caravan/book"
	"caravan/depot"
	"caravan/merkle"
	"caravan/oid"
	"caravan/registry"
	"caravan/sector"
)

// scene is a store before one of its calls, and what the registry is after it.
type scene struct {
	name string
	make func(t *testing.T) (*Store, *sector.Disk)
	call func(s *Store) api.Errno
	// packs tells whether the call packs the store, and so needs the disk in any case.
	packs bool
}

func errnoOf[T any](_ T, e api.Errno) api.Errno { return e }

// scenes are all calls that change a store, with room on the disk and without.
func scenes(t *testing.T) []scene {
	a := of(t, file("a"))
	b := of(t, file(noise(300)), a.id)
	c := of(t, file("c"), b.id)
	unit := a.cost() + b.cost() + c.cost() + 6*named
	base := func(t *testing.T, half int) (*Store, *sector.Disk) {
		s, disk := fresh(t, half)
		add(t, s, a, b)
		ok(t, "set up", s.Hold(b.id, true), s.Ask(c.id, true), s.Stage(c.objects...), s.Sync())
		return s, disk
	}
	wide := func(t *testing.T) (*Store, *sector.Disk) { return base(t, 2*unit) }
	// full has no free sector, but garbage that can be removed.
	full := func(t *testing.T) (*Store, *sector.Disk) {
		s, disk := base(t, unit)
		for i := range s.Free() {
			ok(t, "Stage", s.Stage(sized(1, i)))
		}
		ok(t, "Sync", s.Sync())
		return s, disk
	}
	// spoilt has the spoilt object behind all that a crash must not lose: a new Open finds nothing behind it.
	spoilt := func(t *testing.T) (*Store, *sector.Disk) {
		disk := sector.New(2 + 4*unit)
		l := []book.Record{registry.Adds(a.x), registry.Adds(b.x), registry.Record(registry.Hold, b.id)}
		last := len(b.objects) - 2
		for _, o := range slices.Concat(a.objects, b.objects[last+1:], b.objects[:last+1]) {
			l = append(l, book.Record{Kind: depot.Kind, Data: string([]byte{byte(o.Kind)}) + o.Text})
		}
		log, _, e := book.Open(disk)
		ok(t, "Open", e)
		_, e = log.Rewrite(l...)
		ok(t, "Rewrite", e)
		s := on(t, disk)
		spoil(t, disk, b.objects[last])
		return s, disk
	}
	install := func(s *Store) api.Errno { return s.Install(c.id) }
	stage := func(s *Store) api.Errno { return s.Stage(merkle.Make(oid.Chunk, "x"), merkle.Make(oid.Node, "y")) }
	added := func(s *Store) api.Errno { return errnoOf(s.Add(file("d"), b.id)) }
	hold := func(s *Store) api.Errno { return s.Hold(a.id, true) }
	free := func(s *Store) api.Errno { return s.Hold(b.id, false) }
	ask := func(s *Store) api.Errno { return s.Ask(a.id, true) }
	forget := func(s *Store) api.Errno { return s.Ask(c.id, false) }
	gc := func(s *Store) api.Errno { return errnoOf(s.Gc()) }
	scrub := func(s *Store) api.Errno { return errnoOf(s.Scrub()) }
	idle := func(t *testing.T) (*Store, *sector.Disk) {
		s, disk := wide(t)
		ok(t, "Hold", s.Hold(b.id, false))
		ok(t, "Forget", s.Ask(c.id, false))
		return s, disk
	}
	return []scene{
		{"Stage", wide, stage, false}, {"Stage, full", full, stage, true},
		{"Add", wide, added, false}, {"Add, full", full, added, true},
		{"Install", wide, install, false}, {"Install, full", full, install, true},
		{"Hold", wide, hold, false}, {"Hold, full", full, hold, true},
		{"Free", wide, free, false}, {"Free, full", full, free, true},
		{"Ask", wide, ask, false}, {"Ask, full", full, ask, true},
		{"Forget", wide, forget, false}, {"Forget, full", full, forget, true},
		{"Gc", wide, gc, true}, {"Gc, full", full, gc, true}, {"Gc of all", idle, gc, true},
		{"Scrub", wide, scrub, true}, {"Scrub, full", full, scrub, true}, {"Scrub, spoilt", spoilt, scrub, true},
		{"Sync", wide, (*Store).Sync, false},
	}
}

// registryOf is all that a registry shows.
func registryOf(s *Store) [3][]api.ID { return [3][]api.ID{s.Paths(), s.Held(), s.Asked()} }

func sameRegistry(a, b [3][]api.ID) bool {
	return slices.Equal(a[0], b[0]) && slices.Equal(a[1], b[1]) && slices.Equal(a[2], b[2])
}

// Whenever the disk fails during a call, the call returns ErrIO, the store is sick, and its registry is as it was. After a crash it is as it was before the call, or as the call would have left it.
func TestEveryCallOfTheDiskFails(t *testing.T) {
	for _, c := range scenes(t) {
		s, _ := c.make(t)
		before := registryOf(s)
		ok(t, c.name, c.call(s))
		after := registryOf(s)
		for n := 0; ; n++ {
			s, disk := c.make(t)
			disk.Arm(n)
			e := c.call(s)
			if e == api.OK {
				if n == 0 || s.Sick() || !sameRegistry(registryOf(s), after) {
					t.Errorf("%s: %d calls were enough, sick %t", c.name, n, s.Sick())
				}
				break
			}
			if e != api.ErrIO || !s.Sick() || !sameRegistry(registryOf(s), before) {
				t.Fatalf("%s: after %d calls: %d, sick %t", c.name, n, e, s.Sick())
			}
			sickness(t, s, disk)
			disk.Crash(choices(int64(n))...)
			s = on(t, disk)
			if got := registryOf(s); !sameRegistry(got, before) && !sameRegistry(got, after) {
				t.Errorf("%s: after %d calls: %x", c.name, n, got)
			}
			if s.Sick() {
				t.Errorf("%s: a new store is sick", c.name)
			}
		}
	}
}

// After a call that returned, a crash changes nothing in the registry.
func TestCrashAfterEveryCall(t *testing.T) {
	for _, c := range scenes(t) {
		for seed := range int64(4) {
			s, disk := c.make(t)
			ok(t, c.name, c.call(s))
			want := registryOf(s)
			disk.Crash(choices(seed)...)
			if got := registryOf(on(t, disk)); !sameRegistry(got, want) {
				t.Errorf("%s: %x, not %x", c.name, got, want)
			}
		}
	}
}

func choices(seed int64) []int {
	r := rand.New(rand.NewSource(seed))
	var l []int
	for range 500 {
		l = append(l, r.Intn(70)-3)
	}
	return l
}

// sickness tells whether a sick store returns ErrIO from all calls that would change it, without any effect, and goes on reading.
func sickness(t *testing.T, s *Store, disk *sector.Disk) {
	t.Helper()
	disk.Clear()
	before, free, objects, registry := contents(t, disk), s.Free(), s.Objects(), registryOf(s)
	there := s.Paths()[0]
	for _, id := range s.Asked() {
		if e := s.Ask(id, false); e != api.ErrIO {
			t.Errorf("Ask: %d", e)
		}
	}
	for _, id := range s.Held() {
		if e := s.Hold(id, false); e != api.ErrIO {
			t.Errorf("Hold: %d", e)
		}
	}
	for i, e := range []api.Errno{
		s.Stage(), s.Stage(merkle.Make(oid.Chunk, "late")), s.Stage(merkle.Object{}), s.Sync(), errnoOf(s.Add(file("late"))), errnoOf(s.Add(file("a"))), errnoOf(s.Add(file("late"), api.ID{1})),
		s.Hold(there, true), s.Ask(there, true), s.Ask(api.ID{1}, true), errnoOf(s.Gc()), errnoOf(s.Scrub()),
	} {
		if e != api.ErrIO {
			t.Errorf("call %d of a sick store: %d", i, e)
		}
	}
	if id, _ := s.Add(file("a")); id != (api.ID{}) {
		t.Errorf("Add: %x", id)
	}
	// These would change nothing.
	if s.Install(there) != api.OK || s.Install(api.ID{1}) != api.ErrUnknown || s.Hold(api.ID{1}, true) != api.ErrUnknown || s.Ask(api.ID{1}, false) != api.ErrUnknown {
		t.Error("a sick store does not say what is unknown")
	}
	if contents(t, disk) != before || s.Free() != free || !slices.Equal(s.Objects(), objects) || !sameRegistry(registryOf(s), registry) || !s.Sick() {
		t.Error("a sick store has changed")
	}
	for _, id := range s.Paths() {
		_, _, e := s.Read(id)
		if _, f := s.Get(id); e != api.OK && e != api.ErrSum || f != api.OK {
			t.Errorf("a sick store does not read: %d, %d", e, f)
		}
	}
}

// A path whose objects are all there is not installed in a sick store.
func TestInstallWhenSick(t *testing.T) {
	p := of(t, file("p"))
	s, disk := fresh(t, 60)
	ok(t, "Stage", s.Stage(p.objects...))
	disk.Arm(0)
	if e := s.Sync(); e != api.ErrIO || !s.Sick() {
		t.Errorf("Sync: %d", e)
	}
	disk.Clear()
	if e := s.Install(p.id); e != api.ErrIO || len(s.Paths()) != 0 {
		t.Errorf("Install: %d", e)
	}
}

// Only the Gets of Install, Gc, Scrub and packing make a store sick.
func TestReadingDoesNotMakeSick(t *testing.T) {
	a := of(t, file("a"))
	s, disk := fresh(t, 60)
	add(t, s, a)
	disk.Arm(0)
	for range 3 {
		fails(t, s, a.id, api.ErrIO)
		if o, e := s.Get(a.id); e != api.ErrIO || o != (merkle.Object{}) {
			t.Errorf("Get: %+v, %d", o, e)
		}
	}
	// What needs no disk has no error.
	if id, e := s.Add(file("a")); id != a.id || e != api.OK || s.Install(a.id) != api.OK || s.Stage(a.objects...) != api.OK || s.Stage() != api.OK {
		t.Errorf("Add: %x, %d", id, e)
	}
	if s.Install(api.ID{1}) != api.ErrUnknown || s.Hold(api.ID{1}, true) != api.ErrUnknown || s.Stage(merkle.Object{}) != api.ErrSum || errnoOf(s.Add(file("b"), api.ID{1})) != api.ErrRef {
		t.Error("an error that needs no disk")
	}
	if s.Sick() || !s.Has(a.id) || len(s.Objects()) != len(a.names()) {
		t.Errorf("sick %t", s.Sick())
	}
	disk.Clear()
	has(t, s, []path{a})
	ok(t, "Hold", s.Hold(a.id, true))
}

// An object that could not be read is not taken for one that is missing: whatever Get fails, Install, Gc and Scrub return ErrIO.
func TestGetsThatFail(t *testing.T) {
	a := of(t, file("a"))
	b := of(t, file(noise(300)), a.id)
	for i, call := range []func(s *Store) api.Errno{
		func(s *Store) api.Errno { return s.Install(b.id) },
		func(s *Store) api.Errno { return errnoOf(s.Gc()) },
		func(s *Store) api.Errno { return errnoOf(s.Scrub()) },
	} {
		for n := range 8 {
			s, disk := fresh(t, 200)
			add(t, s, a)
			ok(t, "set up", s.Stage(b.objects...), s.Ask(b.id, true))
			before, text := registryOf(s), contents(t, disk)
			disk.Arm(n)
			if e := call(s); e != api.ErrIO || !s.Sick() {
				t.Errorf("%d, %d: %d, sick %t", i, n, e, s.Sick())
			}
			if !sameRegistry(registryOf(s), before) || contents(t, disk) != text {
				t.Errorf("%d, %d: something has changed", i, n)
			}
		}
	}
}
