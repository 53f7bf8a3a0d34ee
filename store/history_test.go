package store

import (
	"iter"
	"math/rand"
	"slices"
	"strings"
	"testing"

	"caravan/api"
	"caravan/archive"
	"caravan/book"
	"caravan/info"
	"caravan/merkle"
	"caravan/oid"
	"caravan/reap"
	"caravan/registry"
	"caravan/sector"
	"caravan/tree"
	"caravan/weave"
)

// entry is a record on the disk of the model, and whether it is spoilt.
type entry struct {
	x      book.Record
	id     api.ID // of an object
	spoilt bool
}

// model is what the chapter says of a store: the records of a turn, one after the other, and the registry.
type model struct {
	half, turn int
	log        []entry
	reg        *registry.Registry
}

func (m *model) clone() *model {
	next := *m
	next.log, next.reg = slices.Clone(m.log), m.reg.Clone()
	return &next
}

func (m *model) free() int {
	n := m.half
	for _, x := range m.log {
		n -= book.Cost(len(x.x.Data))
	}
	return n
}

func (m *model) find(id api.ID) int {
	return slices.IndexFunc(m.log, func(x entry) bool { return x.x.Kind == 1 && x.id == id })
}

// read is what the depot's Get returns.
func (m *model) read(id api.ID) (merkle.Object, api.Errno) {
	i := m.find(id)
	if i < 0 {
		return merkle.Object{}, api.ErrUnknown
	}
	if m.log[i].spoilt {
		return merkle.Object{}, api.ErrSum
	}
	data := m.log[i].x.Data
	return merkle.Object{Kind: int(data[0]), ID: id, Text: data[1:]}, api.OK
}

// Get is what layer 15 sees: paths that are there are known.
func (m *model) Get(id api.ID) (merkle.Object, api.Errno) {
	if x, there := m.reg.Path(id); there {
		return merkle.Make(oid.Path, x.Text()), api.OK
	}
	return m.read(id)
}

func (m *model) put(o merkle.Object) {
	m.log = append(m.log, entry{x: book.Record{Kind: 1, Data: string([]byte{byte(o.Kind)}) + o.Text}, id: o.ID})
}

// cost is that of the objects that are not stored, each once.
func (m *model) cost(l []merkle.Object) int {
	var lacking []merkle.Object
	for _, o := range l {
		if m.find(o.ID) < 0 {
			lacking = append(lacking, o)
		}
	}
	return cost(lacking...)
}

func (m *model) pack(also ...api.ID) {
	keep := reap.Objects(m, slices.Concat(m.reg.Paths(), reap.Live(m.reg, m), also)...)
	var next []entry
	for _, id := range keep {
		if i := m.find(id); i >= 0 && !m.log[i].spoilt {
			next = append(next, m.log[i])
		}
	}
	m.log = next
	for _, x := range m.reg.Records() {
		m.log = append(m.log, entry{x: x})
	}
	m.turn++
}

func (m *model) room(n int, also ...api.ID) bool {
	if m.free() < n {
		m.pack(also...)
	}
	return m.free() >= n
}

func (m *model) note(x book.Record, also ...api.ID) api.Errno {
	if e := m.reg.Clone().Do(x); e != api.OK {
		return e
	}
	if !m.room(book.Cost(len(x.Data)), also...) {
		return api.ErrSpace
	}
	m.log = append(m.log, entry{x: x})
	return m.reg.Do(x)
}

func (m *model) stage(l []merkle.Object) api.Errno {
	if !m.room(m.cost(l)) {
		return api.ErrSpace
	}
	before := m.log
	for _, o := range l {
		e := api.OK
		if o.ID != oid.Of(o.Kind, o.Text) {
			e = api.ErrSum
		} else if m.cost([]merkle.Object{o}) > m.free() {
			e = api.ErrSpace
		}
		if e != api.OK {
			m.log = before
			return e
		}
		if m.find(o.ID) < 0 {
			m.put(o)
		}
	}
	return api.OK
}

func (m *model) add(p path) api.Errno {
	if _, there := m.reg.Path(p.id); there {
		return api.OK
	}
	for _, id := range p.refs {
		if _, there := m.reg.Path(id); !there {
			return api.ErrRef
		}
	}
	if !m.room(m.cost(p.objects)+p.there()) || m.cost(p.objects)+p.there() > m.free() {
		return api.ErrSpace
	}
	for _, o := range p.objects {
		if m.find(o.ID) < 0 {
			m.put(o)
		}
	}
	return m.note(registry.Adds(p.x))
}

// tree is what Read returns of a path with this info.
func (m *model) tree(x info.Info) (tree.Item, api.Errno) {
	text, e := weave.All(x.Root, func(w weave.Want) (string, api.Errno) {
		o, e := m.read(w.Part.ID)
		return o.Text, e
	})
	if e != api.OK {
		return tree.Item{}, e
	}
	item, e := x.Tree(text)
	if e != api.OK {
		return tree.Item{}, e
	}
	if again, _, _ := info.Of(item, x.Refs...); again.Name() != x.Name() {
		return tree.Item{}, api.ErrTree
	}
	return item, api.OK
}

func (m *model) install(id api.ID) api.Errno {
	if _, there := m.reg.Path(id); there {
		return api.OK
	}
	if e := reap.Whole(m, id); e != api.OK {
		return e
	}
	o, _ := m.read(id)
	x, _ := info.Parse(o.Text)
	if _, e := m.tree(x); e != api.OK {
		return e
	}
	return m.note(registry.Adds(x), id)
}

func (m *model) gc() int {
	dead := reap.Dead(m.reg, m)
	for _, id := range dead {
		m.reg.Do(registry.Record(registry.Gone, id))
	}
	m.pack()
	return len(dead)
}

func (m *model) scrub() []api.ID {
	var lost []api.ID
	for _, id := range m.reg.Order() {
		x, _ := m.reg.Path(id)
		_, e := m.tree(x)
		if e != api.OK || slices.ContainsFunc(x.Refs, func(ref api.ID) bool { return slices.Contains(lost, ref) }) {
			lost = append(lost, id)
		}
	}
	for _, id := range slices.Backward(lost) {
		if m.reg.Do(registry.Record(registry.Free, id)) == api.OK {
			m.reg.Do(registry.Record(registry.Ask, id))
		}
		m.reg.Do(registry.Record(registry.Gone, id))
	}
	m.pack()
	return rising(lost...)
}

// reopen is what a new Open finds: the records ahead of the first one that is spoilt.
func (m *model) reopen() {
	if i := slices.IndexFunc(m.log, func(x entry) bool { return x.spoilt }); i >= 0 {
		m.log = m.log[:i]
	}
	m.turn++
	m.reg = registry.New()
	for _, x := range m.log {
		m.reg.All(x.x)
	}
}

// history is a store, and what the chapter says of it after the same calls.
type history struct {
	t    *testing.T
	r    *rand.Rand
	disk *sector.Disk
	s    *Store
	m    *model
	pool []path
}

// pool is paths that refer to each other, a few of which no store may install.
func pool(t *testing.T, r *rand.Rand) []path {
	var l []path
	for i := range 10 {
		var refs []api.ID
		for range r.Intn(3) {
			if i > 0 {
				refs = append(refs, l[r.Intn(i)].id)
			}
		}
		refs = rising(refs...)
		item := file(strings.Repeat(string(rune('a'+r.Intn(4))), r.Intn(4)) + noise(r.Intn(3)*r.Intn(150)))
		if r.Intn(4) == 0 {
			item = file("")
		}
		text, _ := archive.Write(item)
		p := of(t, item, refs...)
		switch r.Intn(12) {
		case 0:
			p = over(t, item, slices.Collect(pieces(text, 100)), refs...)
		case 1:
			p = over(t, item, []string{"xyz"}, refs...)
		case 2:
			p = over(t, item, []string{"crv\x01\x01\x03\x00"}, refs...)
		}
		p.refs = refs
		l = append(l, p)
	}
	return l
}

// pieces cuts a text, the first byte of which is a piece of its own, so that the pieces are not its chunks.
func pieces(s string, most int) iter.Seq[string] {
	return func(yield func(string) bool) {
		for n := 1; s != "" && yield(s[:n]); n = min(most, len(s)) {
			s = s[n:]
		}
	}
}

func begin(t *testing.T, seed int64) *history {
	r := rand.New(rand.NewSource(seed))
	h := &history{t: t, r: r, pool: pool(t, r)}
	half := 10 + r.Intn(90)
	h.s, h.disk = fresh(t, half)
	h.m = &model{half: half, turn: 1, reg: registry.New()}
	return h
}

func (h *history) some() path { return h.pool[h.r.Intn(len(h.pool))] }

// step is a call of the store, and the same one of the model.
type step struct {
	name  string
	store func(s *Store) (any, api.Errno)
	model func(m *model) (any, api.Errno)
}

func only(e api.Errno) (any, api.Errno) { return nil, e }

func (h *history) step() step {
	p := h.some()
	on := h.r.Intn(3) > 0
	kind := func(yes, no int) book.Record {
		if on {
			return registry.Record(yes, p.id)
		}
		return registry.Record(no, p.id)
	}
	switch h.r.Intn(14) {
	case 0, 1, 2:
		return step{"Add", func(s *Store) (any, api.Errno) {
			// The references come in another order, and repeatedly.
			refs := append(slices.Clone(p.refs), p.refs...)
			slices.Reverse(refs)
			id, e := s.Add(p.item, refs...)
			return id, e
		}, func(m *model) (any, api.Errno) {
			q := of(h.t, p.item, p.refs...)
			if e := m.add(q); e != api.OK {
				return api.ID{}, e
			}
			return q.id, api.OK
		}}
	case 3, 4, 5:
		var l []merkle.Object
		for _, o := range p.objects {
			if h.r.Intn(5) > 0 {
				l = append(l, o)
			}
		}
		if h.r.Intn(8) == 0 {
			l = append(l, merkle.Object{Kind: 1, Text: "no name"}, h.some().objects[0])
		}
		h.r.Shuffle(len(l), func(i, k int) { l[i], l[k] = l[k], l[i] })
		return step{"Stage", func(s *Store) (any, api.Errno) { return only(s.Stage(l...)) }, func(m *model) (any, api.Errno) { return only(m.stage(l)) }}
	case 6, 7:
		return step{"Install", func(s *Store) (any, api.Errno) { return only(s.Install(p.id)) }, func(m *model) (any, api.Errno) { return only(m.install(p.id)) }}
	case 8, 9:
		return step{"Hold", func(s *Store) (any, api.Errno) { return only(s.Hold(p.id, on)) }, func(m *model) (any, api.Errno) { return only(m.note(kind(4, 5))) }}
	case 10, 11:
		return step{"Ask", func(s *Store) (any, api.Errno) { return only(s.Ask(p.id, on)) }, func(m *model) (any, api.Errno) { return only(m.note(kind(6, 7))) }}
	case 12:
		return step{"Gc", func(s *Store) (any, api.Errno) { n, e := s.Gc(); return n, e }, func(m *model) (any, api.Errno) { return m.gc(), api.OK }}
	default:
		return step{"Scrub", func(s *Store) (any, api.Errno) { l, e := s.Scrub(); return text(l), e }, func(m *model) (any, api.Errno) { return text(m.scrub()), api.OK }}
	}
}

// text is names as one value that can be compared.
func text(l []api.ID) string {
	var s strings.Builder
	for _, id := range l {
		s.Write(id[:])
	}
	return s.String()
}

// spoil alters a byte of any record.
func (h *history) spoil() {
	ok(h.t, "Sync", h.s.Sync())
	if len(h.m.log) == 0 {
		return
	}
	n := h.r.Intn(len(h.m.log))
	at := 2 + h.m.turn%2*h.m.half
	for _, x := range h.m.log[:n] {
		at += book.Cost(len(x.x.Data))
	}
	x := &h.m.log[n]
	if !x.spoilt {
		x.spoilt = true
		ok(h.t, "Spoil", h.disk.Spoil(at+h.r.Intn(book.Cost(len(x.x.Data))), 40+h.r.Intn(24), byte(1+h.r.Intn(255))))
	}
}

func (h *history) check() {
	t, s, m := h.t, h.s, h.m
	same(t, "Paths", s.Paths(), m.reg.Paths()...)
	same(t, "Held", s.Held(), m.reg.Held()...)
	same(t, "Asked", s.Asked(), m.reg.Asked()...)
	var stored []api.ID
	for _, x := range m.log {
		if x.x.Kind == 1 {
			stored = append(stored, x.id)
		}
	}
	same(t, "Objects", s.Objects(), rising(stored...)...)
	if s.Free() != m.free() || s.Sick() {
		t.Errorf("%d free, not %d, sick %t", s.Free(), m.free(), s.Sick())
	}
	for _, p := range h.pool {
		for _, o := range p.objects {
			want, e := m.read(o.ID)
			if got, f := s.Get(o.ID); got != want || e != f {
				t.Errorf("Get: %+v, %d, not %+v, %d", got, f, want, e)
			}
			if s.Has(o.ID) != (m.find(o.ID) >= 0) {
				t.Errorf("Has: %t", s.Has(o.ID))
			}
		}
		x, there := m.reg.Path(p.id)
		if !there {
			fails(t, s, p.id, api.ErrUnknown)
		} else if _, e := m.tree(x); e != api.OK {
			fails(t, s, p.id, e)
		} else {
			reads(t, s, p)
		}
	}
}

// Each call is as the chapter says, after any sequence of calls, whatever is spoilt.
func TestHistories(t *testing.T) {
	runs := 150
	if testing.Short() {
		runs = 20
	}
	seen := map[string]int{}
	for seed := range runs {
		h := begin(t, int64(seed))
		for range 50 {
			switch h.r.Intn(12) {
			case 0:
				if seed%2 == 0 {
					h.spoil()
				}
			case 1:
				ok(t, "Sync", h.s.Sync())
				h.m.reopen()
				h.s = on(t, h.disk)
			default:
				c := h.step()
				got, e := c.store(h.s)
				want, f := c.model(h.m)
				if got != want || e != f {
					t.Errorf("%s: %x, %d, not %x, %d", c.name, got, e, want, f)
				}
				seen[c.name+" "+string(rune('A'+e))]++
				if c.name == "Scrub" {
					for _, id := range h.s.Paths() {
						_, _, e := h.s.Read(id)
						ok(t, "Read after a Scrub", e)
					}
				}
			}
			h.check()
			if t.Failed() {
				t.Fatalf("seed %d", seed)
			}
		}
	}
	// The histories are of use only if they come to all that there is.
	for _, x := range strings.Fields("Add-A Add-E Add-J Stage-A Stage-D Stage-E Install-A Install-C Install-D Install-E Install-G Install-H Install-J Hold-A Hold-H Hold-E Ask-A Ask-H Ask-E Gc-A Scrub-A") {
		if seen[strings.Replace(x, "-", " ", 1)] == 0 && !testing.Short() {
			t.Errorf("%s has not occurred", x)
		}
	}
}

// recover takes the records of the model from the disk, of which it is not known how much of the last ones has survived.
func (h *history) recover() {
	h.s = on(h.t, h.disk)
	twin := sector.New(h.disk.Size())
	text := contents(h.t, h.disk)
	for at := range twin.Size() {
		ok(h.t, "Write", twin.Write(at, text[at*64:at*64+64]))
	}
	_, l, e := book.Open(twin)
	ok(h.t, "Open", e)
	h.m.log = nil
	for _, x := range l {
		y := entry{x: book.Record{Kind: x.Kind, Data: x.Data}}
		if x.Kind == 1 {
			y.id = oid.Of(int(x.Data[0]), x.Data[1:])
		}
		h.m.log = append(h.m.log, y)
	}
}

// After a crash at any call of the disk the registry is as before or after the call in progress, and everything that is there can be read.
func TestCrashes(t *testing.T) {
	runs := 150
	if testing.Short() {
		runs = 20
	}
	for seed := range runs {
		h := begin(t, int64(seed))
		failed := 0
		for range 40 {
			h.disk.Arm(h.r.Intn(40) * h.r.Intn(3))
			c := h.step()
			next := h.m.clone()
			want, f := c.model(next)
			got, e := c.store(h.s)
			if e != api.ErrIO {
				h.disk.Clear()
				h.m = next
				if got != want || e != f {
					t.Errorf("%s: %x, %d, not %x, %d", c.name, got, e, want, f)
				}
			} else {
				failed++
				h.fails(next)
			}
			if h.r.Intn(6) == 0 {
				h.disk.Crash(choices(h.r.Int63())...)
				h.recover()
			}
			h.check()
			if t.Failed() {
				t.Fatalf("seed %d: %s", seed, c.name)
			}
		}
		if failed == 0 {
			t.Errorf("seed %d: nothing has failed", seed)
		}
	}
}

// fails crashes a store that is sick. The model goes on from before the call, or from after it.
func (h *history) fails(next *model) {
	t := h.t
	before, after := [3][]api.ID{h.m.reg.Paths(), h.m.reg.Held(), h.m.reg.Asked()}, [3][]api.ID{next.reg.Paths(), next.reg.Held(), next.reg.Asked()}
	if !h.s.Sick() || !sameRegistry(registryOf(h.s), before) {
		t.Errorf("sick %t, %x", h.s.Sick(), registryOf(h.s))
	}
	if h.r.Intn(3) > 0 {
		h.disk.Crash(choices(h.r.Int63())...)
	}
	h.disk.Clear()
	h.recover()
	switch got := registryOf(h.s); {
	case sameRegistry(got, after):
		h.m.reg = next.reg
	case !sameRegistry(got, before):
		t.Errorf("%x, neither %x nor %x", got, before, after)
	}
}
