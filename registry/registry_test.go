package registry

import (
	"bytes"
	"crypto/sha256"
	"encoding/binary"
	"math"
	"math/rand"
	"slices"
	"strings"
	"testing"

	"caravan/api"
	"caravan/book"
	"caravan/info"
	"caravan/merkle"
)

// The signatures that the chapter lists.
var (
	_ func() *Registry                          = New
	_ func(*Registry, api.ID) (info.Info, bool) = (*Registry).Path
	_ func(*Registry) []api.ID                  = (*Registry).Paths
	_ func(*Registry) []api.ID                  = (*Registry).Held
	_ func(*Registry) []api.ID                  = (*Registry).Asked
	_ func(int, api.ID) book.Record             = Record
	_ func(info.Info) book.Record               = Adds
	_ func(*Registry, book.Record) api.Errno    = (*Registry).Do
	_ func(*Registry, ...book.Record) bool      = (*Registry).All
	_ func(*Registry) []api.ID                  = (*Registry).Order
	_ func(*Registry) []book.Record             = (*Registry).Records
	_ func(*Registry, ...api.ID) []api.ID       = (*Registry).Closure
	_ func(*Registry) *Registry                 = (*Registry).Clone
	_                                           = [1]int{}[There-2]
	_                                           = [1]int{}[Gone-3]
	_                                           = [1]int{}[Hold-4]
	_                                           = [1]int{}[Free-5]
	_                                           = [1]int{}[Ask-6]
	_                                           = [1]int{}[Forget-7]
)

// encoded is an info's encoding as layer 11 says it, for sizes below 65536.
func encoded(x info.Info) string {
	size := []byte{2, byte(x.Root.Size >> 8), byte(x.Root.Size)}
	if x.Root.Size < 256 {
		size = []byte{1, byte(x.Root.Size)}
	}
	refs := []byte{1, byte(len(x.Refs))}
	if len(x.Refs) == 0 {
		refs = []byte{0}
	}
	s := string(x.Root.ID[:]) + string(size) + string(refs)
	for _, id := range x.Refs {
		s += string(id[:])
	}
	return s
}

// name is the name of a path as layers 2 and 11 say it.
func name(x info.Info) api.ID {
	text := encoded(x)
	head := binary.BigEndian.AppendUint32([]byte("crv\x03"), uint32(len(text)))
	return sha256.Sum256(append(head, text...))
}

func compare(a, b api.ID) int { return bytes.Compare(a[:], b[:]) }

// rising is names in ascending order, each once.
func rising(l ...api.ID) []api.ID {
	list := slices.Clone(l)
	slices.SortFunc(list, compare)
	return slices.Compact(list)
}

func namesOf(l ...info.Info) []api.ID {
	var list []api.ID
	for _, x := range l {
		list = append(list, name(x))
	}
	return list
}

// path is the n-th of many infos, with references to these.
func path(n int, refs ...info.Info) info.Info {
	var id api.ID
	binary.BigEndian.PutUint32(id[3:], uint32(n))
	return info.Info{Root: merkle.Part{ID: id, Size: 1 + n%32768}, Refs: rising(namesOf(refs...)...)}
}

func there(x info.Info) book.Record { return book.Record{Kind: 2, Data: encoded(x)} }

func of(kind int, x info.Info) book.Record { return with(kind, name(x)) }

func with(kind int, id api.ID) book.Record { return book.Record{Kind: kind, Data: string(id[:])} }

// does tells whether Do returns this error.
func does(t *testing.T, r *Registry, x book.Record, want api.Errno) {
	t.Helper()
	before := stateOf(r)
	if e := r.Do(x); e != want {
		t.Errorf("Do(%d, %x): %d, not %d", x.Kind, x.Data, e, want)
	}
	if want != api.OK && !before.same(stateOf(r)) {
		t.Errorf("Do(%d, %x) has changed something", x.Kind, x.Data)
	}
}

// filled is a registry with these paths.
func filled(t *testing.T, l ...info.Info) *Registry {
	t.Helper()
	r := New()
	for _, x := range l {
		does(t, r, there(x), api.OK)
	}
	return r
}

// state is all that a registry shows.
type state struct {
	paths, held, asked, order []api.ID
	infos                     []info.Info
	records                   []book.Record
}

func stateOf(r *Registry) state {
	s := state{paths: r.Paths(), held: r.Held(), asked: r.Asked(), order: r.Order(), records: r.Records()}
	for _, id := range s.paths {
		x, _ := r.Path(id)
		s.infos = append(s.infos, x)
	}
	return s
}

func (s state) same(o state) bool {
	return slices.Equal(s.paths, o.paths) && slices.Equal(s.held, o.held) && slices.Equal(s.asked, o.asked) && slices.Equal(s.order, o.order) && slices.Equal(s.records, o.records) && slices.EqualFunc(s.infos, o.infos, info.Same)
}

// shows tells whether a registry has exactly these paths, and these names.
func shows(t *testing.T, r *Registry, paths []info.Info, held, asked []api.ID) {
	t.Helper()
	if got, want := r.Paths(), rising(namesOf(paths...)...); !slices.Equal(got, want) {
		t.Errorf("Paths: %x, not %x", got, want)
	}
	if got, want := r.Held(), rising(held...); !slices.Equal(got, want) {
		t.Errorf("Held: %x, not %x", got, want)
	}
	if got, want := r.Asked(), rising(asked...); !slices.Equal(got, want) {
		t.Errorf("Asked: %x, not %x", got, want)
	}
	for _, x := range paths {
		if got, ok := r.Path(name(x)); !ok || got.Root != x.Root || !slices.Equal(got.Refs, x.Refs) {
			t.Errorf("Path: %+v, %t, not %+v", got, ok, x)
		}
	}
	closed(t, r)
	rebuilt(t, r)
}

// closed tells whether everything that a path refers to is there, and everything that is held (P14.2).
func closed(t *testing.T, r *Registry) {
	t.Helper()
	paths := r.Paths()
	needs := r.Held()
	for _, id := range paths {
		x, ok := r.Path(id)
		if !ok || name(x) != id {
			t.Errorf("the path %x is %+v, %t", id, x, ok)
		}
		needs = append(needs, x.Refs...)
	}
	for _, id := range needs {
		if _, ok := slices.BinarySearchFunc(paths, id, compare); !ok {
			t.Errorf("%x is not there", id)
		}
	}
}

// rebuilt tells whether Records rebuilds a registry (P14.3).
func rebuilt(t *testing.T, r *Registry) {
	t.Helper()
	q := New()
	for i, x := range r.Records() {
		if e := q.Do(x); e != api.OK {
			t.Errorf("record %d, of kind %d: %d", i, x.Kind, e)
		}
	}
	if !stateOf(q).same(stateOf(r)) {
		t.Error("Records makes another registry")
	}
}

func TestExample(t *testing.T) {
	a := path(1)
	b := path(2, a)
	r := New()
	for i, c := range []struct {
		x    book.Record
		want api.Errno
	}{
		{Adds(b), api.ErrRef}, {Adds(a), api.OK}, {Adds(b), api.OK}, {Record(Gone, a.Name()), api.ErrBusy},
	} {
		if e := r.Do(c.x); e != c.want {
			t.Errorf("%d: %d, not %d", i, e, c.want)
		}
	}
	shows(t, r, []info.Info{a, b}, nil, nil)
}

func TestEmptyRegistry(t *testing.T) {
	r := New()
	shows(t, r, nil, nil, nil)
	if len(r.Order()) != 0 || len(r.Records()) != 0 || len(r.Closure()) != 0 || len(r.Closure(api.ID{})) != 0 || !r.All() {
		t.Error("an empty registry has something")
	}
	if x, ok := r.Path(api.ID{}); ok || x.Root != (merkle.Part{}) || x.Refs != nil {
		t.Errorf("Path: %+v, %t", x, ok)
	}
	shows(t, r.Clone(), nil, nil, nil)
	shows(t, New(), nil, nil, nil)
}

func TestRecordAndAdds(t *testing.T) {
	id := api.ID{0: 1, 15: 0xff, 31: 9}
	for _, kind := range []int{2, 3, 4, 5, 6, 7, 0, 1, 8, 200, -5, math.MaxInt} {
		if got := Record(kind, id); got != (book.Record{Kind: kind, Data: string(id[:])}) {
			t.Errorf("Record(%d): %+v", kind, got)
		}
	}
	a := path(1)
	for _, x := range []info.Info{a, path(300, a), path(70000, a, path(2), path(3)), {Root: merkle.Part{ID: id, Size: 32768}, Refs: []api.ID{{}, {1}}}} {
		if got := Adds(x); got != there(x) {
			t.Errorf("Adds(%+v): %+v", x, got)
		}
	}
	// It needs not be the info of a path.
	for _, x := range []info.Info{{}, {Root: merkle.Part{Size: -1}}, {Refs: []api.ID{{2}, {1}}}} {
		if got := Adds(x); got.Kind != 2 || got.Data != x.Text() || got.At != 0 {
			t.Errorf("Adds(%+v): %+v", x, got)
		}
	}
}

func TestThere(t *testing.T) {
	a, b := path(1), path(2)
	c := path(3, a, b)
	d := path(4, c)
	r := New()
	does(t, r, there(c), api.ErrRef)
	does(t, r, there(a), api.OK)
	does(t, r, there(c), api.ErrRef)
	does(t, r, there(d), api.ErrRef)
	does(t, r, there(b), api.OK)
	does(t, r, there(d), api.ErrRef)
	does(t, r, there(c), api.OK)
	does(t, r, there(d), api.OK)
	shows(t, r, []info.Info{a, b, c, d}, nil, nil)
	// A path that is there may be there again.
	does(t, r, there(a), api.OK)
	does(t, r, there(c), api.OK)
	shows(t, r, []info.Info{a, b, c, d}, nil, nil)
	// Whether something is asked for makes no difference.
	e := path(5, path(6))
	does(t, r, with(Ask, e.Refs[0]), api.OK)
	does(t, r, there(e), api.ErrRef)
	does(t, r, of(Ask, b), api.OK)
	does(t, r, there(b), api.OK)
	shows(t, r, []info.Info{a, b, c, d}, nil, []api.ID{e.Refs[0], name(b)})
}

// Where a record was stored says nothing.
func TestPositionsAreIgnored(t *testing.T) {
	a := path(1)
	r := New()
	for _, x := range []book.Record{there(a), of(Hold, a), of(Ask, a), of(Free, a), of(Gone, a)} {
		x.At = 99
		does(t, r, x, api.OK)
	}
	shows(t, r, nil, nil, namesOf(a))
	if r.Records()[0].At != 0 {
		t.Error("a record has a position")
	}
}

func TestThereRefuses(t *testing.T) {
	a := path(1)
	r := filled(t, a)
	id := name(a)
	var many []api.ID
	for i := range 9 {
		many = append(many, api.ID{byte(i)})
	}
	root := func(size int, refs ...api.ID) info.Info {
		return info.Info{Root: merkle.Part{ID: id, Size: size}, Refs: refs}
	}
	valid := encoded(root(5, id))
	for i, c := range []struct {
		text string
		want api.Errno
	}{
		{"", api.ErrEnd}, {"x", api.ErrEnd}, {string(id[:]), api.ErrEnd}, {valid[:len(valid)-1], api.ErrEnd}, {valid + "\x00", api.ErrForm},
		{string(id[:]) + "\x01\x00\x00", api.ErrForm}, {string(id[:]) + "\x00\x00", api.ErrForm},
		{encoded(root(32769)), api.ErrBig}, {encoded(root(32768)), api.OK}, {encoded(root(5, many...)), api.ErrBig},
		{encoded(root(5, many[:8]...)), api.ErrRef}, {encoded(root(5, id, many[0])), api.ErrForm}, {encoded(root(5, many[1], many[1])), api.ErrForm},
		{encoded(root(5, id, id)), api.ErrForm}, {encoded(root(5, many[0], id)), api.ErrRef}, {encoded(root(5, many[3])), api.ErrRef}, {valid, api.OK},
	} {
		does(t, r, book.Record{Kind: There, Data: c.text}, c.want)
		if _, want := info.Parse(c.text); c.want != api.ErrRef && want != c.want {
			t.Errorf("%d: Parse says %d", i, want)
		}
	}
	shows(t, r, []info.Info{a, root(32768), root(5, id)}, nil, nil)
	// One that is missing among others that are there, in any place.
	for i := range 8 {
		refs := []info.Info{path(900)}
		for k := range 7 {
			refs = append(refs, path(100*i+k))
		}
		x := path(50, refs...)
		r := filled(t, refs[1:]...)
		does(t, r, there(x), api.ErrRef)
		does(t, r, there(refs[0]), api.OK)
		does(t, r, there(x), api.OK)
	}
}

// Every cut of an encoding, and every altered byte, is refused as layer 11 says it, or is another path.
func TestThereOfAlteredBytes(t *testing.T) {
	a, b := path(1), path(2)
	text := encoded(path(300, a, b))
	for i := range len(text) {
		does(t, filled(t, a, b), book.Record{Kind: There, Data: text[:i]}, api.ErrEnd)
		for _, with := range []byte{1, 128, 255} {
			altered := []byte(text)
			altered[i] ^= with
			r := filled(t, a, b)
			x, want := info.Parse(string(altered))
			paths := []info.Info{a, b}
			if want == api.OK {
				if slices.Equal(x.Refs, rising(namesOf(a, b)...)) || len(x.Refs) == 0 {
					paths = append(paths, x)
				} else {
					want = api.ErrRef
				}
			}
			does(t, r, book.Record{Kind: There, Data: string(altered)}, want)
			shows(t, r, paths, nil, nil)
		}
	}
}

func TestOtherKinds(t *testing.T) {
	a := path(1)
	r := filled(t, a)
	for _, kind := range []int{0, 1, 8, 9, 200, 201, -1, -2, 256 + 2, 256 + 4, math.MaxInt, math.MinInt, math.MinInt + 4} {
		for _, text := range []string{"", "x", string(r.Paths()[0][:]), encoded(a), encoded(path(2))} {
			does(t, r, book.Record{Kind: kind, Data: text}, api.ErrArg)
			if !r.All(book.Record{Kind: kind, Data: text}) {
				t.Errorf("All does not ignore kind %d", kind)
			}
		}
	}
	shows(t, r, []info.Info{a}, nil, nil)
}

func TestDataThatIsNoName(t *testing.T) {
	a := path(1)
	b := path(2, a)
	r := filled(t, a, b)
	does(t, r, of(Hold, a), api.OK)
	does(t, r, of(Ask, a), api.OK)
	id := name(a)
	for kind := Gone; kind <= Forget; kind++ {
		for _, text := range []string{"", "x", string(id[:31]), string(id[:]) + "\x00", string(id[:]) + string(id[:]), encoded(a), strings.Repeat("x", 4096)} {
			does(t, r, book.Record{Kind: kind, Data: text}, api.ErrForm)
		}
	}
	shows(t, r, []info.Info{a, b}, namesOf(a), namesOf(a))
}

func TestGone(t *testing.T) {
	a := path(1)
	b := path(2, a)
	c := path(3, a, b)
	r := filled(t, a, b, c)
	does(t, r, with(Gone, api.ID{}), api.ErrUnknown)
	does(t, r, of(Gone, a), api.ErrBusy)
	does(t, r, of(Gone, b), api.ErrBusy)
	does(t, r, of(Hold, c), api.OK)
	does(t, r, of(Gone, c), api.ErrBusy)
	does(t, r, of(Hold, a), api.OK)
	does(t, r, of(Gone, a), api.ErrBusy)
	does(t, r, of(Free, c), api.OK)
	does(t, r, of(Ask, c), api.OK)
	// What is asked for can be removed, and stays asked for.
	does(t, r, of(Gone, c), api.OK)
	shows(t, r, []info.Info{a, b}, namesOf(a), namesOf(c))
	does(t, r, of(Gone, c), api.ErrUnknown)
	does(t, r, of(Hold, c), api.ErrUnknown)
	does(t, r, of(Gone, b), api.OK)
	does(t, r, of(Gone, a), api.ErrBusy)
	does(t, r, of(Free, a), api.OK)
	does(t, r, of(Gone, a), api.OK)
	shows(t, r, nil, nil, namesOf(c))
	does(t, r, of(Gone, a), api.ErrUnknown)
	does(t, r, there(b), api.ErrRef)
	does(t, r, there(a), api.OK)
	shows(t, r, []info.Info{a}, nil, namesOf(c))
	if _, ok := r.Path(name(b)); ok {
		t.Error("what is gone is there")
	}
}

// What is needed by one of many, whichever of them, cannot be removed.
func TestGoneOfWhatOneOfManyRefersTo(t *testing.T) {
	for i := range 30 {
		a := path(1)
		r := filled(t, a)
		for k := range 30 {
			x := path(100 + k)
			if k == i {
				x = path(100+k, a)
			}
			does(t, r, there(x), api.OK)
		}
		does(t, r, of(Gone, a), api.ErrBusy)
		does(t, r, of(Gone, path(100+i, a)), api.OK)
		does(t, r, of(Gone, a), api.OK)
	}
}

func TestHoldAndFree(t *testing.T) {
	a, b := path(1), path(2)
	r := filled(t, a, b)
	does(t, r, of(Free, a), api.ErrUnknown)
	does(t, r, with(Free, api.ID{7}), api.ErrUnknown)
	does(t, r, with(Hold, api.ID{7}), api.ErrUnknown)
	does(t, r, with(Ask, api.ID{7}), api.OK)
	does(t, r, with(Hold, api.ID{7}), api.ErrUnknown)
	does(t, r, with(Free, api.ID{7}), api.ErrUnknown)
	does(t, r, of(Hold, a), api.OK)
	does(t, r, of(Hold, a), api.OK)
	shows(t, r, []info.Info{a, b}, namesOf(a), []api.ID{{7}})
	does(t, r, of(Hold, b), api.OK)
	shows(t, r, []info.Info{a, b}, namesOf(a, b), []api.ID{{7}})
	does(t, r, of(Free, a), api.OK)
	does(t, r, of(Free, a), api.ErrUnknown)
	shows(t, r, []info.Info{a, b}, namesOf(b), []api.ID{{7}})
	// To be there again frees nothing.
	does(t, r, there(b), api.OK)
	does(t, r, of(Forget, b), api.ErrUnknown)
	shows(t, r, []info.Info{a, b}, namesOf(b), []api.ID{{7}})
}

func TestAskAndForget(t *testing.T) {
	a := path(1)
	r := filled(t, a)
	does(t, r, of(Hold, a), api.OK)
	does(t, r, of(Forget, a), api.ErrUnknown)
	does(t, r, with(Ask, api.ID{}), api.OK)
	does(t, r, with(Ask, api.ID{}), api.OK)
	does(t, r, of(Ask, a), api.OK)
	does(t, r, with(Ask, api.ID{31: 1}), api.OK)
	shows(t, r, []info.Info{a}, namesOf(a), append(namesOf(a), api.ID{}, api.ID{31: 1}))
	does(t, r, of(Free, a), api.OK)
	does(t, r, with(Forget, api.ID{}), api.OK)
	does(t, r, with(Forget, api.ID{}), api.ErrUnknown)
	shows(t, r, []info.Info{a}, nil, append(namesOf(a), api.ID{31: 1}))
	does(t, r, of(Forget, a), api.OK)
	does(t, r, with(Forget, api.ID{31: 1}), api.OK)
	shows(t, r, []info.Info{a}, nil, nil)
}

func TestAll(t *testing.T) {
	a := path(1)
	b := path(2, a)
	other := book.Record{Kind: 1, Data: "\x01x"}
	for i, c := range []struct {
		l           []book.Record
		want        bool
		paths       []info.Info
		held, asked []api.ID
	}{
		{nil, true, nil, nil, nil},
		{[]book.Record{other, {}, {Kind: 200}, {Kind: -1}, {Kind: 8}}, true, nil, nil, nil},
		{[]book.Record{there(a), other, there(b), of(Hold, b), of(Ask, a)}, true, []info.Info{a, b}, namesOf(b), namesOf(a)},
		{[]book.Record{there(b)}, false, nil, nil, nil},
		{[]book.Record{there(b), there(a)}, false, nil, nil, nil},
		{[]book.Record{there(a), of(Hold, b), there(b)}, false, []info.Info{a}, nil, nil},
		{[]book.Record{other, of(Ask, b), {Kind: Ask}, of(Ask, a)}, false, nil, nil, namesOf(b)},
		{[]book.Record{there(a), {Kind: There}, there(b)}, false, []info.Info{a}, nil, nil},
		{[]book.Record{there(a), there(b), of(Gone, a), of(Ask, a)}, false, []info.Info{a, b}, nil, nil},
		{[]book.Record{there(a), of(Free, a), of(Ask, a)}, false, []info.Info{a}, nil, nil},
		{[]book.Record{there(a), of(Forget, a), of(Ask, a)}, false, []info.Info{a}, nil, nil},
		{[]book.Record{there(a), there(b), of(Hold, b), of(Free, b), of(Gone, b), of(Gone, a), of(Ask, a), of(Forget, a)}, true, nil, nil, nil},
	} {
		r := New()
		l := slices.Clone(c.l)
		if got := r.All(l...); got != c.want {
			t.Errorf("%d: %t", i, got)
		}
		shows(t, r, c.paths, c.held, c.asked)
		if !slices.Equal(l, c.l) {
			t.Errorf("%d: the records were changed", i)
		}
	}
}

// ordered is the order as the chapter says it, by searching lists.
func ordered(paths []info.Info) []api.ID {
	var list []api.ID
	var include func(id api.ID)
	include = func(id api.ID) {
		if slices.Contains(list, id) {
			return
		}
		i := slices.IndexFunc(paths, func(x info.Info) bool { return name(x) == id })
		for _, ref := range paths[i].Refs {
			include(ref)
		}
		list = append(list, id)
	}
	for _, id := range rising(namesOf(paths...)...) {
		include(id)
	}
	return list
}

// reached is the closure of names as the chapter says it: it grows as long as something is missing.
func reached(paths []info.Info, l ...api.ID) []api.ID {
	var list []api.ID
	for _, x := range paths {
		if slices.Contains(l, name(x)) {
			list = append(list, name(x))
		}
	}
	for i := 0; i < len(list); i++ {
		k := slices.IndexFunc(paths, func(x info.Info) bool { return name(x) == list[i] })
		for _, ref := range paths[k].Refs {
			if !slices.Contains(list, ref) {
				list = append(list, ref)
			}
		}
	}
	return rising(list...)
}

// web is n paths that refer to earlier ones, as many as there may be.
func web(r *rand.Rand, n int) []info.Info {
	var l []info.Info
	for i := range n {
		var refs []info.Info
		for range min(r.Intn(10), 8) {
			if i > 0 {
				refs = append(refs, l[r.Intn(i)])
			}
		}
		l = append(l, path(r.Int(), refs...))
	}
	return l
}

func TestOrderAndClosure(t *testing.T) {
	r := rand.New(rand.NewSource(1))
	for n := range 60 {
		l := web(r, n)
		reg := filled(t, l...)
		if got, want := reg.Order(), ordered(l); !slices.Equal(got, want) {
			t.Fatalf("%d paths: Order %x, not %x", n, got, want)
		}
		for range 20 {
			ask := []api.ID{{9}}
			for range r.Intn(4) {
				if n > 0 {
					ask = append(ask, name(l[r.Intn(n)]), api.ID{byte(r.Intn(4))})
				}
			}
			before := slices.Clone(ask)
			if got, want := reg.Closure(ask...), reached(l, ask...); !slices.Equal(got, want) {
				t.Fatalf("%d paths: Closure %x, not %x", n, got, want)
			}
			if !slices.Equal(ask, before) {
				t.Error("the names were changed")
			}
		}
		if got := reg.Closure(namesOf(l...)...); !slices.Equal(got, reg.Paths()) {
			t.Errorf("%d paths: Closure of all: %x", n, got)
		}
	}
}

// The order hangs on the names alone, not on the order in which the paths came, and references come ahead of lesser names.
func TestOrder(t *testing.T) {
	l := []info.Info{path(0), path(1), path(2)}
	slices.SortFunc(l, func(a, b info.Info) int { return compare(name(a), name(b)) })
	a, b, c := l[0], l[1], l[2]
	top := path(3, c)
	for n := 4; compare(name(top), name(a)) > 0; n++ {
		top = path(n, c)
	}
	want := namesOf(c, top, a, b)
	for _, l := range [][]info.Info{{a, b, c, top}, {c, top, b, a}, {b, c, a, top}} {
		if got := filled(t, l...).Order(); !slices.Equal(got, want) {
			t.Errorf("%x, not %x", got, want)
		}
	}
	// Of the references the least comes first, each of them after its own.
	mid := path(100, b)
	top = path(200, a, b, c, mid)
	for n := 201; compare(name(top), name(a)) > 0 || compare(name(top), name(mid)) > 0; n++ {
		top = path(n, a, b, c, mid)
	}
	r := filled(t, c, b, a, mid, top)
	if got, want := r.Order(), ordered([]info.Info{a, b, c, mid, top}); !slices.Equal(got, want) || got[4] != name(top) {
		t.Errorf("%x, not %x", got, want)
	}
}

func TestClosure(t *testing.T) {
	a, b := path(1), path(2)
	c := path(3, a)
	d := path(4, c, b)
	r := filled(t, a, b, c, d)
	does(t, r, of(Hold, d), api.OK)
	does(t, r, with(Ask, api.ID{7}), api.OK)
	for i, q := range []struct {
		ask  []api.ID
		want []info.Info
	}{
		{nil, nil}, {[]api.ID{{7}}, nil}, {namesOf(a), []info.Info{a}}, {namesOf(c), []info.Info{a, c}}, {namesOf(c, b, c, b), []info.Info{a, b, c}},
		{namesOf(d), []info.Info{a, b, c, d}}, {append(namesOf(b), api.ID{7}, api.ID{}), []info.Info{b}}, {append([]api.ID{{7}}, namesOf(a, c)...), []info.Info{a, c}},
	} {
		if got := r.Closure(q.ask...); !slices.Equal(got, rising(namesOf(q.want...)...)) {
			t.Errorf("%d: %x", i, got)
		}
	}
}

func TestRecords(t *testing.T) {
	a, b := path(1), path(2)
	c := path(3, a, b)
	r := filled(t, b, a, c)
	asked := []api.ID{{9}, {3}, name(c), {0: 3, 31: 1}}
	does(t, r, of(Hold, c), api.OK)
	does(t, r, of(Hold, a), api.OK)
	for _, id := range asked {
		does(t, r, with(Ask, id), api.OK)
	}
	var want []book.Record
	for _, id := range ordered([]info.Info{a, b, c}) {
		for _, x := range []info.Info{a, b, c} {
			if name(x) == id {
				want = append(want, there(x))
			}
		}
	}
	for _, id := range rising(namesOf(c, a)...) {
		want = append(want, with(4, id))
	}
	for _, id := range rising(asked...) {
		want = append(want, with(6, id))
	}
	if got := r.Records(); !slices.Equal(got, want) {
		t.Errorf("%+v, not %+v", got, want)
	}
	rebuilt(t, r)
}

func TestClone(t *testing.T) {
	a := path(1)
	b := path(2, a)
	setUp := func() *Registry {
		r := filled(t, a, b)
		r.All(of(Hold, b), of(Hold, a), with(Ask, api.ID{7}), with(Ask, api.ID{8}))
		return r
	}
	want := stateOf(setUp())
	changes := []book.Record{there(path(3)), there(path(4, b)), of(Free, b), of(Gone, path(4, b)), of(Gone, b), of(Hold, path(3)), with(Ask, api.ID{9}), with(Forget, api.ID{7}), of(Free, a), of(Gone, a)}
	for n := range len(changes) + 1 {
		r := setUp()
		q := r.Clone()
		if !stateOf(q).same(want) {
			t.Fatal("the copy is another one")
		}
		if !r.All(changes[:n]...) || !stateOf(q).same(want) {
			t.Errorf("%d changes of the registry change its copy", n)
		}
		r = setUp()
		q = r.Clone()
		if !q.All(changes[:n]...) || !stateOf(r).same(want) {
			t.Errorf("%d changes of the copy change the registry", n)
		}
		closed(t, q)
		rebuilt(t, q)
	}
}

func TestResultsAreApart(t *testing.T) {
	a, b := path(1), path(2)
	c := path(3, a, b)
	r := filled(t, a, b, c)
	r.All(of(Hold, b), of(Hold, a), with(Ask, api.ID{7}))
	want := stateOf(r)
	q := r.Clone()
	for _, list := range [][]api.ID{r.Paths(), r.Held(), r.Asked(), r.Order(), r.Closure(name(c))} {
		clear(list)
	}
	clear(r.Records())
	x, _ := r.Path(name(c))
	clear(x.Refs)
	x, _ = q.Path(name(c))
	x.Refs = append(x.Refs[:1], api.ID{})
	if !stateOf(r).same(want) || !stateOf(q).same(want) {
		t.Error("a result is a part of the registry")
	}
	ask := namesOf(c, a)
	clear(r.Closure(ask...))
	if !slices.Equal(ask, namesOf(c, a)) {
		t.Error("a result of Closure is a part of its argument")
	}
	// What was added is not a part of the info from which its record was made.
	d := path(4, a, b)
	does(t, r, Adds(d), api.OK)
	id := name(d)
	clear(d.Refs)
	if x, ok := r.Path(id); !ok || !slices.Equal(x.Refs, rising(namesOf(a, b)...)) {
		t.Errorf("%+v, %t", x, ok)
	}
	closed(t, r)
}

// model is what the chapter says of a registry, in lists.
type model struct {
	paths       []info.Info
	held, asked []api.ID
}

func (m *model) find(id api.ID) int {
	return slices.IndexFunc(m.paths, func(x info.Info) bool { return name(x) == id })
}

// without takes a name out of a list, if it is in it.
func without(l []api.ID, id api.ID) ([]api.ID, api.Errno) {
	i := slices.Index(l, id)
	if i < 0 {
		return l, api.ErrUnknown
	}
	return slices.Delete(l, i, i+1), api.OK
}

func (m *model) do(kind int, x info.Info) (e api.Errno) {
	id := name(x)
	at := m.find(id)
	switch kind {
	case 2:
		for _, ref := range x.Refs {
			if m.find(ref) < 0 {
				return api.ErrRef
			}
		}
		if at < 0 {
			m.paths = append(m.paths, x)
		}
	case 3:
		for _, y := range m.paths {
			if slices.Contains(y.Refs, id) {
				return api.ErrBusy
			}
		}
		if slices.Contains(m.held, id) {
			return api.ErrBusy
		}
		if at < 0 {
			return api.ErrUnknown
		}
		m.paths = slices.Delete(m.paths, at, at+1)
	case 4:
		if at < 0 {
			return api.ErrUnknown
		}
		if !slices.Contains(m.held, id) {
			m.held = append(m.held, id)
		}
	case 5:
		m.held, e = without(m.held, id)
	case 6:
		if !slices.Contains(m.asked, id) {
			m.asked = append(m.asked, id)
		}
	case 7:
		m.asked, e = without(m.asked, id)
	}
	return e
}

func TestHistories(t *testing.T) {
	runs := 60
	if testing.Short() {
		runs = 10
	}
	for seed := range runs {
		r := rand.New(rand.NewSource(int64(seed)))
		pool := web(r, 2+r.Intn(12))
		reg, m := New(), &model{}
		for range 150 {
			kind, x := 2+r.Intn(6), pool[r.Intn(len(pool))]
			if r.Intn(3) == 0 {
				kind = 2 + r.Intn(2)
			}
			record := of(kind, x)
			if kind == There {
				record = there(x)
			}
			does(t, reg, record, m.do(kind, x))
			if r.Intn(20) == 0 {
				reg = reg.Clone()
			}
			shows(t, reg, m.paths, m.held, m.asked)
			if !slices.Equal(reg.Order(), ordered(m.paths)) {
				t.Errorf("Order: %x", reg.Order())
			}
			if !slices.Equal(reg.Closure(m.asked...), reached(m.paths, m.asked...)) {
				t.Errorf("Closure: %x", reg.Closure(m.asked...))
			}
			if t.Failed() {
				t.Fatalf("seed %d", seed)
			}
		}
	}
}

// A chain of many paths, each of which refers to the one before: all of them can be ordered, whatever their names are.
func TestLongChain(t *testing.T) {
	n := 1 << 16
	if testing.Short() {
		n = 1 << 10
	}
	r := New()
	l := []info.Info{path(0)}
	for i := 1; i < n; i++ {
		l = append(l, path(i, l[i-1]))
	}
	for _, x := range l {
		if e := r.Do(there(x)); e != api.OK {
			t.Fatalf("Do: %d", e)
		}
	}
	want := namesOf(l...)
	if !slices.Equal(r.Order(), want) {
		t.Error("another order")
	}
	if !slices.Equal(r.Closure(want[n-1]), rising(want...)) || !slices.Equal(r.Closure(want[n/2]), rising(want[:n/2+1]...)) {
		t.Error("another closure")
	}
	q := New()
	if !q.All(r.Records()...) || !slices.Equal(q.Paths(), r.Paths()) {
		t.Error("another registry")
	}
}

// Paths that refer to all of the eight before them have very many ways down, each path of which counts once.
func TestManyWays(t *testing.T) {
	var l []info.Info
	for i := range 200 {
		l = append(l, path(i, l[max(0, i-8):]...))
	}
	r := filled(t, l...)
	if !slices.Equal(r.Order(), namesOf(l...)) {
		t.Error("another order")
	}
	if got := r.Closure(name(l[199])); len(got) != 200 {
		t.Errorf("%d paths", len(got))
	}
}

// The same calls give the same results.
func TestTheSameAgain(t *testing.T) {
	run := func() state {
		l := web(rand.New(rand.NewSource(3)), 40)
		r := filled(t, l...)
		for i, x := range l {
			r.Do(of(Gone+i%5, x))
		}
		return stateOf(r)
	}
	want := run()
	for range 10 {
		if !run().same(want) {
			t.Fatal("another result")
		}
	}
}

// Whatever records are applied, a registry is closed, and Records rebuilds it.
func FuzzDo(f *testing.F) {
	f.Add([]byte{})
	f.Add([]byte{2, 0, 0, 2, 1, 1, 2, 2, 3, 4, 2, 0, 3, 0, 0, 3, 2, 0, 5, 2, 0, 3, 2, 0, 6, 3, 0, 7, 3, 0})
	f.Add([]byte{2, 200, 1, 3, 255, 255, 9, 9, 9})
	f.Fuzz(func(t *testing.T, steps []byte) {
		// The paths of a pool refer to earlier ones, as the bits of their numbers say.
		var pool []info.Info
		for i := range 8 {
			var refs []info.Info
			for k := range i {
				if i*37>>k&1 == 1 {
					refs = append(refs, pool[k])
				}
			}
			pool = append(pool, path(i, refs...))
		}
		r := New()
		for ; len(steps) >= 3; steps = steps[3:] {
			x := pool[steps[1]%8]
			record := of(int(steps[0]%9), x)
			if record.Kind == There {
				record = there(x)
			}
			if cut := int(steps[2]); cut > 0 && cut < len(record.Data) {
				record.Data = record.Data[:cut]
			}
			before := stateOf(r)
			if e := r.Do(record); e != api.OK && !before.same(stateOf(r)) {
				t.Errorf("error %d has changed something", e)
			}
			closed(t, r)
		}
		rebuilt(t, r)
	})
}
