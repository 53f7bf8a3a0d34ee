package swap

import (
	"bytes"
	"math/rand"
	"reflect"
	"slices"
	"strconv"
	"testing"

	"caravan/api"
	"caravan/frontier"
	"caravan/info"
	"caravan/letter"
	"caravan/merkle"
	"caravan/oid"
	"caravan/quota"
	"caravan/repute"
	"caravan/sector"
	"caravan/store"
	"caravan/tree"
)

// deal is one order in a log, where it stays when it is over.
type deal struct {
	want       frontier.Want
	n, seq, at int
	over       bool
}

// gap is that an address lacks an object until a tick.
type gap struct {
	n     int
	id    api.ID
	until int
}

// model is a slow swap: it goes through all that ever happened, beside a book and a quota of its own.
type model struct {
	own   int
	log   []deal
	gaps  []gap
	book  *repute.Book
	quota *quota.Quota
}

func newModel(own int, rate quota.Rate) *model {
	q, _ := quota.New(rate)
	return &model{own: own, book: repute.New(), quota: q}
}

func (m *model) open() []frontier.Want {
	var l []frontier.Want
	for _, d := range m.log {
		if !d.over {
			l = append(l, d.want)
		}
	}
	return l
}

func (m *model) tick(now int) {
	for i, d := range m.log {
		if !d.over && now >= d.at+6 {
			m.log[i].over = true
			m.book.Silent(d.n, now)
		}
	}
}

// better reports whether an address is asked ahead of another one.
func (m *model) better(x, y int) bool {
	return m.book.Score(x) > m.book.Score(y) || m.book.Score(x) == m.book.Score(y) && x < y
}

func (m *model) mayAsk(n int, id api.ID, now int) bool {
	busy := 0
	for _, d := range m.log {
		if !d.over && d.n == n {
			busy++
		}
	}
	for _, g := range m.gaps {
		if g.n == n && g.id == id && g.until > now {
			return false
		}
	}
	return n != m.own && busy < 4 && m.book.May(n, now)
}

func (m *model) ask(now int, holders []int, wants []frontier.Want) []letter.Letter {
	var sent []letter.Letter
	for _, want := range wants {
		open := m.open()
		if len(open) == 8 || slices.ContainsFunc(open, func(x frontier.Want) bool { return x.ID == want.ID }) {
			continue
		}
		var best []int
		for _, n := range holders {
			if m.mayAsk(n, want.ID, now) && (best == nil || m.better(n, best[0])) {
				best = []int{n}
			}
		}
		if best != nil {
			m.log = append(m.log, deal{want: want, n: best[0], seq: len(m.log) + 1, at: now})
			sent = append(sent, letter.Letter{Kind: letter.Want, From: m.own, To: best[0], Seq: len(m.log), ID: want.ID, What: want.Kind})
		}
	}
	return sent
}

// settle ends the order that a letter answers, and returns its want.
func (m *model) settle(l letter.Letter) (frontier.Want, bool) {
	for i, d := range m.log {
		if !d.over && d.seq == l.Seq && d.n == l.From && d.want.ID == l.ID && d.want.Kind == l.What {
			m.log[i].over = true
			return d.want, true
		}
	}
	return frontier.Want{}, false
}

func (m *model) block(l letter.Letter, now int) (merkle.Object, api.Errno) {
	if l.Kind != letter.Block {
		return merkle.Object{}, api.ErrUnknown
	}
	want, found := m.settle(l)
	o := merkle.Make(l.What, l.Text)
	switch {
	case !found:
		return merkle.Object{}, api.ErrUnknown
	case o.ID != want.ID:
		m.book.Ban(l.From, repute.Proof{Kind: want.Kind, ID: want.ID, Text: l.Text})
		return merkle.Object{}, api.ErrSum
	case len(o.Text) > want.Most:
		m.gaps = append(m.gaps, gap{l.From, want.ID, now + 12})
		return merkle.Object{}, api.ErrBig
	}
	m.book.Good(l.From)
	return o, api.OK
}

func (m *model) miss(l letter.Letter, now int) bool {
	if l.Kind != letter.Miss {
		return false
	}
	want, found := m.settle(l)
	if found {
		m.gaps = append(m.gaps, gap{l.From, want.ID, now + 12})
	}
	return found
}

func (m *model) serve(l letter.Letter, src shelf, now int) (letter.Letter, bool) {
	if l.Kind != letter.Want || l.To != m.own || l.From == m.own {
		return letter.Letter{}, false
	}
	reply := letter.Letter{Kind: letter.Miss, From: m.own, To: l.From, Seq: l.Seq, ID: l.ID, What: l.What}
	cost := 1
	if x, found := src[l.ID]; found && x.e == api.OK && x.object == merkle.Make(l.What, x.object.Text) && x.object.ID == l.ID {
		reply.Kind, reply.Text = letter.Block, x.object.Text
		cost += len(reply.Text)
	}
	if m.quota.Has(l.From, now) < cost {
		return letter.Letter{}, false
	}
	m.quota.Take(l.From, cost, now)
	return reply, true
}

func (m *model) forget(keep []api.ID) {
	for i, d := range m.log {
		m.log[i].over = d.over || !slices.Contains(keep, d.want.ID)
	}
}

// pair is a swap and its model, to which the same is done at random.
type pair struct {
	s      *Swap
	m      *model
	r      *rand.Rand
	now    int
	others []int
}

func newPair(t *testing.T, r *rand.Rand) *pair {
	others := slices.Clone(ends)
	r.Shuffle(len(others), func(i, j int) { others[i], others[j] = others[j], others[i] })
	others = others[:2+r.Intn(len(others)-1)]
	own := others[0]
	rate := quota.Rate{Each: 1 + r.Intn(4), Most: 4 + r.Intn(30)}
	p := &pair{s: open(t, own, rate.Each, rate.Most), m: newModel(own, rate), r: r, others: others}
	p.now = r.Intn(2) * (api.MaxTick - 2000)
	return p
}

func (p *pair) anybody() int {
	return p.others[p.r.Intn(len(p.others))]
}

// want is one of a few wants, with a size that may be too small.
func (p *pair) want() frontier.Want {
	want := need(thing(p.r.Intn(16)))
	switch p.r.Intn(12) {
	case 0:
		want.Most--
	case 1:
		want.Most += 100
	case 2:
		want.Kind = 1 + p.r.Intn(4)
	}
	return want
}

// letter is a letter that may answer an order, one that is over, or none.
func (p *pair) letter(kind int) letter.Letter {
	want := p.want()
	l := letter.Letter{Kind: kind, From: p.anybody(), To: p.m.own, Seq: p.r.Intn(9), ID: want.ID, What: want.Kind}
	if n := len(p.m.log); n > 0 {
		d := p.m.log[max(0, n-1-p.r.Intn(12))]
		l.From, l.Seq, l.ID, l.What = d.n, d.seq, d.want.ID, d.want.Kind
	}
	if p.r.Intn(4) == 0 {
		switch p.r.Intn(5) {
		case 0:
			l.From = p.anybody()
		case 1:
			l.Seq++
		case 2:
			l.ID = p.want().ID
		case 3:
			l.What = 1 + p.r.Intn(3)
		case 4:
			l.Kind = 1 + p.r.Intn(10)
		}
	}
	return l
}

// text is the bytes that have a name, or now and then others.
func (p *pair) text(id api.ID) string {
	for i := range 16 {
		if o := thing(i); o.ID == id && p.r.Intn(25) > 0 {
			return o.Text
		}
	}
	return "x"
}

func (p *pair) asks(t *testing.T) {
	var holders []int
	var wants []frontier.Want
	for range p.r.Intn(6) {
		holders = append(holders, p.anybody())
	}
	for range p.r.Intn(12) {
		wants = append(wants, p.want())
	}
	if got, want := p.s.Ask(p.now, holders, wants...), p.m.ask(p.now, holders, wants); len(got) != len(want) || len(got) > 0 && !reflect.DeepEqual(got, want) {
		t.Fatalf("Ask at %d: %+v, not %+v", p.now, got, want)
	}
}

func (p *pair) serves(t *testing.T) {
	src := shelf{}
	for i := range 16 {
		if o := thing(i); p.r.Intn(3) > 0 {
			o.Text = p.text(o.ID)
			src[o.ID] = entry{o, api.Errno(p.r.Intn(6) / 5)}
		}
	}
	l := p.letter(letter.Want)
	l.From, l.To = p.anybody(), p.m.own
	if p.r.Intn(6) == 0 {
		l.To = p.anybody()
	}
	got, ok := p.s.Serve(l, src, p.now)
	if want, replies := p.m.serve(l, src, p.now); ok != replies || !reflect.DeepEqual(got, want) {
		t.Fatalf("Serve at %d: %+v, %v, not %+v", p.now, got, ok, want)
	}
}

func (p *pair) forgets() {
	var keep []api.ID
	for _, want := range p.s.Open() {
		if p.r.Intn(5) > 0 {
			keep = append(keep, want.ID)
		}
	}
	keep = append(keep, p.want().ID)
	p.s.Forget(keep...)
	p.m.forget(keep)
}

// step makes one call.
func (p *pair) step(t *testing.T) {
	t.Helper()
	switch p.r.Intn(12) {
	case 0, 1:
		p.now += p.r.Intn(4) * p.r.Intn(3)
	case 2:
		p.s.Tick(p.now)
		p.m.tick(p.now)
	case 3, 4, 5:
		p.asks(t)
	case 6, 7:
		l := p.letter(letter.Block)
		l.Text = p.text(l.ID)
		o, e := p.s.Block(l, p.now)
		if want, right := p.m.block(l, p.now); o != want || e != right {
			t.Fatalf("Block at %d: %+v, %d, not %+v, %d", p.now, o, e, want, right)
		}
	case 8, 9:
		l := p.letter(letter.Miss)
		if got, want := p.s.Miss(l, p.now), p.m.miss(l, p.now); got != want {
			t.Fatalf("Miss at %d: %v", p.now, got)
		}
	case 10:
		p.serves(t)
	default:
		if p.r.Intn(3) == 0 {
			p.forgets()
		}
	}
}

// agree compares all that is seen of a swap with its model.
func (p *pair) agree(t *testing.T) {
	t.Helper()
	if got, want := p.s.Open(), p.m.open(); !slices.Equal(got, want) {
		t.Fatalf("Open: %+v, not %+v", got, want)
	}
	for _, n := range ends {
		proof, banned := p.s.Banned(n)
		right, ban := p.m.book.Banned(n)
		if p.s.Score(n) != p.m.book.Score(n) || p.s.Until(n) != p.m.book.Until(n) || proof != right || banned != ban || p.s.Has(n, p.now) != p.m.quota.Has(n, p.now) {
			t.Fatalf("%d: %d until %d, banned %v, has %d", n, p.s.Score(n), p.s.Until(n), banned, p.s.Has(n, p.now))
		}
	}
}

func TestRandomHistories(t *testing.T) {
	histories := 200
	if testing.Short() {
		histories = 20
	}
	for seed := range histories {
		p := newPair(t, rand.New(rand.NewSource(int64(seed))))
		for range 400 {
			p.step(t)
			p.agree(t)
		}
	}
}

// An object that Block returns was requested, has its name, and is not larger than permitted (P25.2), whatever is sent.
func TestOnlyWhatWasRequested(t *testing.T) {
	r := rand.New(rand.NewSource(252))
	count := map[api.Errno]int{}
	for range 50 {
		p := newPair(t, r)
		sent := map[int]frontier.Want{}
		for range 300 {
			var wants []frontier.Want
			for range 4 {
				wants = append(wants, p.want())
			}
			for _, l := range p.s.Ask(p.now, p.others, wants...) {
				i := slices.IndexFunc(wants, func(x frontier.Want) bool { return x.ID == l.ID })
				sent[l.Seq] = wants[i]
				p.m.log = append(p.m.log, deal{want: wants[i], n: l.To, seq: l.Seq})
			}
			l := p.letter(letter.Block)
			l.Text = p.text(l.ID)
			o, e := p.s.Block(l, p.now)
			count[e]++
			if e == api.OK {
				want := sent[l.Seq]
				if want != (frontier.Want{Kind: o.Kind, ID: o.ID, Most: want.Most}) || len(o.Text) > want.Most || oid.Of(o.Kind, o.Text) != o.ID {
					t.Fatalf("%+v came for %+v", o, want)
				}
				delete(sent, l.Seq)
			}
			p.now++
			p.s.Tick(p.now)
		}
	}
	for _, e := range []api.Errno{api.OK, api.ErrUnknown, api.ErrSum, api.ErrBig} {
		if count[e] < 20 {
			t.Errorf("only %d times %d", count[e], e)
		}
	}
}

// peer is another node: what it has, of how many answers it alters one, of how many it withholds one, and how many ticks they take at most.
type peer struct {
	s      *Swap
	has    shelf
	lies   int
	silent int
	slow   int
}

// parcel is a letter on its way, until a tick.
type parcel struct {
	l  letter.Letter
	at int
}

// network is many peers, and what is on the way to 1.
type network struct {
	r     *rand.Rand
	peers map[int]*peer
	way   []parcel
}

// newNetwork makes liars, who are the first to be asked, peers that are often silent, and honest ones, of which 11 has everything.
func newNetwork(t *testing.T, r *rand.Rand, objects []merkle.Object) *network {
	w := &network{r: r, peers: map[int]*peer{}}
	for n := 2; n < 12; n++ {
		p := &peer{s: open(t, n, 64, 1000), has: shelf{}, slow: 1 + r.Intn(8)}
		for _, o := range objects {
			if n == 11 || r.Intn(2) == 0 {
				p.has.put(o)
			}
		}
		switch {
		case n < 5:
			p.lies = 1 + r.Intn(3)
		case n < 7:
			p.silent = 1 + r.Intn(3)
		case n == 11:
			p.slow = 3
		}
		w.peers[n] = p
	}
	return w
}

// send takes a letter to its peer, whose answer comes some ticks later.
func (w *network) send(l letter.Letter, now int) {
	p := w.peers[l.To]
	reply, ok := p.s.Serve(l, p.has, now)
	if !ok || p.silent > 0 && w.r.Intn(p.silent) == 0 {
		return
	}
	if p.lies > 0 && w.r.Intn(p.lies) == 0 {
		reply.Kind, reply.Text = letter.Block, reply.Text+"!"
	}
	w.way = append(w.way, parcel{reply, now + w.r.Intn(p.slow)})
	if w.r.Intn(6) == 0 { // it arrives twice
		w.way = append(w.way, parcel{reply, now + w.r.Intn(9)})
	}
}

// arrive returns what arrives at a tick, in any order.
func (w *network) arrive(now int) []letter.Letter {
	var l []letter.Letter
	for _, x := range w.way {
		if x.at <= now {
			l = append(l, x.l)
		}
	}
	w.way = slices.DeleteFunc(w.way, func(x parcel) bool { return x.at <= now })
	w.r.Shuffle(len(l), func(i, j int) { l[i], l[j] = l[j], l[i] })
	return l
}

// closure makes a path that refers to others, in a store, and returns its name and all objects.
func closure(t *testing.T, r *rand.Rand) (api.ID, []merkle.Object) {
	t.Helper()
	s, e := store.Open(sector.New(5000))
	var refs []api.ID
	for i := range 3 {
		text := make([]byte, r.Intn(3000))
		r.Read(text)
		id, e2 := s.Add(tree.Of(tree.Entry{Name: "f" + strconv.Itoa(i), Item: tree.Item{Kind: tree.File, Text: string(text)}}), refs...)
		if e != api.OK || e2 != api.OK {
			t.Fatalf("Add: %d, %d", e, e2)
		}
		refs = append(refs, id)
	}
	var objects []merkle.Object
	for _, id := range s.Objects() {
		o, e := s.Get(id)
		if e != api.OK {
			t.Fatalf("Get: %d", e)
		}
		objects = append(objects, o)
	}
	return refs[2], objects
}

// fetch gets what a path needs from a network, and returns the swap that did.
func fetch(t *testing.T, w *network, id api.ID, objects []merkle.Object) *Swap {
	t.Helper()
	s := open(t, 1, 64, 1000)
	var all []int
	for n := 2; n < 12; n++ {
		all = append(all, n)
	}
	got := shelf{}
	for now := range 5000 {
		s.Tick(now)
		front, e := frontier.Of(got, func(api.ID) bool { return false }, id)
		if e != api.OK {
			t.Fatalf("Of: %d", e)
		}
		if len(front.Wants) == 0 {
			if len(front.Ready) != 3 || len(got) != len(objects) {
				t.Fatalf("%d of %d objects, %d paths", len(got), len(objects), len(front.Ready))
			}
			return s
		}
		for _, l := range s.Ask(now, all, front.Wants...) {
			if e := l.Check(); e != api.OK {
				t.Fatalf("a letter is not valid: %d", e)
			}
			w.send(l, now)
		}
		few(t, s, front)
		for _, l := range w.arrive(now) {
			s.Miss(l, now)
			if o, e := s.Block(l, now); e == api.OK {
				got.put(o)
			}
		}
	}
	t.Fatal("it does not end")
	return nil
}

// few checks that no more is ordered than may be, and that everything ordered is needed.
func few(t *testing.T, s *Swap, front frontier.Front) {
	t.Helper()
	orders := s.Open()
	if len(orders) > 8 {
		t.Fatalf("%d orders", len(orders))
	}
	each := map[int]int{}
	for _, o := range s.orders {
		if each[o.from]++; each[o.from] > 4 {
			t.Fatalf("%d orders from %d", each[o.from], o.from)
		}
	}
	for _, want := range orders {
		if !slices.Contains(front.Wants, want) {
			t.Fatalf("%+v is not needed", want)
		}
	}
}

// A closure is fetched although others are silent, late, lack objects, or lie; and only liars are banned (P25.3).
func TestFetch(t *testing.T) {
	networks := 60
	if testing.Short() {
		networks = 6
	}
	liars := 0
	for seed := range networks {
		r := rand.New(rand.NewSource(int64(seed)))
		id, objects := closure(t, r)
		w := newNetwork(t, r, objects)
		s := fetch(t, w, id, objects)
		for n := range 14 {
			p, banned := s.Banned(n)
			if banned && (w.peers[n].lies == 0 || !p.Holds()) {
				t.Errorf("%d is banned by %+v", n, p)
			}
			if banned {
				liars++
			}
		}
	}
	if liars < networks {
		t.Errorf("%d liars in %d networks", liars, networks)
	}
}

// Whoever answers with what was requested is never banned (P25.3), nor is he who has nothing, or too much of it, or speaks unasked.
func TestJust(t *testing.T) {
	r := rand.New(rand.NewSource(253))
	var big string
	for len(big) < 512 {
		big += "big "
	}
	s := open(t, 1, 5, 20)
	for now := range 3000 {
		s.Tick(now)
		want := need(merkle.Make(1+r.Intn(3), big[:r.Intn(513)]))
		text := big[:want.Most]
		want.Most -= r.Intn(3)
		for _, l := range s.Ask(now, []int{2, 3, 4, 5}, want) {
			b := answer(l, text)
			switch r.Intn(6) {
			case 0:
				continue
			case 1:
				s.Miss(l.Reply(letter.Miss), now)
			case 2:
				b.Seq++
				b.Text += "?"
			case 3:
				b.ID[0]++
			case 4:
				b.From = 2 + r.Intn(4)
			}
			s.Block(b, now)
			s.Block(b, now)
		}
	}
	for n := range 7 {
		if _, banned := s.Banned(n); banned {
			t.Errorf("%d is banned", n)
		}
	}
}

// The root of a made-up tree may say that a chunk is smaller than it is: who has it lacks it, and is not banned.
func TestMadeUpSize(t *testing.T) {
	o := merkle.Make(oid.Chunk, "larger than its part says")
	root := merkle.Node{Level: 1, Parts: []merkle.Part{{ID: o.ID, Size: len(o.Text) - 1}}}
	node := merkle.Make(oid.Node, root.Text())
	path := merkle.Make(oid.Path, info.Info{Root: merkle.Part{ID: node.ID, Size: root.Size()}}.Text())
	src, got := shelf{}, shelf{}
	src.put(o, node, path)
	s, other := open(t, 1, 64, 1000), open(t, 2, 64, 1000)
	for now := range 30 {
		front, _ := frontier.Of(got, func(api.ID) bool { return false }, path.ID)
		for _, l := range s.Ask(now, []int{2}, front.Wants...) {
			reply, ok := other.Serve(l, src, now)
			x, e := s.Block(reply, now)
			if !ok || (e == api.ErrBig) != (l.ID == o.ID) {
				t.Fatalf("%+v: %d", reply, e)
			}
			if e == api.OK {
				got.put(x)
			}
		}
	}
	if thought(t, s, 2, 2, 0, false); len(got) != 2 || s.last != 5 {
		t.Errorf("%d objects came, after %d letters", len(got), s.last)
	}
}

func TestResultsAreApart(t *testing.T) {
	s := open(t, 1, 5, 20)
	holders, wants := []int{5, 3, 4}, needs(1, 6)
	given, needed := slices.Clone(holders), slices.Clone(wants)
	l := s.Ask(0, holders, wants...)
	if !slices.Equal(holders, given) || !slices.Equal(wants, needed) {
		t.Error("the arguments were changed")
	}
	clear(holders)
	clear(wants)
	isOpen(t, s, needed...)
	first, again := s.Open(), s.Open()
	clear(again)
	_ = append(again[:0], needs(7, 9)...)
	isOpen(t, s, needed...)
	sent := slices.Clone(l)
	misses(t, s, l[0].Reply(letter.Miss), 0, true)
	comes(t, s, answer(l[3], thing(4).Text), 0, api.OK)
	s.Forget(needed[1].ID, needed[4].ID, needed[5].ID)
	s.Ask(0, []int{9}, needs(10, 20)...)
	if !slices.Equal(first, needed) || !reflect.DeepEqual(l, sent) {
		t.Error("the results were changed")
	}
	clear(l)
	isOpen(t, s, append([]frontier.Want{needed[1], needed[4], needed[5]}, needs(10, 13)...)...)
}

func TestSwapsAreApart(t *testing.T) {
	x, y := open(t, 1, 5, 20), open(t, 1, 5, 20)
	l := asks(t, x, 0, []int{3}, needs(1, 3), 1, 0, 3, 3, 3)
	comes(t, y, answer(l[0], thing(1).Text), 0, api.ErrUnknown)
	comes(t, x, answer(l[0], thing(1).Text), 0, api.OK)
	misses(t, x, l[1].Reply(letter.Miss), 0, true)
	x.Serve(from(4, thing(9)), shelf{}, 0)
	isOpen(t, y)
	thought(t, y, 3, 0, 0, false)
	if y.Has(4, 0) != 20 || x.Has(4, 0) != 19 {
		t.Error("they have one quota")
	}
	asks(t, y, 0, []int{3}, needs(2, 3), 1, 0, 3, 3)
	y.Tick(6)
	thought(t, x, 3, 1, 0, false)
	isOpen(t, x, needs(3, 3)...)
}

// The same calls return the same again, and what only asks changes nothing.
func TestTheSameAgain(t *testing.T) {
	run := func(ask bool) string {
		p := newPair(t, rand.New(rand.NewSource(7)))
		var out bytes.Buffer
		for range 3000 {
			p.step(t)
			for _, want := range p.s.Open() {
				out.WriteString(oid.Text(want.ID) + strconv.Itoa(want.Most))
			}
			for _, n := range ends {
				out.WriteString(" " + strconv.Itoa(p.s.Score(n)) + " " + strconv.Itoa(p.s.Has(n, p.now)))
			}
			if ask {
				p.s.Ask(p.now, nil, needs(1, 3)...)
				p.s.Ask(p.now, p.others)
				p.s.Block(letter.Letter{Kind: letter.Block}, p.now)
				p.s.Miss(letter.Letter{Kind: letter.Miss}, p.now)
				p.s.Serve(letter.Letter{}, shelf{}, p.now)
			}
		}
		return out.String()
	}
	if a, b, c := run(false), run(false), run(true); a != b || a != c {
		t.Error("other results")
	}
}

func FuzzHistories(f *testing.F) {
	f.Add(int64(1), 50)
	f.Add(int64(25), 500)
	f.Fuzz(func(t *testing.T, seed int64, calls int) {
		p := newPair(t, rand.New(rand.NewSource(seed)))
		for range min(calls, 500) {
			p.step(t)
			p.agree(t)
		}
	})
}
