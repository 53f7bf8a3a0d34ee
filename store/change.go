package store

import (
	"slices"

	"caravan/api"
	"caravan/book"
	"caravan/depot"
	"caravan/merkle"
	"caravan/oid"
	"caravan/reap"
	"caravan/registry"
)

// note makes a change of the registry durable, and then lets it take effect. If the store is packed for it, the objects of the paths of also are kept, too.
func (s *Store) note(x book.Record, also ...api.ID) api.Errno {
	if e := s.Clone().Do(x); e != api.OK {
		return e
	}
	if s.sick {
		return api.ErrIO
	}
	if e := s.room(book.Cost(len(x.Data)), also...); e != api.OK {
		return e
	}
	if _, e := s.depot.Append(x.Kind, x.Data); e != api.OK {
		return s.ended(e)
	}
	if e := s.depot.Sync(); e != api.OK {
		return s.ended(e)
	}
	return s.Do(x)
}

// room makes room for a number of sectors.
func (s *Store) room(sectors int, also ...api.ID) api.Errno {
	if s.Free() >= sectors {
		return api.OK
	}
	if e := s.pack(also); e != api.OK {
		return e
	}
	if s.Free() < sectors {
		return api.ErrSpace
	}
	return api.OK
}

// pack keeps only what is needed after some changes of the registry, and the objects of the paths of also. The changes take effect together with it: a crash leaves all of them, or none.
func (s *Store) pack(also []api.ID, changes ...book.Record) api.Errno {
	next := s.Clone()
	next.All(changes...)
	keep, e := s.needed(next, also)
	if e != api.OK {
		return s.ended(e)
	}
	if _, e := s.depot.Pack(keep, next.Records()...); e != api.OK {
		return s.ended(e)
	}
	s.All(changes...)
	return api.OK
}

// needed returns the objects of the paths that are there, of what is live, and of the paths of also.
func (s *Store) needed(r *registry.Registry, also []api.ID) ([]api.ID, api.Errno) {
	v := &view{depot: s.depot, paths: r}
	list := reap.Objects(v, slices.Concat(r.Paths(), reap.Live(r, v), also)...)
	return list, v.failure
}

// dead returns the paths that are there and not live, in the order in which they can be removed.
func (s *Store) dead() ([]api.ID, api.Errno) {
	v := &view{depot: s.depot, paths: s.Registry}
	list := reap.Dead(s.Registry, v)
	return list, v.failure
}

// whole returns OK if everything of a path is stored.
func (s *Store) whole(id api.ID) api.Errno {
	v := &view{depot: s.depot, paths: s.Registry}
	e := reap.Whole(v, id)
	if v.failure != api.OK {
		return v.failure
	}
	return e
}

// view is the stored objects as layer 15 sees them. It remembers that the disk failed, because an object that could not be read is not missing.
type view struct {
	depot   *depot.Depot
	paths   *registry.Registry
	failure api.Errno
}

// Get returns an object. The own object of a path that is there comes from the registry, which has the same bytes: what the path refers to must not be removed, nor its tree, only because that object is spoilt.
func (v *view) Get(id api.ID) (merkle.Object, api.Errno) {
	if x, there := v.paths.Path(id); there {
		return merkle.Object{Kind: oid.Path, ID: id, Text: x.Text()}, api.OK
	}
	o, e := v.depot.Get(id)
	if e == api.ErrIO {
		v.failure = e
	}
	return o, e
}
