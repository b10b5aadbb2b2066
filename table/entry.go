package table

import (
	"slices"

	"lightship/api"
	"lightship/bits"
)

// entry is the shards of a key, and how many of them are enough.
type entry struct {
	key  api.Key
	need int
	// indexes are the shards' Indexes as marks, and bodies their Bodies, in the order of these.
	indexes string
	bodies  []string
	// ahead and behind are the neighbours in the line, as long as the entry is not ready.
	ahead, behind *entry
}

// role is what a shard is to the entry that it comes to.
type role interface{ isRole() }

type (
	// first is the first one of all: there is no entry.
	first struct{}
	// wanted is one more, and at which place its Body is to stand.
	wanted struct{ place int }
	// known is one that is of no use: it is there, or there are enough.
	known struct{}
	// unlike is one that cannot be of the same block as the others.
	unlike struct{}
)

func (first) isRole()  {}
func (wanted) isRole() {}
func (known) isRole()  {}
func (unlike) isRole() {}

// newEntry is the entry of k that has x alone.
func newEntry(k api.Key, need int, x api.Shard) *entry {
	return &entry{key: k, need: need, indexes: bits.Of([]int{x.Index}), bodies: []string{x.Body}}
}

// role is what x is to e, if it is one of so many that are needed.
func (e *entry) role(need int, x api.Shard) role {
	switch {
	case e == nil:
		return first{}
	case e.ready():
		return known{}
	case need != e.need || len(x.Body) != len(e.bodies[0]):
		return unlike{}
	}
	place := e.place(x.Index)
	switch {
	case !bits.Has(e.indexes, x.Index):
		return wanted{place}
	case e.bodies[place] == x.Body:
		return known{}
	}
	return unlike{}
}

// place is where the Body of that Index stands, or is to stand: behind those of all lesser ones.
func (e *entry) place(index int) int {
	lesser := 0
	for i := range index {
		if bits.Has(e.indexes, i) {
			lesser++
		}
	}
	return lesser
}

// add lets x be one of e's shards, its Body at that place.
func (e *entry) add(place int, x api.Shard) {
	// An Index that a shard may have is one that marks may have.
	e.indexes, _ = bits.Set(e.indexes, x.Index)
	e.bodies = slices.Insert(e.bodies, place, x.Body)
}

// ready: has e as many shards as it needs?
func (e *entry) ready() bool { return len(e.bodies) == e.need }

// shards are e's shards, by rising Index; none of no entry.
func (e *entry) shards() []api.Shard {
	if e == nil {
		return nil
	}
	var l []api.Shard
	for i := range api.MaxShards {
		if bits.Has(e.indexes, i) {
			l = append(l, api.Shard{Index: i, Body: e.bodies[len(l)]})
		}
	}
	return l
}
