package shelf

import (
	"maps"
	"slices"
	"strings"

	"corncrib/api"
	"corncrib/chain"
)

// The states of a transaction.
const (
	unknown = 0
	open    = 1
	done    = 2
	refused = 3
)

// Read answers what is read of a key at a time: COver, CLocked, CNone, or CDead or CShard and the version that counts.
func (s *Shelf) Read(key string, t int) (code int, v api.Version) {
	if t < s.swept {
		return api.COver, api.Version{}
	}
	if s.Held(key, false) {
		return api.CLocked, api.Version{}
	}
	v, ok, _ := chain.At(s.chains[key], t)
	switch {
	case !ok:
		return api.CNone, api.Version{}
	case v.Dead:
		return api.CDead, v
	}
	return api.CShard, v
}

// State answers 1 for a transaction that is prepared, 2 and its time for one that is done, 3 for one that was refused, and 0 for one that is not known.
func (s *Shelf) State(txn int) (state, ts int) {
	if _, ok := s.prepared[txn]; ok {
		return open, 0
	}
	at := slices.IndexFunc(s.ended, func(x end) bool { return x.txn == txn })
	switch {
	case at < 0:
		return unknown, 0
	case s.ended[at].ts == 0:
		return refused, 0
	}
	return done, s.ended[at].ts
}

// Prep answers the record of a transaction that is prepared, and true.
func (s *Shelf) Prep(txn int) (r api.Record, ok bool) {
	r, ok = s.prepared[txn]
	return copied(r), ok
}

// Open answers the transactions that are prepared, rising.
func (s *Shelf) Open() []int { return slices.Sorted(maps.Keys(s.prepared)) }

// Last answers the time of a key's last version; 0, if there is none.
func (s *Shelf) Last(key string) int {
	ts, _ := chain.Last(s.chains[key])
	return ts
}

// Held tells whether a transaction that is prepared writes a key; to whom wants to write it, one that reads it is in the way, too.
func (s *Shelf) Held(key string, write bool) bool {
	for _, r := range s.prepared {
		if writes(r, key) || write && reads(r, key) {
			return true
		}
	}
	return false
}

// reads tells whether a key is among those that a record reads; they rise.
func reads(r api.Record, key string) bool {
	_, ok := slices.BinarySearch(r.Keys, key)
	return ok
}

// writes tells whether a key is among those that a record writes; they rise.
func writes(r api.Record, key string) bool {
	_, ok := slices.BinarySearchFunc(r.Writes, key, func(w api.Write, key string) int { return strings.Compare(w.Key, key) })
	return ok
}

// Swept answers the time below which versions are swept.
func (s *Shelf) Swept() int { return s.swept }
