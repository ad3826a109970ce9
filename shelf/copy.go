package shelf

import (
	"maps"
	"slices"
	"strings"

	"corncrib/api"
)

// Records answers records that make a new shelf know the same.
func (s *Shelf) Records() []api.Record {
	var l []api.Record
	if s.swept != 0 {
		l = append(l, api.Record{Kind: api.RSweep, Ts: s.swept})
	}
	for _, key := range slices.Sorted(maps.Keys(s.chains)) {
		for _, v := range s.chains[key] {
			l = append(l, copied(api.Record{Kind: api.RVer, Ts: v.Ts, Key: key, Text: v.Shard, Dead: v.Dead}))
		}
	}
	for _, x := range s.ended {
		l = append(l, api.Record{Kind: api.RDo, Txn: x.txn, Ts: x.ts})
	}
	for _, txn := range s.Open() {
		l = append(l, copied(s.prepared[txn]))
	}
	return l
}

// Fork answers a shelf that has the same, and goes its own way.
func (s *Shelf) Fork() *Shelf {
	f := New()
	for key, l := range s.chains {
		f.chains[strings.Clone(key)] = copies(l)
	}
	for txn, r := range s.prepared {
		f.prepared[txn] = copied(r)
	}
	f.ended, f.swept = slices.Clone(s.ended), s.swept
	return f
}

// copies answers the same versions in new memory.
func copies(l []api.Version) []api.Version {
	l = slices.Clone(l)
	for i := range l {
		l[i].Shard = strings.Clone(l[i].Shard)
	}
	return l
}

// copied answers the same record in new memory.
func copied(r api.Record) api.Record {
	r.Key, r.Text = strings.Clone(r.Key), strings.Clone(r.Text)
	keys, writes := r.Keys, r.Writes
	r.Keys, r.Writes = nil, nil
	for _, key := range keys {
		r.Keys = append(r.Keys, strings.Clone(key))
	}
	for _, w := range writes {
		r.Writes = append(r.Writes, api.Write{Key: strings.Clone(w.Key), Shard: strings.Clone(w.Shard), Dead: w.Dead})
	}
	return r
}
