package locks

import "corncrib/api"

// touch is which keys are read, and which are written.
type touch struct{ reads, writes set[string] }

// touched answers what a record RPrep reads and writes.
func touched(r api.Record) touch {
	t := touch{reads: of(r.Keys...), writes: set[string]{}}
	for _, w := range r.Writes {
		t.writes.add(w.Key)
	}
	return t
}

// clash tells whether one of both writes a key that the other one reads or writes.
func (t touch) clash(o touch) bool {
	return t.writes.meets(o.reads) || t.writes.meets(o.writes) || t.reads.meets(o.writes)
}

// join takes in what another one reads and writes.
func (t touch) join(o touch) {
	t.reads.join(o.reads)
	t.writes.join(o.writes)
}

// admitted answers the places of those records that clash with none that was admitted ahead of them.
func admitted(l []api.Record) []int {
	ahead := touch{reads: set[string]{}, writes: set[string]{}} // of all that are admitted so far
	var places []int
	for i, r := range l {
		if one := touched(r); !one.clash(ahead) {
			ahead.join(one)
			places = append(places, i)
		}
	}
	return places
}
