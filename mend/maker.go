package mend

import (
	"strings"

	"corncrib/api"
	"corncrib/gf"
	"corncrib/matrix"
)

// maker makes any shard of a code of k that go together.
type maker struct {
	f *gf.Field
	// generator makes all shards of the data shards, back makes those of the k that there are.
	generator, back api.Matrix
	given           []api.Shard
	// places tells by a shard's number where it stands in given: such a one need not be reckoned.
	places map[int]int
}

// newMaker answers the maker of the first k of a list that Check does not refuse.
func newMaker(k, m int, l []api.Shard) *maker {
	w := &maker{f: gf.New(), given: l[:k], places: make(map[int]int, k)}
	numbers := make([]int, k)
	for at, s := range w.given {
		numbers[at] = s.I
		w.places[s.I] = at
	}
	// Nothing is refused here: k and m are a code, and any k unlike rows of its generator have an inverse.
	w.generator, _ = matrix.Generator(k, m)
	rows, _ := matrix.Pick(w.generator, numbers...)
	w.back, _ = matrix.Inverse(rows)
	return w
}

// shard answers the shard of a number.
func (w *maker) shard(i int) string {
	if at, given := w.places[i]; given {
		return strings.Clone(w.given[at].S)
	}
	return w.mix(w.factors(i))
}

// factors answers, for each given shard, what it is multiplied with in the sum that is the shard i.
func (w *maker) factors(i int) string {
	row, _ := matrix.Pick(w.generator, i)
	l, _ := matrix.Mul(row, w.back) // they fit: both have k columns
	return l.Cells
}

// mix answers the sum of the products of the factors and the given shards.
func (w *maker) mix(factors string) string {
	out := make([]byte, len(w.given[0].S))
	for at, s := range w.given {
		product := w.f.Scale(factors[at], s.S)
		for place := range out {
			out[place] = gf.Add(out[place], product[place])
		}
	}
	return string(out)
}
