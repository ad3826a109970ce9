package locks

import (
	"cmp"
	"maps"
	"slices"
)

// set is which elements there are.
type set[K cmp.Ordered] map[K]struct{}

// of answers a set of these elements.
func of[K cmp.Ordered](l ...K) set[K] {
	s := set[K]{}
	for _, k := range l {
		s.add(k)
	}
	return s
}

// add puts an element in.
func (s set[K]) add(k K) { s[k] = struct{}{} }

// join puts all elements of another set in.
func (s set[K]) join(o set[K]) { maps.Copy(s, o) }

// meets tells whether an element is in both sets.
func (s set[K]) meets(o set[K]) bool {
	less, more := s, o
	if len(less) > len(more) {
		less, more = more, less
	}
	for k := range less {
		if _, ok := more[k]; ok {
			return true
		}
	}
	return false
}

// rising answers the elements, the least one first.
func (s set[K]) rising() []K { return slices.Sorted(maps.Keys(s)) }
