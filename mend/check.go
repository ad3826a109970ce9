package mend

import "corncrib/api"

// most is how many bytes a shard may have: the plain bytes of the longest object, its length ahead.
const most = 4 + api.MaxObject

// isCode tells whether k and m are a code.
func isCode(k, m int) bool {
	return k >= 1 && k <= api.MaxSide && m >= 0 && m <= api.MaxSide-k
}

// isNumber tells whether i is the number of one of n shards.
func isNumber(n, i int) bool { return i >= 0 && i < n }

// fault answers what is wrong with one of n shards, by the first one of its list and the numbers of those ahead.
func fault(n int, s, first api.Shard, ahead map[int]int) api.Errno {
	if !isNumber(n, s.I) {
		return api.ErrRange
	}
	if _, there := ahead[s.I]; there {
		return api.ErrThere
	}
	if len(s.S) > most {
		return api.ErrLong
	}
	if len(s.S) != len(first.S) {
		return api.ErrShape
	}
	return api.OK
}
