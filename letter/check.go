package letter

import "corncrib/api"

const (
	// firstCoord and lastCoord are the addresses of the coordinators 0 and 15.
	firstCoord, lastCoord = 100, 115
	// lastTxn is the greatest number of a transaction.
	lastTxn = 1<<50 - 1
	// longest is how many bytes a shard may have: those of the longest object and of its length, where one shard has all.
	longest = api.MaxObject + 4
)

// mayBe tells whether a letter may be.
func mayBe(l api.Letter) bool {
	r, known := roomOf(l.Kind)
	return known && isAddress(l.From) && isAddress(l.To) &&
		within(l.Txn, 1, lastTxn) && within(l.Ts, 0, api.MaxStamp) && r.holds(l)
}

// room is how much letters of a kind may have.
type room struct {
	code         int // the greatest Code
	text         int // the Text's bytes
	fewest, most int // Keys
	writes       int // Writes
}

// roomOf answers what letters of a kind may have; false, if there is no such kind.
func roomOf(kind int) (r room, known bool) {
	switch kind {
	case api.LShard:
		r.code, r.text = api.COver, longest
		fallthrough // it has what it answers, and the key that was asked for
	case api.LRead:
		r.fewest, r.most = 1, 1
	case api.LPrep:
		r.most, r.writes = api.MaxWrites, api.MaxWrites
	case api.LVote:
		r.code = api.CShard
	case api.LTell:
		r.code = api.CDead
	case api.LDo, api.LDid, api.LAsk:
	default:
		return room{}, false
	}
	return r, true
}

// holds tells whether a letter has no more than there is room for, and all of it as it must be.
func (r room) holds(l api.Letter) bool {
	return within(l.Code, 0, r.code) && len(l.Text) <= r.text && (l.Text == "" || l.Code == api.CShard) &&
		within(len(l.Keys), r.fewest, r.most) && Rising(l.Keys...) &&
		len(l.Writes) <= r.writes && areWrites(l.Writes)
}

// areWrites tells whether these are writes whose keys rise.
func areWrites(l []api.Write) bool {
	var keys []string
	for _, w := range l {
		if len(w.Shard) > longest || w.Dead && w.Shard != "" {
			return false
		}
		keys = append(keys, w.Key)
	}
	return Rising(keys...)
}

// isAddress tells whether a number is a node's, or 100 and a coordinator's.
func isAddress(n int) bool {
	return within(n, 0, api.MaxNodes-1) || within(n, firstCoord, lastCoord)
}

// within tells whether a number is from least to most.
func within(n, least, most int) bool { return n >= least && n <= most }
