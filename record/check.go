package record

import (
	"corncrib/api"
	"corncrib/letter"
)

const (
	// lastTxn is the greatest number of a transaction.
	lastTxn = 1<<50 - 1
	// lastCoord is the greatest number of a coordinator.
	lastCoord = 15
)

// mayBe tells whether a record may be.
func mayBe(r api.Record) bool {
	rest, known := flatten(r).unnamed()
	return known && rest == flat{} && inBounds(r) && hasWhatItMust(r)
}

// flat is a record as a struct that can be compared: in the place of a list, which can't be, stands how many it has.
type flat struct {
	kind, txn, ts, coord int
	key, text            string
	dead                 bool
	keys, writes         int
}

// flatten answers the flat one of a record.
func flatten(r api.Record) flat {
	return flat{
		kind: r.Kind, txn: r.Txn, ts: r.Ts, coord: r.Coord,
		key: r.Key, text: r.Text, dead: r.Dead,
		keys: len(r.Keys), writes: len(r.Writes),
	}
}

// unnamed answers the same with its kind, and all that this names, taken out; false, if there is no such kind.
func (f flat) unnamed() (rest flat, known bool) {
	switch f.kind {
	case api.RPrep:
		f.txn, f.ts, f.coord, f.keys, f.writes = 0, 0, 0, 0, 0
	case api.RDo, api.RGo:
		f.txn, f.ts = 0, 0
	case api.RVer:
		f.ts, f.key, f.text, f.dead = 0, "", "", false
	case api.RSweep, api.RUpto:
		f.ts = 0
	case api.REnd:
		f.txn = 0
	default:
		return flat{}, false
	}
	f.kind = 0
	return f, true
}

// inBounds tells whether the numbers are from the least to the greatest that a record of any kind may have.
func inBounds(r api.Record) bool {
	return within(r.Txn, 0, lastTxn) && within(r.Ts, 0, api.MaxStamp) && within(r.Coord, 0, lastCoord)
}

// hasWhatItMust tells whether what the kind names is there, where it must be, and as it must be.
func hasWhatItMust(r api.Record) bool {
	switch r.Kind {
	case api.RPrep:
		return r.Txn != 0 && asPrepared(r.Keys, r.Writes...)
	case api.RDo, api.REnd:
		return r.Txn != 0
	case api.RVer: // a version is kept just as it was written
		return r.Ts != 0 && asPrepared(nil, api.Write{Key: r.Key, Shard: r.Text, Dead: r.Dead})
	case api.RGo:
		return r.Txn != 0 && r.Ts != 0
	case api.RUpto:
		return r.Ts != 0
	}
	return true
}

// asPrepared tells whether keys and writes are as those of a letter LPrep, whichever transaction's that is.
func asPrepared(keys []string, writes ...api.Write) bool {
	l := api.Letter{Kind: api.LPrep, Txn: lastTxn, Keys: keys, Writes: writes}
	return letter.Check(l) == api.OK
}

// within tells whether a number is from least to most.
func within(n, least, most int) bool { return n >= least && n <= most }
