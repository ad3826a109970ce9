package record

import (
	"slices"

	"corncrib/api"
)

const (
	// fixedNums is how many numbers stand ahead of those of the writes.
	fixedNums = 6
	// fixedTexts is how many texts stand ahead of the keys.
	fixedTexts = 2
)

// toPack answers the numbers and texts that stand for a record.
func toPack(r api.Record) api.Pack {
	nums := []int{r.Kind, r.Txn, r.Ts, r.Coord, fromBool(r.Dead), len(r.Keys)}
	texts := append([]string{r.Key, r.Text}, r.Keys...)
	for _, w := range r.Writes {
		nums = append(nums, fromBool(w.Dead))
		texts = append(texts, w.Key, w.Shard)
	}
	return api.Pack{Nums: nums, Texts: texts}
}

// fromPack answers the record for which numbers and texts stand; false, if there are too few or too many of them, or what tells whether something is dead is another number than 0 and 1.
func fromPack(p api.Pack) (r api.Record, ok bool) {
	n := p.Nums
	if len(n) < fixedNums {
		return api.Record{}, false
	}
	keys, deads := n[fixedNums-1], n[fixedNums:]
	// Below 0 it could make up for texts of writes that are not there.
	if keys < 0 || len(p.Texts) != fixedTexts+keys+2*len(deads) {
		return api.Record{}, false
	}
	dead, ok := toBool(n[4])
	if !ok {
		return api.Record{}, false
	}
	r = api.Record{Kind: n[0], Txn: n[1], Ts: n[2], Coord: n[3], Dead: dead, Key: p.Texts[0], Text: p.Texts[1]}
	texts := p.Texts[fixedTexts:]
	r.Keys = slices.Clone(texts[:keys])
	r.Writes, ok = toWrites(deads, texts[keys:])
	if !ok {
		return api.Record{}, false
	}
	return r, true
}

// toWrites answers the writes of these numbers, with two texts each; false, if a number is neither 0 nor 1.
func toWrites(deads []int, texts []string) ([]api.Write, bool) {
	var l []api.Write
	for i, n := range deads {
		dead, ok := toBool(n)
		if !ok {
			return nil, false
		}
		l = append(l, api.Write{Key: texts[2*i], Shard: texts[2*i+1], Dead: dead})
	}
	return l, true
}

// fromBool answers the number that stands for yes or no.
func fromBool(b bool) int {
	if b {
		return 1
	}
	return 0
}

// toBool answers what a number stands for; false, if it is neither 0 nor 1.
func toBool(n int) (b, ok bool) { return n == 1, within(n, 0, 1) }
