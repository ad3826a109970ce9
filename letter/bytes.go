package letter

import (
	"slices"

	"corncrib/api"
)

// fixed is how many numbers stand ahead of those of the writes.
const fixed = 7

// toPack answers the numbers and texts that stand for a letter.
func toPack(l api.Letter) api.Pack {
	nums := []int{l.Kind, l.From, l.To, l.Txn, l.Ts, l.Code, len(l.Keys)}
	texts := append([]string{l.Text}, l.Keys...)
	for _, w := range l.Writes {
		dead := 0
		if w.Dead {
			dead = 1
		}
		nums = append(nums, dead)
		texts = append(texts, w.Key, w.Shard)
	}
	return api.Pack{Nums: nums, Texts: texts}
}

// fromPack answers the letter for which numbers and texts stand; false, if there are too few or too many of them, or one is neither dead nor not.
func fromPack(p api.Pack) (l api.Letter, ok bool) {
	n := p.Nums
	if len(n) < fixed {
		return api.Letter{}, false
	}
	keys, deads := n[fixed-1], n[fixed:]
	// Below 0 it could make up for texts of writes that are not there.
	if keys < 0 || len(p.Texts) != 1+keys+2*len(deads) {
		return api.Letter{}, false
	}
	l = api.Letter{Kind: n[0], From: n[1], To: n[2], Txn: n[3], Ts: n[4], Code: n[5], Text: p.Texts[0]}
	l.Keys = slices.Clone(p.Texts[1 : 1+keys])
	texts := p.Texts[1+keys:]
	for i, dead := range deads {
		if !within(dead, 0, 1) {
			return api.Letter{}, false
		}
		l.Writes = append(l.Writes, api.Write{Key: texts[2*i], Shard: texts[2*i+1], Dead: dead == 1})
	}
	return l, true
}
