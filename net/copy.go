package net

import (
	"strings"

	"corncrib/api"
)

// copyOf answers the same letter in new memory.
func copyOf(l api.Letter) api.Letter {
	keys, writes := l.Keys, l.Writes
	l.Text, l.Keys, l.Writes = strings.Clone(l.Text), nil, nil
	for _, key := range keys {
		l.Keys = append(l.Keys, strings.Clone(key))
	}
	for _, w := range writes {
		l.Writes = append(l.Writes, api.Write{Key: strings.Clone(w.Key), Shard: strings.Clone(w.Shard), Dead: w.Dead})
	}
	return l
}
