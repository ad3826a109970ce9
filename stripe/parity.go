package stripe

import (
	"corncrib/gf"
	"corncrib/matrix"
)

// parity answers the m shards beside k data shards that are as long.
func parity(k, m int, data []string) []string {
	f := gf.New()
	g, _ := matrix.Generator(k, m) // there is one: k and m are a code
	at := places(data)
	l := make([]string, m)
	for i := range l {
		row := g.Cells[(k+i)*k : (k+i+1)*k]
		l[i] = mix(f, row, at)
	}
	return l
}

// places answers, for each place, the bytes that the shards have there.
func places(data []string) []string {
	l := make([]string, len(data[0]))
	bytes := make([]byte, len(data))
	for place := range l {
		for i, s := range data {
			bytes[i] = s[place]
		}
		l[place] = string(bytes)
	}
	return l
}

// mix answers, for each place, the sum of the products of the row and the bytes there.
func mix(f *gf.Field, row string, at []string) string {
	out := make([]byte, len(at))
	for place, bytes := range at {
		out[place], _ = f.Dot(row, bytes) // they fit: both have a byte a data shard
	}
	return string(out)
}
