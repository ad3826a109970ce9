package mend

import (
	"math"
	"slices"
	"testing"

	"corncrib/api"
)

// times multiplies as chapter 1's words say it: whole polynomials first, the remainder behind.
func times(a, b byte) byte {
	p := 0
	for i := range 8 {
		if b>>i&1 == 1 {
			p ^= int(a) << i
		}
	}
	for i := 14; i >= 8; i-- {
		if p>>i&1 == 1 {
			p ^= 285 << (i - 8)
		}
	}
	return byte(p)
}

// products answers all products, by both factors.
func products() *[256][256]byte {
	var l [256][256]byte
	for a := range 256 {
		for b := range 256 {
			l[a][b] = times(byte(a), byte(b))
		}
	}
	return &l
}

// hand makes shards straight from the chapters' words; it shares nothing with the layers below.
type hand struct {
	product *[256][256]byte
	inverse [256]byte
}

func newHand() *hand {
	h := &hand{product: products()}
	for a := 1; a < 256; a++ {
		h.inverse[a] = byte(slices.Index(h.product[a][:], 1))
	}
	return h
}

// pieces cuts an object: its length, it, and bytes 0 one by one till k divides them.
func pieces(k int, object string) []string {
	n := len(object)
	all := string([]byte{0, 0, byte(n / 256), byte(n % 256)}) + object
	for len(all)%k != 0 {
		all += "\x00"
	}
	var l []string
	for each := len(all) / k; len(all) > 0; all = all[each:] {
		l = append(l, all[:each])
	}
	return l
}

// all answers the data shards and the m others, with their numbers.
func (h *hand) all(m int, data []string) []api.Shard {
	k := len(data)
	l := number(data...)
	for i := k; i < k+m; i++ {
		b := make([]byte, len(data[0]))
		for j, s := range data {
			row := &h.product[h.inverse[i^j]]
			for at := range b {
				b[at] ^= row[s[at]]
			}
		}
		l = append(l, api.Shard{I: i, S: string(b)})
	}
	return l
}

// number answers shards with numbers from 0 on.
func number(texts ...string) []api.Shard {
	var l []api.Shard
	for i, s := range texts {
		l = append(l, api.Shard{I: i, S: s})
	}
	return l
}

// texts answers the shards without their numbers.
func texts(l []api.Shard) []string {
	var out []string
	for _, s := range l {
		out = append(out, s.S)
	}
	return out
}

// numbers answers the shards' numbers.
func numbers(l []api.Shard) []int {
	var out []int
	for _, s := range l {
		out = append(out, s.I)
	}
	return out
}

// turned answers the list with one bit of one shard turned.
func turned(l []api.Shard, i, place, bit int) []api.Shard {
	l = slices.Clone(l)
	b := []byte(l[i].S)
	b[place] ^= 1 << bit
	l[i].S = string(b)
	return l
}

// seed is numbers that look like chance, and are the same each time.
type seed uint64

func (s *seed) next(n int) int {
	*s = *s*6364136223846793005 + 1442695040888963407
	return int(uint64(*s) >> 33 % uint64(n))
}

// text answers so many bytes.
func (s *seed) text(n int) string {
	b := make([]byte, n)
	for i := range b {
		b[i] = byte(s.next(256))
	}
	return string(b)
}

// texts answers k texts of so many bytes.
func (s *seed) texts(k, n int) []string {
	l := make([]string, k)
	for i := range l {
		l[i] = s.text(n)
	}
	return l
}

// shuffle answers the shards in another order.
func (s *seed) shuffle(l []api.Shard) []api.Shard {
	l = slices.Clone(l)
	for i := len(l) - 1; i > 0; i-- {
		j := s.next(i + 1)
		l[i], l[j] = l[j], l[i]
	}
	return l
}

// orders answers any n of the shards in any order.
func orders(l []api.Shard, n int) [][]api.Shard {
	if n == 0 {
		return [][]api.Shard{nil}
	}
	var out [][]api.Shard
	for i, s := range l {
		rest := append(slices.Clone(l[:i]), l[i+1:]...)
		for _, more := range orders(rest, n-1) {
			out = append(out, append([]api.Shard{s}, more...))
		}
	}
	return out
}

// smallCodes answers codes of which all orders of shards can be gone through.
func smallCodes() [][2]int {
	return [][2]int{{1, 0}, {1, 1}, {1, 4}, {2, 0}, {2, 1}, {2, 2}, {2, 4}, {3, 0}, {3, 1}, {3, 3}, {4, 1}, {4, 2}, {5, 1}}
}

// greatCodes answers others, up to the greatest there are.
func greatCodes() [][2]int {
	return [][2]int{{1, 254}, {2, 253}, {7, 5}, {8, 4}, {16, 16}, {33, 100}, {100, 10}, {127, 128}, {128, 127}, {200, 55}, {253, 2}, {254, 0}, {254, 1}, {255, 0}}
}

// codes answers all of them.
func codes() [][2]int { return append(smallCodes(), greatCodes()...) }

// noCodes answers k and m that are no code.
func noCodes() [][2]int {
	return [][2]int{
		{0, 0}, {0, 1}, {0, 255}, {-1, 0}, {-1, 3}, {-1, 256}, {256, 0}, {256, -1}, {257, -2}, {1, -1}, {2, -2}, {255, -1},
		{1, 255}, {2, 254}, {128, 128}, {254, 2}, {255, 1}, {255, 255}, {1, 256},
		{1 << 32, 0}, {1<<32 + 1, 0}, {1, 1 << 32}, {1<<32 + 1, 1 << 32},
		{math.MaxInt, 0}, {math.MinInt, 0}, {1, math.MaxInt}, {1, math.MinInt}, {2, math.MaxInt}, {255, math.MaxInt}, {255, math.MinInt},
		{math.MaxInt, math.MaxInt}, {math.MaxInt, math.MinInt}, {math.MinInt, math.MaxInt}, {math.MinInt, math.MinInt},
	}
}

// noNumbers answers what is no number of one of n shards.
func noNumbers(n int) []int {
	return []int{-1, -2, n, n + 1, 255, 256, -255, 1 << 32, -(1 << 32), 1<<32 + 1, math.MaxInt, math.MinInt}
}

// checked fails, unless Check answers so.
func checked(t *testing.T, what any, k, m int, l []api.Shard, at int, want api.Errno) {
	t.Helper()
	if got, e := Check(k, m, l); got != at || e != want {
		t.Errorf("%v: %d at %d; not %d at %d", what, e, got, want, at)
	}
}

// refused fails, unless all calls refuse the shards so, Check at this place, with nothing beside it.
func refused(t *testing.T, what any, k, m int, l []api.Shard, at int, want api.Errno) {
	t.Helper()
	checked(t, what, k, m, l, at, want)
	if data, e := Data(k, m, l); e != want || len(data) != 0 {
		t.Errorf("%v: Data: %d, %d shards; not %d", what, e, len(data), want)
	}
	if o, e := Object(k, m, l); e != want || o != "" {
		t.Errorf("%v: Object: %d, %d bytes; not %d", what, e, len(o), want)
	}
	for _, i := range []int{0, k - 1, k + m - 1, -1, k + m} {
		if s, e := One(k, m, l, i); e != want || s != "" {
			t.Errorf("%v: One %d: %d, %d bytes; not %d", what, i, e, len(s), want)
		}
	}
	if ok, e := Agree(k, m, l); e != want || ok {
		t.Errorf("%v: Agree: %d, %v; not %d", what, e, ok, want)
	}
}

// made fails, unless these data shards are made.
func made(t *testing.T, what any, k, m int, l []api.Shard, want []string) {
	t.Helper()
	if data, e := Data(k, m, l); e != api.OK || !slices.Equal(data, want) {
		t.Errorf("%v of %v: %d, %d shards %x; not %d shards %x", what, first(numbers(l)), e, len(data), first(data), len(want), first(want))
	}
}

// object fails, unless this object is made.
func object(t *testing.T, what any, k, m int, l []api.Shard, want string) {
	t.Helper()
	if o, e := Object(k, m, l); e != api.OK || o != want {
		t.Errorf("%v of %v: %d, %d bytes; not %d", what, first(numbers(l)), e, len(o), len(want))
	}
}

// one fails, unless this shard is made.
func one(t *testing.T, what any, k, m int, l []api.Shard, want api.Shard) {
	t.Helper()
	if s, e := One(k, m, l, want.I); e != api.OK || s != want.S {
		t.Errorf("%v, shard %d of %v: %d, %d bytes; not %d", what, want.I, first(numbers(l)), e, len(s), len(want.S))
	}
}

// agreed fails, unless Agree answers so.
func agreed(t *testing.T, what any, k, m int, l []api.Shard, want bool) {
	t.Helper()
	if ok, e := Agree(k, m, l); e != api.OK || ok != want {
		t.Errorf("%v of %v: %d, %v; not %v", what, first(numbers(l)), e, ok, want)
	}
}

// first answers no more of a list than can be read.
func first[T any](l []T) []T { return l[:min(len(l), 6)] }
