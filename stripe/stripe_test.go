package stripe

import (
	"math"
	"slices"
	"strings"
	"testing"

	"corncrib/api"
)

// times multiplies as chapter 1's words say it: whole polynomials first, the remainder behind.
func times(a, b byte) byte {
	p := 0
	for i := range 8 {
		if b>>i&1 == 1 {
			p ^= int(a) << i
		}
	}
	for i := 14; i >= 8; i-- {
		if p>>i&1 == 1 {
			p ^= 285 << (i - 8)
		}
	}
	return byte(p)
}

// inverses answers, for each byte but 0, that whose product with it is 1.
func inverses() []byte {
	l := make([]byte, 256)
	for a := 1; a < 256; a++ {
		for b := 1; b < 256; b++ {
			if times(byte(a), byte(b)) == 1 {
				l[a] = byte(b)
			}
		}
	}
	return l
}

// pieces cuts an object by hand: its length, it, and bytes 0 one by one till k divides them.
func pieces(k int, object string) []string {
	n := len(object)
	all := string([]byte{0, 0, byte(n / 256), byte(n % 256)}) + object
	for len(all)%k != 0 {
		all += "\x00"
	}
	var l []string
	for each := len(all) / k; len(all) > 0; all = all[each:] {
		l = append(l, all[:each])
	}
	return l
}

// others makes the m shards beside the data, byte by byte, straight from the words.
func others(m int, data []string) []string {
	k, inverse := len(data), inverses()
	l := make([]string, m)
	for i := range l {
		b := make([]byte, len(data[0]))
		for j, s := range data {
			for at := range b {
				b[at] ^= times(inverse[(k+i)^j], s[at])
			}
		}
		l[i] = string(b)
	}
	return l
}

// seed is numbers that look like chance, and are the same each time.
type seed uint64

func (s *seed) next(n int) int {
	*s = *s*6364136223846793005 + 1442695040888963407
	return int(uint64(*s) >> 33 % uint64(n))
}

// text answers so many bytes.
func (s *seed) text(n int) string {
	b := make([]byte, n)
	for i := range b {
		b[i] = byte(s.next(256))
	}
	return string(b)
}

// texts answers k texts of so many bytes.
func (s *seed) texts(k, n int) []string {
	l := make([]string, k)
	for i := range l {
		l[i] = s.text(n)
	}
	return l
}

// same fails, unless got is want, beside e, which is OK.
func same(t *testing.T, what any, got []string, e api.Errno, want []string) {
	t.Helper()
	if e != api.OK || !slices.Equal(got, want) {
		t.Errorf("%v: %d, %d shards %x; not %d shards %x", what, e, len(got), head4(got), len(want), head4(want))
	}
}

// head4 answers the first few shards.
func head4(l []string) []string { return l[:min(len(l), 4)] }

// refused fails, unless e is want, and nothing stands beside it.
func refused(t *testing.T, what any, got []string, e, want api.Errno) {
	t.Helper()
	if e != want || len(got) != 0 {
		t.Errorf("%v: %d, %d shards; not %d", what, e, len(got), want)
	}
}

// joined fails, unless the shards make the object.
func joined(t *testing.T, what any, object string, l ...string) {
	t.Helper()
	if o, e := Join(l...); e != api.OK || o != object {
		t.Errorf("%v: %d, %d bytes; not %d", what, e, len(o), len(object))
	}
}

// apart fails, unless the shards are refused so.
func apart(t *testing.T, what any, want api.Errno, l ...string) {
	t.Helper()
	if o, e := Join(l...); e != want || o != "" {
		t.Errorf("%v: %d, %q; not %d", what, e, o, want)
	}
}

// noSides answers numbers that are no k.
func noSides() []int {
	return []int{0, -1, 256, 257, 1 << 32, 1<<32 + 1, math.MaxInt, math.MinInt}
}

// noCodes answers k and m that are no code.
func noCodes() [][2]int {
	l := [][2]int{
		{1, -1}, {255, -1}, {1, 255}, {2, 254}, {128, 128}, {254, 2}, {255, 1}, {256, -1}, {257, -2}, {-1, 256},
		{1, math.MaxInt}, {1, math.MinInt}, {255, math.MaxInt}, {255, math.MinInt}, {math.MaxInt, math.MaxInt}, {math.MinInt, math.MinInt}, {math.MinInt, math.MaxInt},
	}
	for _, k := range noSides() {
		l = append(l, [2]int{k, 0}, [2]int{k, 1})
	}
	return l
}

// codes answers some codes, those at the edges too.
func codes() [][2]int {
	return [][2]int{{1, 0}, {1, 1}, {1, 2}, {1, 254}, {2, 0}, {2, 1}, {2, 2}, {3, 2}, {4, 8}, {5, 3}, {7, 4}, {16, 16}, {100, 10}, {128, 127}, {253, 2}, {254, 0}, {254, 1}, {255, 0}}
}

// lengths answers some lengths of objects, those at the edges too.
func lengths() []int {
	return []int{0, 1, 2, 3, 4, 5, 11, 12, 13, 250, 251, 252, 255, 256, 257, 1020, 1021, 2046, 2047, 2048}
}

// Promise 3.1: how many plain bytes there are, divided by k: of sizes that were worked out by hand.
func TestSizeWorkedOut(t *testing.T) {
	for _, x := range [][3]int{
		{1, 0, 4}, {1, 1, 5}, {1, 2048, 2052},
		{2, 0, 2}, {2, 3, 4}, {2, 4, 4}, {2, 5, 5}, {2, 2048, 1026},
		{3, 0, 2}, {3, 2, 2}, {3, 3, 3},
		{4, 0, 1}, {4, 1, 2}, {5, 0, 1}, {5, 1, 1}, {5, 2, 2},
		{255, 0, 1}, {255, 251, 1}, {255, 252, 2}, {255, 2048, 9}, {254, 2048, 9}, {228, 2048, 9}, {229, 2048, 9}, {227, 2048, 10},
	} {
		if n, e := Size(x[0], x[1]); n != x[2] || e != api.OK {
			t.Errorf("%d, %d: %d, %d; not %d", x[0], x[1], n, e, x[2])
		}
	}
}

// Promise 3.1: the same of each k and each length.
func TestSize(t *testing.T) {
	for k := 1; k <= 255; k++ {
		for long := 0; long <= 2048; long++ {
			n, e := Size(k, long)
			if spare := n*k - long - 4; e != api.OK || spare < 0 || spare >= k {
				t.Fatalf("%d, %d: %d, %d", k, long, n, e)
			}
		}
	}
}

// Promise 3.1: what is no k, and no length.
func TestSizeRefuses(t *testing.T) {
	no := func(k, long int) {
		t.Helper()
		if n, e := Size(k, long); n != 0 || e != api.ErrRange {
			t.Errorf("%d, %d: %d, %d", k, long, n, e)
		}
	}
	noLengths := []int{-1, -4, 2049, 1 << 32, math.MaxInt, math.MaxInt - 3, math.MinInt}
	for _, k := range noSides() {
		no(k, 0)
		no(k, 2048)
		for _, long := range noLengths {
			no(k, long)
		}
	}
	for _, long := range noLengths {
		no(1, long)
		no(2, long)
		no(255, long)
	}
}

// Promise 3.1: data shards that were worked out by hand.
func TestSplitWorkedOut(t *testing.T) {
	for _, x := range []struct {
		k      int
		object string
		want   []string
	}{
		{2, "abc", []string{"\x00\x00\x00\x03", "abc\x00"}},
		{1, "abc", []string{"\x00\x00\x00\x03abc"}},
		{1, "", []string{"\x00\x00\x00\x00"}},
		{2, "", []string{"\x00\x00", "\x00\x00"}},
		{3, "", []string{"\x00\x00", "\x00\x00", "\x00\x00"}},
		{3, "ab", []string{"\x00\x00", "\x00\x02", "ab"}},
		{3, "abc", []string{"\x00\x00\x00", "\x03ab", "c\x00\x00"}},
		{4, "abc", []string{"\x00\x00", "\x00\x03", "ab", "c\x00"}},
		{4, "\x00", []string{"\x00\x00", "\x00\x01", "\x00\x00", "\x00\x00"}},
		{5, "\xc3", []string{"\x00", "\x00", "\x00", "\x01", "\xc3"}},
		{7, "\xc3\xa9", []string{"\x00", "\x00", "\x00", "\x02", "\xc3", "\xa9", "\x00"}},
	} {
		l, e := Split(x.k, x.object)
		same(t, x.object, l, e, x.want)
	}
}

// Promise 3.1: data shards of each k, of objects of some lengths, those of none and of api.MaxObject bytes too.
func TestSplit(t *testing.T) {
	s := seed(1)
	for k := 1; k <= 255; k++ {
		for _, n := range lengths() {
			object := s.text(n)
			l, e := Split(k, object)
			same(t, []int{k, n}, l, e, pieces(k, object))
			if size, _ := Size(k, n); len(l) != k || len(l[0]) != size {
				t.Errorf("%d, %d: %d shards of %d, not of %d", k, n, len(l), len(l[0]), size)
			}
		}
	}
}

// Promise 3.1: what is no k, ahead of objects that are too long.
func TestSplitRefuses(t *testing.T) {
	for _, k := range noSides() {
		for _, n := range []int{0, 3, 2048, 2049, 1 << 20} {
			l, e := Split(k, strings.Repeat("a", n))
			refused(t, []int{k, n}, l, e, api.ErrRange)
		}
	}
	for _, k := range []int{1, 2, 3, 255} {
		for _, n := range []int{2049, 2050, 2052, 4096, 1 << 20} {
			l, e := Split(k, strings.Repeat("a", n))
			refused(t, []int{k, n}, l, e, api.ErrLong)
		}
	}
}

// Promise 3.2: objects that were put together by hand.
func TestJoinWorkedOut(t *testing.T) {
	joined(t, "two", "abc", "\x00\x00\x00\x03", "abc\x00")
	joined(t, "one", "abc", "\x00\x00\x00\x03abc")
	joined(t, "none in one", "", "\x00\x00\x00\x00")
	joined(t, "none in two", "", "\x00\x00", "\x00\x00")
	joined(t, "none in three", "", "\x00\x00", "\x00\x00", "\x00\x00")
	joined(t, "none in 255", "", slices.Repeat([]string{"\x00"}, 255)...)
	joined(t, "bytes 0", "\x00\x00", "\x00\x00", "\x00\x02", "\x00\x00")
	joined(t, "a rune in two pieces", "\xc3\xa9", "\x00", "\x00", "\x00", "\x02", "\xc3", "\xa9")
	joined(t, "the longest", strings.Repeat("z", 2048), "\x00\x00\x08\x00"+strings.Repeat("z", 2048))
	joined(t, "the longest in two", strings.Repeat("z", 2048), "\x00\x00\x08\x00"+strings.Repeat("z", 1022), strings.Repeat("z", 1026))
}

// Promise 3.2: no shards, and more than api.MaxSide, are refused ahead of what else is wrong with them.
func TestJoinCounts(t *testing.T) {
	apart(t, "nil", api.ErrRange)
	apart(t, "empty", api.ErrRange, []string{}...)
	for _, s := range []string{"", "\x00", "abc", strings.Repeat("a", 4096)} {
		apart(t, "256", api.ErrRange, slices.Repeat([]string{s}, 256)...)
		apart(t, "512", api.ErrRange, slices.Repeat([]string{s}, 512)...)
	}
	uneven := slices.Repeat([]string{"\x00"}, 256)
	uneven[255] = ""
	apart(t, "256, uneven", api.ErrRange, uneven...)
	apart(t, "65536", api.ErrRange, make([]string, 1<<16)...)
}

// Promise 3.2: shards that are not as long, whichever it is, also where together they were an object's.
func TestJoinUneven(t *testing.T) {
	for i, l := range [][]string{
		{"\x00\x00\x00\x03a", "bc\x00"},
		{"\x00\x00\x00", "\x03abc\x00"},
		{"\x00\x00\x00\x03", "abc"},
		{"\x00\x00\x00\x00", ""},
		{"", "\x00\x00\x00\x00"},
		{"a", ""},
		{"", "a"},
		{"ab", "ab", "a"},
		{"a", "ab", "ab"},
		{"ab", "abc", "ab"},
		{"ab", "c", "de", "fgh"},
		{strings.Repeat("a", 4096), "a"},
		{"a", strings.Repeat("a", 4096)},
	} {
		apart(t, i, api.ErrShape, l...)
	}
	last := slices.Repeat([]string{"\x00"}, 255)
	last[254] = "\x00\x00"
	apart(t, "the last of 255", api.ErrShape, last...)
}

// Promise 3.2: shards that together are no object's plain bytes.
func TestJoinPad(t *testing.T) {
	for i, l := range [][]string{
		{""}, {"", ""}, slices.Repeat([]string{""}, 255), // too few for a length
		{"\x00"}, {"\x00\x00"}, {"\x00\x00\x00"}, {"\x00", "\x00"}, {"\x00", "\x00", "\x00"},
		{"\x00\x00\x00\x01"}, {"\x00\x00\x00\x04abc"}, {"\x00\x00\x00\x05", "abcd"}, // a length that is too great
		{"\x00\x00\x08\x00" + strings.Repeat("z", 2047)},
		{"\x00\x00\x08\x01" + strings.Repeat("z", 2049)}, // one that no object has
		{"\x00\x00\x08\x01" + strings.Repeat("z", 1025), strings.Repeat("z", 1024) + strings.Repeat("\x00", 5)},
		{"\x00\x01\x00\x00abc"}, {"\x01\x00\x00\x00"}, {"\x01\x00\x00\x03abc"}, {"\x00\x01\x00\x03abc"},
		{"\x7f\xff\xff\xffabc"}, {"\x80\x00\x00\x00"}, {"\x80\x00\x00\x03abc"}, {"\xff\xff\xff\xff"}, {"\xff\xff\xff\xfd", "abc\x00"}, {"\xff\xff\xff\xfc"},
		{"\x03\x00\x00\x00abc"},                                             // one whose lowest byte is ahead
		{"\x00\x00\x00\x02", "abc\x00"}, {"\x00\x00\x00\x02", "ab\x00\x01"}, // bytes behind that are not 0
		{"\x00\x00\x00\x03", "abcd"}, {"\x00\x00\x00\x03", "abc\x80"}, {"\x00", "\x00", "\x00", "\x00", "\x01"},
		{"\x00\x00\x00\x00", "\x00\x00\x00\x01"},
		{"\x00\x00\x00\x00\x00"}, {"\x00\x00\x00\x03abc\x00"}, // more of them than need be
		{"\x00\x00\x00\x02", "ab\x00\x00"},
		{"\x00\x00\x00", "\x00\x00\x00"}, {"\x00\x00\x00\x00", "\x00\x00\x00\x00"},
		{"\x00\x00", "\x00\x00", "\x00\x00", "\x00\x00"},
		slices.Repeat([]string{"\x00\x00"}, 255),
		{strings.Repeat("\x00", 2052)}, {strings.Repeat("\x00", 1<<20)},
		{"\x00\x00\x08\x00" + strings.Repeat("z", 2049)}, {"\x00\x00\x08\x00" + strings.Repeat("z", 2048) + "\x00"},
		slices.Repeat([]string{strings.Repeat("\x00", 1<<16)}, 255),
	} {
		apart(t, i, api.ErrPad, l...)
	}
}

// Promise 3.2: just so many bytes 0 as need be, of each k.
func TestJoinSparePlaces(t *testing.T) {
	for k := 2; k <= 255; k++ {
		for _, n := range []int{0, 3, k, 3*k - 4, 3*k - 3} {
			if n < 0 {
				continue
			}
			l := pieces(k, strings.Repeat("z", n))
			joined(t, []int{k, n}, strings.Repeat("z", n), l...)
			all := strings.Join(l, "") + strings.Repeat("\x00", k)
			each := len(all) / k
			for i := range l {
				l[i] = all[i*each : (i+1)*each]
			}
			apart(t, []int{k, n}, api.ErrPad, l...)
		}
	}
}

// Promise 3.2: an object that is too long by a byte has no plain bytes, also where its shards are no longer than those of one that is not.
func TestJoinTooLong(t *testing.T) {
	for k := 1; k <= 255; k++ {
		joined(t, k, strings.Repeat("z", 2048), pieces(k, strings.Repeat("z", 2048))...)
		for _, n := range []int{2049, 2051, 2291, 2292, 4096, 1<<16 - 1} {
			apart(t, []int{k, n}, api.ErrPad, pieces(k, strings.Repeat("z", n))...)
		}
	}
}

// Promise 3.2: of a short object's shards, each bit that is turned makes another object, or none: what is answered has just these shards.
func TestJoinTurnedBits(t *testing.T) {
	for _, k := range []int{1, 2, 3, 5} {
		l := pieces(k, "abc")
		for i := range l {
			for at := range len(l[i]) {
				for bit := range 8 {
					turned := slices.Clone(l)
					b := []byte(l[i])
					b[at] ^= 1 << bit
					turned[i] = string(b)
					o, e := Join(turned...)
					if e == api.OK && !slices.Equal(pieces(k, o), turned) || e != api.OK && (e != api.ErrPad || o != "") {
						t.Errorf("%x: %d, %q", turned, e, o)
					}
					if whole := i*len(b)+at >= 4 && i*len(b)+at < 7; whole != (e == api.OK) {
						t.Errorf("%x: %d, %q", turned, e, o)
					}
				}
			}
		}
	}
}

// Promise 3.3: shards that were worked out apart from the program.
func TestEncodeWorkedOut(t *testing.T) {
	for _, x := range []struct {
		k, m   int
		object string
		want   []string
	}{
		{2, 1, "abc", []string{"\x00\x00\x00\x03", "abc\x00", "\xd4\xd5\x21\x8f"}},
		{1, 2, "ab", []string{"\x00\x00\x00\x02ab", "\x00\x00\x00\x02ab", "\x00\x00\x00\x01\xbe\x31"}},
		{2, 2, "", []string{"\x00\x00", "\x00\x00", "\x00\x00", "\x00\x00"}},
		{3, 2, "\xff\x00\xc3\xa9x", []string{"\x00\x00\x00", "\x05\xff\x00", "\xc3\xa9x", "\x4f\x58\x78", "\xaf\x8e\x14"}},
		{4, 2, "hello", []string{"\x00\x00\x00", "\x05he", "llo", "\x00\x00\x00", "\x13\xa8\x76", "\x52\x0e\x99"}},
		{5, 1, "", []string{"\x00", "\x00", "\x00", "\x00", "\x00", "\x00"}},
		{1, 0, "a", []string{"\x00\x00\x00\x01a"}},
		{2, 0, "abc", []string{"\x00\x00\x00\x03", "abc\x00"}},
	} {
		l, e := Encode(x.k, x.m, x.object)
		same(t, x.object, l, e, x.want)
	}
}

// Promise 3.3: shards of codes of all kinds, byte by byte.
func TestEncode(t *testing.T) {
	s := seed(2)
	for _, x := range codes() {
		for _, n := range []int{0, 1, 77, 2048} {
			object := s.text(n)
			data := pieces(x[0], object)
			l, e := Encode(x[0], x[1], object)
			same(t, x, l, e, append(data, others(x[1], data)...))
		}
	}
}

// Promise 3.3: what is no code, ahead of objects that are too long.
func TestEncodeRefuses(t *testing.T) {
	for _, x := range noCodes() {
		for _, n := range []int{0, 3, 2049} {
			l, e := Encode(x[0], x[1], strings.Repeat("a", n))
			refused(t, x, l, e, api.ErrRange)
		}
	}
	for _, x := range codes() {
		for _, n := range []int{2049, 2052, 4096, 1 << 20} {
			l, e := Encode(x[0], x[1], strings.Repeat("a", n))
			refused(t, x, l, e, api.ErrLong)
		}
	}
}

// Promise 3.3: the parity of shards of any bytes, which need be no object's.
func TestParityWorkedOut(t *testing.T) {
	for _, x := range []struct {
		m    int
		data []string
		want []string
	}{
		{1, []string{"\x00\x00\x00\x03", "abc\x00"}, []string{"\xd4\xd5\x21\x8f"}},
		{2, []string{"\x01\x02"}, []string{"\x01\x02", "\x8e\x01"}},
		{1, []string{"\x01\x02", "\x00\x00"}, []string{"\x8e\x01"}},
		{1, []string{"\x00\x00", "\x01\x03"}, []string{"\xf4\x01"}},
		{1, []string{"\x01\x02", "\x01\x03"}, []string{"\x7a\x00"}},
		{2, []string{"\x01", "\x00"}, []string{"\x8e", "\xf4"}},
		{2, []string{"\x00", "\x01"}, []string{"\xf4", "\x8e"}},
		{3, []string{"", ""}, []string{"", "", ""}},
		{0, []string{"ab", "cd"}, nil},
		{0, []string{""}, nil},
	} {
		l, e := Parity(len(x.data), x.m, x.data)
		same(t, x.data, l, e, x.want)
	}
}

// Promise 3.3: the same of codes of all kinds, of shards from no bytes to 2052, byte by byte.
func TestParity(t *testing.T) {
	s := seed(3)
	for _, x := range codes() {
		for _, n := range []int{0, 1, 2, 33} {
			data := s.texts(x[0], n)
			l, e := Parity(x[0], x[1], data)
			same(t, x, l, e, others(x[1], data))
		}
	}
	for _, x := range [][2]int{{1, 0}, {1, 254}, {2, 3}, {17, 2}, {255, 0}, {254, 1}, {128, 127}} {
		data := s.texts(x[0], 2052)
		l, e := Parity(x[0], x[1], data)
		if len(l) == x[1] && x[1] > 2 { // by hand, all of them take too long
			tail := slices.Clone(l[2:])
			same(t, x, l[:2], e, others(2, data))
			for i, got := range tail {
				if len(got) != 2052 {
					t.Errorf("%v, shard %d: %d bytes", x, i+2, len(got))
				}
			}
			continue
		}
		same(t, x, l, e, others(x[1], data))
	}
}

// Promise 3.3: what is no code, whatever the shards are.
func TestParityNoCode(t *testing.T) {
	for _, x := range noCodes() {
		for _, data := range [][]string{nil, {}, {"a"}, {"a", "b"}, {"a", ""}, {strings.Repeat("a", 2053)}, make([]string, 255), make([]string, 256), make([]string, 257)} {
			l, e := Parity(x[0], x[1], data)
			refused(t, x, l, e, api.ErrRange)
		}
	}
}

// Promise 3.3: shards that are not k, or not as long, ahead of those that are too long.
func TestParityShape(t *testing.T) {
	long := strings.Repeat("a", 2053)
	for i, x := range []struct {
		k    int
		data []string
	}{
		{1, nil}, {2, nil}, {255, nil}, {1, []string{}},
		{1, []string{"a", "b"}}, {2, []string{"a"}}, {2, []string{"a", "b", "c"}}, {3, []string{"a", "b"}},
		{255, make([]string, 254)}, {254, make([]string, 255)}, {255, make([]string, 256)}, {1, make([]string, 256)},
		{1, []string{long, long}}, {2, []string{long}},
		{2, []string{"a", ""}}, {2, []string{"", "a"}}, {3, []string{"a", "b", "cd"}}, {3, []string{"a", "bc", "d"}}, {3, []string{"ab", "c", "d"}},
		{2, []string{long, "a"}}, {2, []string{"a", long}}, {2, []string{long[:2052], long}}, {2, []string{long, long[:2052]}}, {2, []string{long, long + "a"}},
		{3, []string{long, long, ""}},
	} {
		for _, m := range []int{0, min(2, 255-x.k)} {
			l, e := Parity(x.k, m, x.data)
			refused(t, i, l, e, api.ErrShape)
		}
	}
}

// Promise 3.3: shards that are too long: of more than 2052 bytes.
func TestParityLong(t *testing.T) {
	for _, n := range []int{2053, 2054, 4096, 1 << 20} {
		for _, x := range [][2]int{{1, 0}, {1, 1}, {2, 0}, {2, 2}, {5, 3}, {128, 127}, {255, 0}} {
			l, e := Parity(x[0], x[1], slices.Repeat([]string{strings.Repeat("a", n)}, x[0]))
			refused(t, n, l, e, api.ErrLong)
		}
	}
}
