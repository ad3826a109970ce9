package letter

import (
	"math"
	"strings"
	"testing"

	"corncrib/api"
)

// Promise 7.1: the chapter's example.
func TestExample(t *testing.T) {
	written(t, api.Letter{Kind: api.LAsk, From: 1, To: 2, Txn: 5}, string([]byte{7, 14, 2, 4, 10, 0, 0, 0, 1, 0}))
}

// Promise 7.1: a letter of each kind, its bytes worked out.
func TestKnownLetters(t *testing.T) {
	for i, want := range []string{
		"\x07\x02\xc8\x01\x06\x0a\x12\x00\x02" + "\x02\x00\x01k",
		"\x07\x04\x06\xc8\x01\x0a\x12\x02\x02" + "\x02\x05shard\x01k",
		"\x09\x06\xe6\x01\x00\x0c\x8c\x01\x00\x04\x00\x02" + "\x07\x00\x01a\x01b\x01b\x03xyz\x01c\x00",
		"\x07\x08\x00\xe6\x01\x0c\x00\x02\x00" + "\x01\x00",
		"\x07\x0a\xca\x01\x16\x0e\xd8\x04\x00\x00" + "\x01\x00",
		"\x07\x0c\x16\xca\x01\x0e\x00\x00\x00" + "\x01\x00",
		"\x07\x0e\x02\x04\x0a\x00\x00\x00" + "\x01\x00",
		"\x07\x10\x04\x02\x0a\x80\x01\x04\x00" + "\x01\x00",
	} {
		written(t, ofKind(i+1), want)
	}
	if l := kinds(); l[0].Kind != api.LRead || l[1].Kind != api.LShard || l[2].Kind != api.LPrep || l[3].Kind != api.LVote || l[4].Kind != api.LDo || l[5].Kind != api.LDid || l[6].Kind != api.LAsk || l[7].Kind != api.LTell {
		t.Error("not the eight kinds")
	}
}

// Promise 7.1: a kind of 0, of one above the last, and others that are none.
func TestKinds(t *testing.T) {
	for _, l := range append(kinds(), api.Letter{From: 1, To: 2, Txn: 5}) {
		for _, kind := range []int{0, 9, 10, -1, -7, 100, 1 << 32, 1<<32 + 7, 1<<62 - 1, -1 << 62} {
			l.Kind = kind
			mayNot(t, l)
		}
	}
}

// Promise 7.1: addresses at both ends of the nodes' and of the coordinators', and beyond them.
func TestAddresses(t *testing.T) {
	for _, l := range kinds() {
		for n := -3; n < 130; n++ {
			from, to := l, l
			from.From, to.To = n, n
			right := n >= 0 && n <= api.MaxNodes-1 || n >= 100 && n <= 115
			judged(t, from, right)
			judged(t, to, right)
		}
		for _, n := range []int{256, 100 + 1<<32, 1 << 40, 1<<62 - 1, -1 << 62} {
			from, to := l, l
			from.From, to.To = n, n
			mayNot(t, from)
			mayNot(t, to)
		}
		l.To = l.From // what goes to where it comes from is not refused
		may(t, l)
	}
}

// Promise 7.1: transactions 0, 1, the greatest, and one further.
func TestTransactions(t *testing.T) {
	for _, l := range kinds() {
		for _, n := range []int{1, 2, 1 << 32, 1<<50 - 2, 1<<50 - 1} {
			l.Txn = n
			may(t, l)
		}
		for _, n := range []int{0, -1, 1 << 50, 1<<50 + 1, 1<<62 - 1, -1 << 62} {
			l.Txn = n
			mayNot(t, l)
		}
	}
}

// Promise 7.1: time stamps 0 and api.MaxStamp, and one further each, with every kind.
func TestStamps(t *testing.T) {
	for _, l := range kinds() {
		for _, n := range []int{0, 1, 1 << 32, api.MaxStamp - 1, api.MaxStamp} {
			l.Ts = n
			may(t, l)
		}
		for _, n := range []int{-1, api.MaxStamp + 1, 1<<62 - 1, -1 << 62} {
			l.Ts = n
			mayNot(t, l)
		}
	}
}

// Promise 7.1: Code up to what its kind names, and beyond it.
func TestCodes(t *testing.T) {
	for kind, most := range map[int]int{api.LRead: 0, api.LShard: 4, api.LPrep: 0, api.LVote: 1, api.LDo: 0, api.LDid: 0, api.LAsk: 0, api.LTell: 2} {
		l := ofKind(kind)
		l.Text = ""
		for code := -3; code < 10; code++ {
			l.Code = code
			judged(t, l, code >= 0 && code <= most)
		}
		for _, code := range []int{256, 1 << 32, 1<<62 - 1, -1 << 62} {
			l.Code = code
			mayNot(t, l)
		}
	}
}

// Promise 7.1: what a kind does not name, given all the same.
func TestNotNamed(t *testing.T) {
	for _, l := range kinds() {
		if l.Kind != api.LShard {
			texty := l
			texty.Text = "x"
			mayNot(t, texty)
			texty.Text, texty.Code = "\x00", api.CShard
			mayNot(t, texty)
		}
		if l.Kind != api.LPrep {
			writing := l
			writing.Writes = writesOf("a")
			mayNot(t, writing)
			writing.Writes = []api.Write{{Key: "a", Dead: true}}
			mayNot(t, writing)
			writing.Writes = make([]api.Write, 1)
			mayNot(t, writing)
		}
		if l.Kind > api.LPrep {
			keyed := l
			for _, keys := range [][]string{{"k"}, {""}, {"a", "b"}} {
				keyed.Keys = keys
				mayNot(t, keyed)
			}
		}
	}
}

// Promise 7.1: what is read, and its answer, is of one key.
func TestOneKey(t *testing.T) {
	long := strings.Repeat("k", api.MaxKey)
	for _, kind := range []int{api.LRead, api.LShard} {
		l := ofKind(kind)
		for _, keys := range [][]string{{"a"}, {"\x00"}, {"\xff\xff"}, {long[1:]}, {long}} {
			l.Keys = keys
			may(t, l)
		}
		for _, keys := range [][]string{nil, {}, {""}, {long + "k"}, {long + long}, {"a", "b"}, {"a", "a"}, {"b", "a"}, {"a", ""}, {"", "a"}, keysUpTo(16)} {
			l.Keys = keys
			mayNot(t, l)
		}
	}
}

// Promise 7.1: a text of up to 2052 bytes, which stands with CShard alone.
func TestTexts(t *testing.T) {
	l := ofKind(api.LShard)
	for code := range 5 {
		for _, n := range []int{0, 1, 2, 127, 128, 2048, 2051, 2052, 2053, 2054, 4096, 4097} {
			l.Code, l.Text = code, strings.Repeat("x", n)
			judged(t, l, n == 0 || code == api.CShard && n <= 2052)
		}
	}
}

// Promise 7.1: the keys of what is to be prepared: how many, how long, rising.
func TestPrepKeys(t *testing.T) {
	long := strings.Repeat("k", api.MaxKey)
	l := ofKind(api.LPrep)
	for n := range 20 {
		for _, writes := range [][]api.Write{nil, l.Writes, writesOf(keysUpTo(16)...)} {
			l.Keys, l.Writes = keysUpTo(n), writes
			judged(t, l, n <= api.MaxWrites)
		}
	}
	for _, keys := range [][]string{nil, {}, {"a"}, {long}, {"\x00", "\x00\x00", "a", "aa", "ab", "b", "\xff", "\xff\xff"}, {"Z", "a"}, {"\x7f", "\x80"}} {
		l.Keys = keys
		may(t, l)
	}
	for _, keys := range [][]string{{""}, {"", "a"}, {"a", ""}, {long + "k"}, {"a", long + "k"}, {"a", "a"}, {"b", "a"}, {"a", "b", "b"}, {"a", "c", "b"}, {"b", "c", "a"}, {"aa", "a"}, {"a", "B"}, {"\x80", "\x7f"}} {
		l.Keys = keys
		mayNot(t, l)
	}
}

// Promise 7.1: the writes of what is to be prepared: how many, how long their keys, rising; they hang on no other key.
func TestPrepWrites(t *testing.T) {
	long := strings.Repeat("k", api.MaxKey)
	l := ofKind(api.LPrep)
	for n := range 20 {
		for _, keys := range [][]string{nil, l.Keys, keysUpTo(16)} {
			l.Keys, l.Writes = keys, writesOf(keysUpTo(n)...)
			judged(t, l, n <= api.MaxWrites)
		}
	}
	for _, keys := range [][]string{nil, {"a"}, {long}, {"\x00", "\x00\x00", "a", "aa", "ab", "b", "\xff", "\xff\xff"}} {
		l.Writes = writesOf(keys...)
		may(t, l)
	}
	for _, keys := range [][]string{{""}, {"", "a"}, {"a", ""}, {long + "k"}, {"a", long + "k"}, {"a", "a"}, {"b", "a"}, {"a", "b", "b"}, {"a", "c", "b"}, {"b", "c", "a"}, {"aa", "a"}} {
		l.Writes = writesOf(keys...)
		mayNot(t, l)
	}
}

// Promise 7.1: a write's shard of up to 2052 bytes, empty if it is dead, wherever it stands.
func TestShards(t *testing.T) {
	l := ofKind(api.LPrep)
	for i := range 3 {
		for _, dead := range []bool{false, true} {
			for _, n := range []int{0, 1, 2, 2051, 2052, 2053, 4096, 4097} {
				l.Writes = writesOf("a", "b", "c")
				l.Writes[i].Shard, l.Writes[i].Dead = strings.Repeat("x", n), dead
				judged(t, l, n == 0 || !dead && n <= 2052)
			}
		}
	}
}

// Promise 7.1: the greatest letter of each sort of room.
func TestGreatest(t *testing.T) {
	l := ofKind(api.LPrep)
	l.Txn, l.Ts, l.Keys, l.Writes = topTxn, topStamp, nil, nil
	for i := range byte(api.MaxWrites) {
		key := strings.Repeat(string([]byte{'a' + i}), api.MaxKey)
		l.Keys = append(l.Keys, key)
		l.Writes = append(l.Writes, api.Write{Key: key, Shard: strings.Repeat("\xff", topShard)})
	}
	may(t, l)
	s := ofKind(api.LShard)
	s.Txn, s.Ts, s.Keys, s.Text = topTxn, topStamp, l.Keys[15:], strings.Repeat("\x00", topShard)
	may(t, s)
}

// Promise 7.1: what may be a key.
func TestKey(t *testing.T) {
	for n := range 100 {
		for _, b := range []string{"\x00", "k", "\xff"} {
			if Key(strings.Repeat(b, n)) != (n >= 1 && n <= api.MaxKey) {
				t.Errorf("%d bytes %q", n, b)
			}
		}
	}
	for _, s := range []string{"é", strings.Repeat("é", 16), " ", "a\nb", "\xc3"} {
		if !Key(s) {
			t.Errorf("%q", s)
		}
	}
	if Key(strings.Repeat("é", 17)) || Key(strings.Repeat("k", 1<<20)) {
		t.Error("too long")
	}
}

// Promise 7.1: what are keys, each above the one ahead.
func TestRising(t *testing.T) {
	long := strings.Repeat("k", api.MaxKey)
	if !Rising() {
		t.Error("nothing")
	}
	for _, l := range [][]string{nil, {}, {"a"}, {"\x00"}, {long}, {"a", "b"}, {"a", "aa"}, {"\x00", "\x00\x00", "\x01"}, {"Z", "a", "z", "\x80", "\xff"}, {long[1:], long}, keysUpTo(16), keysUpTo(17), keysUpTo(100)} {
		if !Rising(l...) {
			t.Errorf("%q", l)
		}
	}
	for _, l := range [][]string{{""}, {"", ""}, {"", "a"}, {"a", ""}, {long + "k"}, {"a", long + "k"}, {long + "k", "z"}, {"a", "a"}, {"b", "a"}, {"aa", "a"}, {"a", "b", "b"}, {"a", "b", "a"}, {"a", "c", "b", "d"}, {"\x80", "\x7f"}, {"é", "z"}} {
		if Rising(l...) {
			t.Errorf("%q", l)
		}
	}
}

// Promise 7.1: where several things are wrong, and numbers that are none of a pack's, it is ErrLetter still.
func TestAllWrong(t *testing.T) {
	for _, l := range []api.Letter{{}, {Kind: math.MaxInt}, {Kind: 1, From: math.MinInt, To: math.MaxInt, Txn: math.MinInt, Ts: math.MaxInt, Code: math.MinInt}} {
		if e := Check(l); e != api.ErrLetter {
			t.Error(e)
		}
		if s, e := Encode(l); s != "" || e != api.ErrLetter {
			t.Error(s, e)
		}
	}
	for _, l := range kinds() {
		for _, bad := range []int{math.MinInt, math.MaxInt, 1 << 62, -1<<62 - 1} {
			for i := range 5 {
				wrong := l
				*[]*int{&wrong.From, &wrong.To, &wrong.Txn, &wrong.Ts, &wrong.Code}[i] = bad
				if s, e := Encode(wrong); s != "" || e != api.ErrLetter || Check(wrong) != api.ErrLetter {
					t.Errorf("%s: %d", told(wrong), e)
				}
			}
		}
	}
	l := ofKind(api.LPrep)
	l.Keys, l.Writes = make([]string, 2000), make([]api.Write, 2000)
	mayNot(t, l)
	l.Keys, l.Writes = keysUpTo(2000), nil
	mayNot(t, l)
}
