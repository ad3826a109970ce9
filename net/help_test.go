package net

import (
	"math"
	"math/big"
	"math/rand/v2"
	"slices"
	"strconv"
	"testing"

	"corncrib/api"
	"corncrib/letter"
)

// topRoom is the greatest room, as the limits tell it.
const topRoom = 1024

// wildNumbers are those at which something may go wrong.
var wildNumbers = []int{math.MinInt, math.MinInt + 1, math.MinInt + 2, -1 << 32, -topRoom - 1, -topRoom, -2, -1, 0, 1, 2, 3, topRoom - 1, topRoom, topRoom + 1, 1 << 32, math.MaxInt - 1, math.MaxInt}

// ask answers a letter that may be, to an address, which is known by its number.
func ask(to, txn int) api.Letter { return api.Letter{Kind: api.LAsk, From: 1, To: to, Txn: txn} }

// kinds answers a letter of each of the eight kinds, which has what its kind names.
func kinds() []api.Letter {
	return []api.Letter{
		{Kind: 1, From: 100, To: 3, Txn: 5, Ts: 9, Keys: []string{"k"}},
		{Kind: 2, From: 3, To: 100, Txn: 5, Ts: 9, Code: 1, Text: "shard", Keys: []string{"k"}},
		{Kind: 3, From: 115, To: 0, Txn: 6, Ts: 70, Keys: []string{"a", "b"}, Writes: []api.Write{{Key: "b", Shard: "xyz"}, {Key: "c", Dead: true}}},
		{Kind: 4, From: 0, To: 115, Txn: 6, Code: 1},
		{Kind: 5, From: 101, To: 11, Txn: 7, Ts: 300},
		{Kind: 6, From: 11, To: 101, Txn: 7},
		{Kind: 7, From: 1, To: 2, Txn: 5},
		{Kind: 8, From: 2, To: 1, Txn: 5, Ts: 64, Code: 2},
	}
}

// noLetters answers letters that may not be.
func noLetters() []api.Letter {
	l := []api.Letter{{}, {Kind: 9, From: 1, To: 2, Txn: 5}, {Kind: -1, From: 1, To: 2, Txn: 5}, ask(12, 5), ask(99, 5), ask(116, 5), ask(-1, 5), ask(2, 0), ask(2, -3), ask(2, 1<<50)}
	for _, x := range kinds() {
		y, z := x, x
		x.From, y.Code, z.Keys = 50, 5, []string{"b", "a"}
		l = append(l, x, y, z)
	}
	return l
}

// same tells whether two letters are the same; lists without an element are.
func same(a, b api.Letter) bool {
	return slices.Equal([]int{a.Kind, a.From, a.To, a.Txn, a.Ts, a.Code}, []int{b.Kind, b.From, b.To, b.Txn, b.Ts, b.Code}) &&
		a.Text == b.Text && slices.Equal(a.Keys, b.Keys) && slices.Equal(a.Writes, b.Writes)
}

// told writes a letter so that a fault can be read.
func told(l api.Letter) string {
	s := ""
	for _, n := range []int{l.Kind, l.From, l.To, l.Txn, l.Ts, l.Code, len(l.Keys), len(l.Writes)} {
		s += strconv.Itoa(n) + " "
	}
	return s + strconv.Quote(l.Text[:min(len(l.Text), 20)])
}

// bytesOf answers a letter's bytes.
func bytesOf(t *testing.T, l api.Letter) string {
	t.Helper()
	s, e := letter.Encode(l)
	if e != api.OK {
		t.Fatal(told(l), e)
	}
	return s
}

// is fails, unless a call tells this error.
func is(t *testing.T, what string, got, want api.Errno) {
	t.Helper()
	if got != want {
		t.Errorf("%s: %d; not %d", what, got, want)
	}
}

// newNet answers a net with so much room, on which these letters are sent.
func newNet(t *testing.T, room int, l ...api.Letter) *Net {
	t.Helper()
	n, e := New(room)
	if n == nil || e != api.OK {
		t.Fatalf("New(%d): %d", room, e)
	}
	for _, x := range l {
		is(t, "send "+told(x), n.Send(x), api.OK)
	}
	return n
}

// asks answers so many letters, whose transactions are 1, 2, 3 and so on.
func asks(n int) []api.Letter {
	var l []api.Letter
	for i := range n {
		l = append(l, ask(2, i+1))
	}
	return l
}

// taken and dropped fail, unless a pick stands for this letter.
func taken(t *testing.T, n *Net, pick int, want api.Letter) {
	t.Helper()
	if l, e := n.Take(pick); !same(l, want) || e != api.OK {
		t.Errorf("Take(%d): %s, %d; not %s", pick, told(l), e, told(want))
	}
}

func dropped(t *testing.T, n *Net, pick int, want api.Letter) {
	t.Helper()
	if l, e := n.Drop(pick); !same(l, want) || e != api.OK {
		t.Errorf("Drop(%d): %s, %d; not %s", pick, told(l), e, told(want))
	}
}

// injected fails, unless these bytes are injected, and are this letter's.
func injected(t *testing.T, n *Net, s string, want api.Letter) {
	t.Helper()
	if l, e := n.Inject(s); !same(l, want) || e != api.OK {
		t.Errorf("Inject(%q): %s, %d; not %s", s, told(l), e, told(want))
	}
}

// unjected fails, unless these bytes are refused, with nothing beside the error.
func unjected(t *testing.T, n *Net, s string, want api.Errno) {
	t.Helper()
	if l, e := n.Inject(s); !same(l, api.Letter{}) || e != want {
		t.Errorf("Inject(%q): %s, %d; not %d", s, told(l), e, want)
	}
}

// hasNone fails, unless a net has no letters, whichever is picked.
func hasNone(t *testing.T, n *Net) {
	t.Helper()
	for _, pick := range wildNumbers {
		if l, e := n.Take(pick); !same(l, api.Letter{}) || e != api.ErrNone {
			t.Errorf("Take(%d) of none: %s, %d", pick, told(l), e)
		}
		if l, e := n.Drop(pick); !same(l, api.Letter{}) || e != api.ErrNone {
			t.Errorf("Drop(%d) of none: %s, %d", pick, told(l), e)
		}
		is(t, "copy of none", n.Copy(pick), api.ErrNone)
	}
	if n.Len() != 0 {
		t.Error("Len of none:", n.Len())
	}
}

// holds fails, unless just these letters are on their way, in that order; they are taken, one after the other, and sent again.
func holds(t *testing.T, n *Net, want ...api.Letter) {
	t.Helper()
	if n.Len() != len(want) {
		t.Errorf("%d letters; not %d", n.Len(), len(want))
		return
	}
	for _, x := range want {
		taken(t, n, 0, x)
		is(t, "send again", n.Send(x), api.OK)
	}
}

// goes fails, unless these are the places of the letters to an address.
func goes(t *testing.T, n *Net, to int, want ...int) {
	t.Helper()
	if l := n.For(to); !slices.Equal(l, want) {
		t.Errorf("For(%d): %d; not %d", to, l, want)
	}
}

// twin is a net by the chapter's words: the letters that came, ever, and the places among these of those that are on their way.
type twin struct {
	room int
	came []api.Letter
	way  []int
}

// comes lets a letter that may be come.
func (w *twin) comes(l api.Letter) api.Errno {
	if len(w.way) == w.room {
		return api.ErrNet
	}
	w.way = append(w.way, len(w.came))
	w.came = append(w.came, l)
	return api.OK
}

// place answers which place a pick stands for; it shares nothing with the program.
func (w *twin) place(pick int) int {
	return int(new(big.Int).Mod(big.NewInt(int64(pick)), big.NewInt(int64(len(w.way)))).Int64())
}

// goes lets the letter that a pick stands for be on its way no more.
func (w *twin) goes(pick int) (api.Letter, api.Errno) {
	if len(w.way) == 0 {
		return api.Letter{}, api.ErrNone
	}
	at := w.place(pick)
	l := w.came[w.way[at]]
	w.way = slices.Concat(w.way[:at], w.way[at+1:])
	return l, api.OK
}

func (w *twin) copies(pick int) api.Errno {
	if len(w.way) == 0 {
		return api.ErrNone
	}
	return w.comes(w.came[w.way[w.place(pick)]])
}

func (w *twin) to(address int) []int {
	var l []int
	for at, i := range w.way {
		if w.came[i].To == address {
			l = append(l, at)
		}
	}
	return l
}

// maker makes what looks like chance, and is the same each time.
type maker struct{ *rand.Rand }

func newMaker(seed uint64) maker { return maker{rand.New(rand.NewPCG(seed, 15))} }

// letter answers one that may be.
func (m maker) letter() api.Letter {
	l := kinds()[m.IntN(8)]
	l.Txn = 1 + m.IntN(1000)
	l.To = []int{0, 1, 11, 100, 101, 115}[m.IntN(6)]
	return l
}

// pick answers a number, of one of all kinds.
func (m maker) pick() int {
	switch m.IntN(4) {
	case 0:
		return wildNumbers[m.IntN(len(wildNumbers))]
	case 1:
		return int(m.Uint64())
	}
	return m.IntN(20) - 10
}

// step does one thing with a net, and the same with its twin; the greater more is, the more letters come.
func (m maker) step(t *testing.T, n *Net, w *twin, more int) {
	t.Helper()
	pick := m.pick()
	switch x := m.IntN(20); {
	case x < more:
		m.stepIn(t, n, w)
	case x < 13:
		want, e := w.goes(pick)
		if l, got := n.Take(pick); !same(l, want) || got != e {
			t.Fatalf("Take(%d): %s, %d; not %s, %d", pick, told(l), got, told(want), e)
		}
	case x < 16:
		want, e := w.goes(pick)
		if l, got := n.Drop(pick); !same(l, want) || got != e {
			t.Fatalf("Drop(%d): %s, %d; not %s, %d", pick, told(l), got, told(want), e)
		}
	default:
		is(t, "copy", n.Copy(pick), w.copies(pick))
	}
	if n.Len() != len(w.way) {
		t.Fatalf("%d letters; not %d", n.Len(), len(w.way))
	}
	to := m.IntN(120) - 2
	goes(t, n, to, w.to(to)...)
}

// stepIn sends or injects a letter that may be, or one that may not.
func (m maker) stepIn(t *testing.T, n *Net, w *twin) {
	t.Helper()
	l := m.letter()
	switch m.IntN(6) {
	case 0:
		all := noLetters()
		is(t, "send of none", n.Send(all[m.IntN(len(all))]), api.ErrLetter)
	case 1:
		s := bytesOf(t, l)
		unjected(t, n, s[:m.IntN(len(s))], api.ErrLetter)
	case 2:
		want := w.comes(l)
		x, e := n.Inject(bytesOf(t, l))
		if want != api.OK {
			l = api.Letter{}
		}
		if !same(x, l) || e != want {
			t.Fatalf("Inject: %s, %d; not %s, %d", told(x), e, told(l), want)
		}
	default:
		is(t, "send", n.Send(l), w.comes(l))
	}
}

// spoil changes all that the lists of a letter have, spare room too.
func spoil(l api.Letter) {
	keys, writes := l.Keys[:cap(l.Keys)], l.Writes[:cap(l.Writes)]
	for i := range keys {
		keys[i] = "spoilt"
	}
	for i := range writes {
		writes[i] = api.Write{Key: "spoilt", Dead: true}
	}
}
