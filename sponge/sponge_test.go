package sponge_test

import (
	"math/big"
	"slices"
	"testing"

	"tallystick/api"
	"tallystick/sponge"
)

const p = api.P

var prime = new(big.Int).SetUint64(p)

func toBig(a uint64) *big.Int { return new(big.Int).SetUint64(a) }

// reference is a sponge, reckoned without a bound.
type reference [3]*big.Int

func newReference(word uint64) *reference {
	r := &reference{big.NewInt(0), big.NewInt(1), toBig(word)}
	r.mix()
	return r
}

// mix multiplies by the rows 2 1 1, 1 2 1, 1 1 2, as the chapter has them.
func (r *reference) mix() {
	rows := [3][3]int64{{2, 1, 1}, {1, 2, 1}, {1, 1, 2}}
	for i := int64(1); i <= 8; i++ {
		var raised [3]*big.Int
		for k := range raised {
			moved := new(big.Int).Add(r[k], big.NewInt(int64(k+1)*i))
			raised[k] = moved.Exp(moved, big.NewInt(17), prime)
		}
		for k, row := range rows {
			all := new(big.Int)
			for j, times := range row {
				all.Add(all, new(big.Int).Mul(raised[j], big.NewInt(times)))
			}
			r[k] = all.Mod(all, prime)
		}
	}
}

func (r *reference) take(l []uint64) {
	for _, a := range append([]uint64{uint64(len(l))}, l...) {
		r[0] = new(big.Int).Add(r[0], toBig(a))
		r.mix()
	}
}

func (r *reference) give() uint64 {
	told := r[1].Uint64()
	r.mix()
	return told
}

// edges are numbers around the multiples of P, and the ends of the 64 bits.
func edges() []uint64 {
	l := []uint64{0, 1, 2, 3, 7, 1 << 32, 1 << 60, 1 << 61, 1 << 63, 1<<64 - 1}
	for k := uint64(1); k <= 8; k++ {
		l = append(l, k*p-1, k*p, k*p+1)
	}
	// As a word, p - 3 has Z + 3 be 0 in the first turn.
	return append(l, p-4, p-3, p-2)
}

// drawer gives numbers of 64 bits, the same ones in each run.
func drawer(seed uint64) func() uint64 {
	x := seed
	return func() uint64 {
		x = x*6364136223846793005 + 1442695040888963407
		return x ^ x>>29
	}
}

func far(draw func() uint64, n int) []uint64 {
	l := make([]uint64, n)
	for i := range l {
		l[i] = draw()
	}
	return l
}

// lists are some to take: none, of edges, of any numbers, and as long as may be.
func lists() [][]uint64 {
	draw := drawer(5)
	l := [][]uint64{nil, {}, {0}, {0, 0}, {p}, {1, 2}, {2, 1}, edges()}
	for _, n := range []int{1, 2, 3, 7, 16, 100, api.MaxWords - 1, api.MaxWords} {
		l = append(l, far(draw, n))
	}
	return append(l, make([]uint64, api.MaxWords), slices.Repeat([]uint64{1<<64 - 1}, api.MaxWords))
}

// gives are the next n numbers that s gives.
func gives(s *sponge.Sponge, n int) []uint64 {
	l := make([]uint64, n)
	for i := range l {
		l[i] = s.Give()
	}
	return l
}

func wants(r *reference, n int) []uint64 {
	l := make([]uint64, n)
	for i := range l {
		l[i] = r.give()
	}
	return l
}

// took is a new sponge of the word that took the lists.
func took(t *testing.T, word uint64, all ...[]uint64) *sponge.Sponge {
	t.Helper()
	s := sponge.New(word)
	for _, l := range all {
		if e := s.Take(l); e != api.OK {
			t.Fatalf("Take of %d numbers: %d", len(l), e)
		}
	}
	return s
}

// countTo is the list of n numbers from 0 on.
func countTo(n int) []uint64 {
	l := make([]uint64, n)
	for i := range l {
		l[i] = uint64(i)
	}
	return l
}

// Numbers that were reckoned elsewhere, by the chapter's words.
func TestKnownNumbers(t *testing.T) {
	all := []struct {
		word  uint64
		takes [][]uint64
		want  []uint64
	}{
		{0, nil, []uint64{1828423292459807554, 94484106818542028, 1572138849728391564}},
		{5, nil, []uint64{863338073199509231, 145330008937737857, 2058071965303124879}},
		{1<<64 - 1, nil, []uint64{569123209983440505, 1567428215358414836, 796251878367194772}},
		{0, [][]uint64{{}}, []uint64{94484106818542028, 1572138849728391564, 1614696993299329462}},
		{5, [][]uint64{{1, 2}}, []uint64{1392779624230352526, 515322025046217555, 830406421637046054}},
		{5, [][]uint64{{1}, {2}}, []uint64{1519900394807832169, 589071760631370175, 40887638625337467}},
		{5, [][]uint64{{}, {1, 2}}, []uint64{1961509824821629545, 13273602756549970, 882591567669871481}},
		{1, [][]uint64{{p - 1, p, p + 1, 1<<64 - 1, 0}}, []uint64{1408612160937485006, 1865582810914841155, 391343558953278392}},
		{3, [][]uint64{countTo(1000)}, []uint64{978812584728714513, 445612089757093608, 1751266668726076181}},
	}
	for _, c := range all {
		if got := gives(took(t, c.word, c.takes...), 3); !slices.Equal(got, c.want) {
			t.Errorf("word %d, %d lists: %v, not %v", c.word, len(c.takes), got, c.want)
		}
	}
}

func TestKnownPairs(t *testing.T) {
	for _, c := range [][3]uint64{
		{0, 0, 1556104591871305771},
		{1, 2, 230169495133577170},
		{2, 1, 2246100916802138330},
		{p - 1, p, 757774395493352407},
		{1<<64 - 1, 1 << 63, 955156458519385416},
	} {
		if got := sponge.Pair(c[0], c[1]); got != c[2] {
			t.Errorf("Pair(%d, %d) = %d, not %d", c[0], c[1], got, c[2])
		}
	}
}

func TestNew(t *testing.T) {
	for _, word := range append(edges(), far(drawer(3), 100)...) {
		got, want := gives(sponge.New(word), 4), wants(newReference(word), 4)
		if !slices.Equal(got, want) {
			t.Fatalf("word %d gives %v, not %v", word, got, want)
		}
	}
}

func TestTake(t *testing.T) {
	for _, word := range []uint64{0, 1, 7, p, 1<<64 - 1} {
		for _, l := range lists() {
			r := newReference(word)
			r.take(l)
			if got, want := gives(took(t, word, l), 3), wants(r, 3); !slices.Equal(got, want) {
				t.Fatalf("word %d, of %d numbers: %v, not %v", word, len(l), got, want)
			}
		}
	}
}

// Takes and gives in turn, on and on: what was given ahead counts, too.
func TestTakesAndGives(t *testing.T) {
	draw := drawer(11)
	for range 40 {
		word := draw()
		s, r := sponge.New(word), newReference(word)
		for step := range 30 {
			if draw()%3 == 0 {
				l := far(draw, int(draw()%6))
				r.take(l)
				if e := s.Take(l); e != api.OK {
					t.Fatalf("Take of %d numbers: %d", len(l), e)
				}
				continue
			}
			if got, want := s.Give(), r.give(); got != want {
				t.Fatalf("word %d, step %d: %d, not %d", word, step, got, want)
			}
		}
	}
}

func TestPair(t *testing.T) {
	some := append(edges(), far(drawer(13), 10)...)
	for _, a := range some {
		for _, b := range some {
			r := newReference(7)
			r.take([]uint64{a, b})
			got := sponge.Pair(a, b)
			if want := r.give(); got != want || got >= p {
				t.Fatalf("Pair(%d, %d) = %d, not %d", a, b, got, want)
			}
			if got != took(t, 7, []uint64{a, b}).Give() {
				t.Fatalf("Pair(%d, %d) is not what the sponge of 7 gives", a, b)
			}
		}
	}
}

// Of a number its rest by P is meant, of the word and of what is taken.
func TestRestsAreMeant(t *testing.T) {
	for k := uint64(1); k <= 7; k++ {
		few := []uint64{0, 1, 6}
		more := []uint64{k * p, 1 + k*p, 6 + k*p}
		a, b := took(t, 4, few), took(t, 4+k*p, more)
		if x, y := gives(a, 5), gives(b, 5); !slices.Equal(x, y) || slices.Max(x) >= p {
			t.Errorf("%d times P more: %v and %v", k, x, y)
		}
		if x, y := sponge.Pair(1, 6), sponge.Pair(1+k*p, 6+k*p); x != y {
			t.Errorf("Pair, %d times P more: %d and %d", k, x, y)
		}
	}
}

func TestTooMany(t *testing.T) {
	for _, n := range []int{1001, 1002, 2000, 1 << 20} {
		l := slices.Repeat([]uint64{9}, n)
		s, untouched := took(t, 3, []uint64{1, 2}), took(t, 3, []uint64{1, 2})
		s.Give()
		untouched.Give()
		if e := s.Take(l); e != api.ErrLarge {
			t.Errorf("Take of %d numbers: %d", n, e)
		}
		if x, y := gives(s, 3), gives(untouched, 3); !slices.Equal(x, y) {
			t.Errorf("Take of %d numbers changed what is given: %v, not %v", n, x, y)
		}
		if e := s.Take(l[:1000]); e != api.OK {
			t.Errorf("Take of 1000 numbers: %d", e)
		}
	}
}

// An empty list is taken as well: its count is, and the sponge is mixed by it.
func TestTakeOfNothing(t *testing.T) {
	for _, l := range [][]uint64{nil, {}, make([]uint64, 0, 50)} {
		a, b := took(t, 9, l), sponge.New(9)
		b.Give()
		if x, y := gives(a, 3), gives(b, 3); !slices.Equal(x, y) {
			t.Errorf("%v, not %v", x, y)
		}
	}
}

// What is taken, in which order, and in which lists, is to be seen.
func TestWhatDiffersGivesOtherNumbers(t *testing.T) {
	all := []*sponge.Sponge{
		took(t, 5), took(t, 6),
		took(t, 5, nil), took(t, 5, nil, nil),
		took(t, 5, []uint64{0}), took(t, 5, []uint64{1}), took(t, 5, []uint64{0, 0}),
		took(t, 5, []uint64{1, 2}), took(t, 5, []uint64{2, 1}),
		took(t, 5, []uint64{1}, []uint64{2}), took(t, 5, []uint64{1, 2}, nil),
		took(t, 6, []uint64{1, 2}),
	}
	seen := map[uint64]int{}
	for i, s := range all {
		x := s.Give()
		if j, ok := seen[x]; ok {
			t.Errorf("%d and %d give the same", i, j)
		}
		seen[x] = i
	}
}

// P1: one that no New made answers, too.
func TestSpongeOfNoWord(t *testing.T) {
	var s, other sponge.Sponge
	if x := s.Give(); x >= p {
		t.Error(x)
	}
	if e := s.Take([]uint64{1<<64 - 1}); e != api.OK || s.Give() >= p {
		t.Error(e)
	}
	if e := other.Take(make([]uint64, 1001)); e != api.ErrLarge || other != (sponge.Sponge{}) {
		t.Error(e)
	}
}

// P2: neither the list that is taken nor the room behind it is changed.
func TestArgumentsStay(t *testing.T) {
	for _, l := range append(lists(), make([]uint64, 1001)) {
		room := append(slices.Clone(l), 91, p, 1<<64-1)
		before := slices.Clone(room)
		s := sponge.New(2)
		s.Take(room[:len(l)])
		s.Give()
		if !slices.Equal(room, before) {
			t.Fatalf("%v has become %v", before, room)
		}
	}
}

// P2: a list is not kept: who writes into it later doesn't change the sponge.
func TestListsAreNotKept(t *testing.T) {
	for _, l := range lists() {
		mine := append(make([]uint64, 0, len(l)+4), l...)
		s := took(t, 2, mine)
		for i := range mine[:cap(mine)] {
			mine[:cap(mine)][i] = 77
		}
		if x, y := gives(s, 3), gives(took(t, 2, l), 3); !slices.Equal(x, y) {
			t.Fatalf("of %d numbers: %v, not %v", len(l), x, y)
		}
	}
}

// P2: sponges share nothing, a copy of one included, and Pair keeps nothing.
func TestSpongesShareNothing(t *testing.T) {
	want := gives(took(t, 7, []uint64{3, 4}), 4)
	a, b := sponge.New(7), sponge.New(7)
	if a == b {
		t.Fatal("two calls of New answer one sponge")
	}
	b.Take([]uint64{9})
	a.Take([]uint64{3, 4})
	copied := *a
	sponge.Pair(5, 6)
	for i, x := range want {
		b.Give()
		if y := a.Give(); y != x {
			t.Errorf("number %d: %d, not %d", i, y, x)
		}
	}
	if x := gives(&copied, 4); !slices.Equal(x, want) {
		t.Errorf("the copy: %v, not %v", x, want)
	}
}

// P2: what is answered hangs neither on what was asked ahead of it nor on the
// room behind a list.
func TestAnswersHangOnArgumentsAlone(t *testing.T) {
	all := lists()
	first := make([][]uint64, len(all))
	for i, l := range all {
		first[i] = append(gives(took(t, uint64(len(l)), l), 3), sponge.Pair(1, uint64(i)))
	}
	for i, l := range slices.Backward(all) {
		roomy := append(make([]uint64, 0, len(l)+50), l...)
		got := append(gives(took(t, uint64(len(l)), roomy), 3), sponge.Pair(1, uint64(i)))
		if !slices.Equal(got, first[i]) {
			t.Fatalf("of %d numbers: %v, and %v at first", len(l), got, first[i])
		}
	}
}
