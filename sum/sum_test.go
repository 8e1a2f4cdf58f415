package sum_test

import (
	"math/big"
	"slices"
	"testing"

	"tallystick/api"
	"tallystick/sum"
)

const p = api.P

var prime = new(big.Int).SetUint64(p)

func toBig(a uint64) *big.Int { return new(big.Int).SetUint64(a) }

func rest(x *big.Int) uint64 { return new(big.Int).Mod(x, prime).Uint64() }

// edges are numbers around the multiples of P, and the ends of the 64 bits.
func edges() []uint64 {
	l := []uint64{0, 1, 2, 3, 1 << 32, 1 << 60, 1 << 61, 1 << 63, 1<<64 - 1}
	for k := uint64(1); k <= 8; k++ {
		l = append(l, k*p-1, k*p, k*p+1)
	}
	return l
}

// drawer gives numbers of 64 bits, the same ones in each run.
func drawer(seed uint64) func() uint64 {
	x := seed
	return func() uint64 {
		x = x*6364136223846793005 + 1442695040888963407
		return x ^ x>>29
	}
}

// far are n numbers from anywhere among the 64 bits.
func far(draw func() uint64, n int) []uint64 {
	l := make([]uint64, n)
	for i := range l {
		l[i] = draw()
	}
	return l
}

// near are n numbers of edges.
func near(draw func() uint64, n int) []uint64 {
	around := edges()
	l := make([]uint64, n)
	for i := range l {
		l[i] = around[draw()%uint64(len(around))]
	}
	return l
}

// deepCopy is l, with no memory of it.
func deepCopy(l [][]uint64) [][]uint64 {
	c := make([][]uint64, len(l))
	for i, t := range l {
		c[i] = slices.Clone(t)
	}
	return c
}

func same(a, b [][]uint64) bool { return slices.EqualFunc(a, b, slices.Equal[[]uint64]) }

// varsOf is the reference for how many variables right factors have.
func varsOf(l [][]uint64) int {
	n := 0
	for 1<<n < len(l[0]) {
		n++
	}
	return n
}

// factors are some of each count and size that is right.
func factors() [][][]uint64 {
	draw := drawer(5)
	var all [][][]uint64
	for n := range api.MaxVars + 1 {
		for count := 1; count <= api.MaxFacts; count++ {
			var wide, edge, most [][]uint64
			for range count {
				wide = append(wide, far(draw, 1<<n))
				edge = append(edge, near(draw, 1<<n))
				most = append(most, slices.Repeat([]uint64{1<<64 - 1}, 1<<n))
			}
			// One list may stand for several of the factors.
			twin := slices.Repeat([][]uint64{far(draw, 1<<n)}, count)
			all = append(all, wide, edge, most, twin)
		}
	}
	return all
}

// bigTables is l without bounds.
func bigTables(l [][]uint64) [][]*big.Int {
	all := make([][]*big.Int, len(l))
	for i, t := range l {
		for _, y := range t {
			all[i] = append(all[i], toBig(y))
		}
	}
	return all
}

// bigFix is the reference for the first variable at x: (1-x) times the half
// where it is 0, and x times the half where it is 1.
func bigFix(l [][]*big.Int, x *big.Int) [][]*big.Int {
	fixed := make([][]*big.Int, len(l))
	for i, t := range l {
		half := len(t) / 2
		for b := range half {
			y := new(big.Int).Mul(t[b], new(big.Int).Sub(big.NewInt(1), x))
			y.Add(y, new(big.Int).Mul(t[half+b], x))
			fixed[i] = append(fixed[i], y.Mod(y, prime))
		}
	}
	return fixed
}

// bigClaim is the reference for the sum of the products.
func bigClaim(l [][]*big.Int) uint64 {
	all := new(big.Int)
	for b := range l[0] {
		product := big.NewInt(1)
		for _, t := range l {
			product.Mul(product, t[b])
		}
		all.Add(all, product)
	}
	return rest(all)
}

// bigRound is the reference for a round.
func bigRound(l [][]*big.Int) []uint64 {
	var values []uint64
	for x := 0; x <= len(l); x++ {
		values = append(values, bigClaim(bigFix(l, big.NewInt(int64(x)))))
	}
	return values
}

// bigAt is the reference for what values are at x: Lagrange's sum.
func bigAt(v []uint64, x uint64) *big.Int {
	all := new(big.Int)
	for i, y := range v {
		term, below := toBig(y), big.NewInt(1)
		for j := range v {
			if j == i {
				continue
			}
			term.Mul(term, new(big.Int).Sub(toBig(x), big.NewInt(int64(j))))
			below.Mul(below, big.NewInt(int64(i-j)))
		}
		below.Mod(below, prime)
		all.Add(all, term.Mul(term, below.ModInverse(below, prime)))
	}
	return all.Mod(all, prime)
}

func TestExamples(t *testing.T) {
	l := [][]uint64{{1, 2}, {3, 4}}
	if c, e := sum.Claim(l); c != 11 || e != api.OK {
		t.Errorf("Claim: %d, %d", c, e)
	}
	if v, e := sum.Round(l); !slices.Equal(v, []uint64{3, 8, 15}) || e != api.OK {
		t.Errorf("Round: %v, %d", v, e)
	}
	// Which variable is told first: 1, 2 where it is 0, 10, 20 where it is 1.
	l = [][]uint64{{1, 2, 10, 20}}
	rounds, left, e := sum.Prove(l, []uint64{1, 0})
	if !same(rounds, [][]uint64{{3, 30}, {10, 20}}) || !slices.Equal(left, []uint64{10}) || e != api.OK {
		t.Errorf("Prove: %v, %v, %d", rounds, left, e)
	}
	if y, ok, e := sum.Verify(33, rounds, []uint64{1, 0}); y != 10 || !ok || e != api.OK {
		t.Errorf("Verify: %d, %v, %d", y, ok, e)
	}
}

func TestCheck(t *testing.T) {
	for _, l := range factors() {
		if n, e := sum.Check(l); n != varsOf(l) || e != api.OK {
			t.Errorf("Check of %d tables of %d numbers: %d, %d", len(l), len(l[0]), n, e)
		}
	}
}

// wrongFactors are lists that are no factors.
func wrongFactors() [][][]uint64 {
	one, two, four := []uint64{5}, []uint64{5, 6}, []uint64{5, 6, 7, 8}
	all := [][][]uint64{
		nil, {},
		{one, one, one, one}, {two, two, two, two}, slices.Repeat([][]uint64{two}, 300),
		{one, two}, {two, one}, {two, two, one}, {two, four, two}, {four, two, two}, {one, one, two},
		{nil, nil, nil, nil},
	}
	for _, size := range []int{0, 3, 5, 6, 7, 9, 255, 257, 384, 511, 512, 1024} {
		odd := make([]uint64, size)
		all = append(all, [][]uint64{odd}, [][]uint64{odd, odd}, [][]uint64{odd, odd, odd})
		all = append(all, [][]uint64{odd, two}, [][]uint64{two, odd}, [][]uint64{two, two, odd}, [][]uint64{one, odd, two})
	}
	return append(all, [][]uint64{nil}, [][]uint64{nil, two}, [][]uint64{two, nil})
}

func TestWrongFactors(t *testing.T) {
	for _, l := range wrongFactors() {
		if n, e := sum.Check(l); n != 0 || e != api.ErrForm {
			t.Errorf("Check(%v) = %d, %d", l, n, e)
		}
		if c, e := sum.Claim(l); c != 0 || e != api.ErrForm {
			t.Errorf("Claim(%v) = %d, %d", l, c, e)
		}
		if v, e := sum.Round(l); v != nil || e != api.ErrForm {
			t.Errorf("Round(%v) = %v, %d", l, v, e)
		}
		// Check's error is told first, so it is the answer where the draws are wrong too.
		for n := range 11 {
			rounds, left, e := sum.Prove(l, make([]uint64, n))
			if rounds != nil || left != nil || e != api.ErrForm {
				t.Errorf("Prove(%v) with %d draws: %v, %v, %d", l, n, rounds, left, e)
			}
		}
	}
}

func TestClaim(t *testing.T) {
	for _, l := range factors() {
		c, e := sum.Claim(l)
		if want := bigClaim(bigTables(l)); c != want || e != api.OK {
			t.Fatalf("Claim(%v) = %d, %d, not %d", l, c, e, want)
		}
	}
}

func TestRound(t *testing.T) {
	for _, l := range factors() {
		v, e := sum.Round(l)
		if len(l[0]) == 1 {
			if v != nil || e != api.ErrForm {
				t.Errorf("Round(%v), of no variable: %v, %d", l, v, e)
			}
			continue
		}
		if want := bigRound(bigTables(l)); !slices.Equal(v, want) || e != api.OK {
			t.Fatalf("Round(%v) = %v, %d, not %v", l, v, e, want)
		}
	}
}

// drawsFor are some lists of n draws.
func drawsFor(n int) [][]uint64 {
	draw := drawer(uint64(11 + n))
	return [][]uint64{
		far(draw, n), near(draw, n), near(draw, n),
		make([]uint64, n), slices.Repeat([]uint64{1}, n), slices.Repeat([]uint64{1<<64 - 1}, n),
	}
}

func TestProve(t *testing.T) {
	for _, l := range factors() {
		for _, draws := range drawsFor(varsOf(l)) {
			rounds, left, e := sum.Prove(l, draws)
			if e != api.OK || len(rounds) != len(draws) || len(left) != len(l) {
				t.Fatalf("Prove(%v, %v) = %v, %v, %d", l, draws, rounds, left, e)
			}
			tables := bigTables(l)
			for i, x := range draws {
				if want := bigRound(tables); !slices.Equal(rounds[i], want) {
					t.Fatalf("Prove(%v, %v): round %d is %v, not %v", l, draws, i, rounds[i], want)
				}
				tables = bigFix(tables, toBig(x))
			}
			for i, y := range left {
				if y != rest(tables[i][0]) {
					t.Fatalf("Prove(%v, %v) leaves %v", l, draws, left)
				}
			}
		}
	}
}

func TestProveOfNoVariable(t *testing.T) {
	l := [][]uint64{{1<<64 - 1}, {p}, {p + 4}}
	for _, draws := range [][]uint64{nil, {}} {
		rounds, left, e := sum.Prove(l, draws)
		if len(rounds) != 0 || !slices.Equal(left, []uint64{7, 0, 4}) || e != api.OK {
			t.Errorf("Prove(%v, %v) = %v, %v, %d", l, draws, rounds, left, e)
		}
	}
}

func TestProveNeedsAsManyDrawsAsVariables(t *testing.T) {
	for _, l := range factors() {
		for n := range 12 {
			rounds, left, e := sum.Prove(l, slices.Repeat([]uint64{5}, n))
			if n == varsOf(l) {
				if e != api.OK {
					t.Errorf("%d draws for %d numbers: %d", n, len(l[0]), e)
				}
				continue
			}
			if rounds != nil || left != nil || e != api.ErrArg {
				t.Errorf("%d draws for %d numbers: %v, %v, %d", n, len(l[0]), rounds, left, e)
			}
		}
	}
}

// What is right is proved, whatever is drawn: what is claimed at last is the
// product of what the tables have left.
func TestWhatIsRightIsProved(t *testing.T) {
	for _, l := range factors() {
		claim, _ := sum.Claim(l)
		for _, draws := range drawsFor(varsOf(l)) {
			rounds, left, _ := sum.Prove(l, draws)
			product := big.NewInt(1)
			for _, y := range left {
				product.Mul(product, toBig(y))
			}
			for _, said := range []uint64{claim, claim + p, claim + 7*p} {
				y, ok, e := sum.Verify(said, rounds, draws)
				if y != rest(product) || !ok || e != api.OK {
					t.Fatalf("Verify(%d, %v, %v) = %d, %v, %d", said, rounds, draws, y, ok, e)
				}
			}
		}
	}
}

func TestWrongClaim(t *testing.T) {
	for _, l := range factors() {
		claim, _ := sum.Claim(l)
		draws := drawsFor(varsOf(l))[0]
		rounds, _, _ := sum.Prove(l, draws)
		for _, said := range []uint64{claim + 1, claim + p - 1, claim ^ 1<<40} {
			if len(draws) == 0 || said%p == claim {
				continue
			}
			if y, ok, e := sum.Verify(said, rounds, draws); y != 0 || ok || e != api.OK {
				t.Fatalf("Verify(%d, %v, %v) = %d, %v, %d", said, rounds, draws, y, ok, e)
			}
		}
	}
}

// fitting are rounds of size values that fit one another and the claim, and
// what is claimed at last: all values but the one at 0 are given.
func fitting(draw func() uint64, claim uint64, size int, draws []uint64) ([][]uint64, uint64) {
	now := new(big.Int).Mod(toBig(claim), prime)
	rounds := make([][]uint64, len(draws))
	for i, x := range draws {
		v := far(draw, size)
		v[0] = rest(new(big.Int).Sub(now, toBig(v[1])))
		rounds[i], now = v, bigAt(v, x)
	}
	return rounds, rest(now)
}

func TestVerify(t *testing.T) {
	draw := drawer(17)
	for size := 2; size <= api.MaxPoints; size++ {
		for _, n := range []int{0, 1, 2, 3, 8, 9, 40} {
			for _, draws := range drawsFor(n) {
				for _, claim := range []uint64{0, p, p - 1, 1<<64 - 1, draw()} {
					rounds, want := fitting(draw, claim, size, draws)
					y, ok, e := sum.Verify(claim, rounds, draws)
					if y != want || !ok || e != api.OK {
						t.Fatalf("Verify(%d, %v, %v) = %d, %v, %d, not %d", claim, rounds, draws, y, ok, e, want)
					}
				}
			}
		}
	}
}

// Each round is held against what is claimed by then: a value at 0 or 1 that is
// wrong is seen in its own round, one further on in the next.
func TestVerifySeesARoundThatDoesNotFit(t *testing.T) {
	draw := drawer(19)
	for size := 2; size <= api.MaxPoints; size++ {
		draws := far(draw, 5)
		rounds, last := fitting(draw, 12, size, draws)
		for i := range rounds {
			for j := range size {
				wrong := deepCopy(rounds)
				wrong[i][j] ^= 1 << 17
				y, ok, e := sum.Verify(12, wrong, draws)
				if j >= 2 && i == len(rounds)-1 {
					if y == last || !ok || e != api.OK {
						t.Errorf("value %d of the last round: %d, %v, %d", j, y, ok, e)
					}
					continue
				}
				if y != 0 || ok || e != api.OK {
					t.Errorf("value %d of round %d: %d, %v, %d", j, i, y, ok, e)
				}
			}
		}
	}
}

// A wrong polynomial that is right at just the number drawn is not seen: both
// have 8 together at 0 and 1, and meet at 2.
func TestVerifyOfAWrongPolynomialRightAtItsDraw(t *testing.T) {
	right, wrong := []uint64{3, 5, 7}, []uint64{4, 4, 7}
	y, ok, e := sum.Verify(8, [][]uint64{wrong}, []uint64{2})
	if z, _, _ := sum.Verify(8, [][]uint64{right}, []uint64{2}); y != z || y != 7 || !ok || e != api.OK {
		t.Errorf("%d, %v, %d, and %d", y, ok, e, z)
	}
}

func TestVerifyOfNoRounds(t *testing.T) {
	for _, claim := range edges() {
		for _, rounds := range [][][]uint64{nil, {}} {
			for _, draws := range [][]uint64{nil, {}} {
				if y, ok, e := sum.Verify(claim, rounds, draws); y != claim%p || !ok || e != api.OK {
					t.Errorf("Verify(%d) of no rounds: %d, %v, %d", claim, y, ok, e)
				}
			}
		}
	}
}

func TestVerifyErrors(t *testing.T) {
	one, two, three, nine := []uint64{0}, []uint64{0, 0}, []uint64{0, 0, 0}, make([]uint64, 9)
	all := []struct {
		rounds [][]uint64
		draws  int
		want   api.Errno
	}{
		{nil, 1, api.ErrArg},
		{[][]uint64{two}, 0, api.ErrArg},
		{[][]uint64{two}, 2, api.ErrArg},
		{[][]uint64{two, two}, 1, api.ErrArg},
		{[][]uint64{two, two}, 20, api.ErrArg},
		// The count is told first, whatever the rounds are.
		{[][]uint64{nil}, 0, api.ErrArg},
		{[][]uint64{nine, one}, 1, api.ErrArg},
		{[][]uint64{two, three}, 3, api.ErrArg},
		{[][]uint64{nil}, 1, api.ErrForm},
		{[][]uint64{{}}, 1, api.ErrForm},
		{[][]uint64{one}, 1, api.ErrForm},
		{[][]uint64{one, one}, 2, api.ErrForm},
		{[][]uint64{nine}, 1, api.ErrForm},
		{[][]uint64{nine, nine}, 2, api.ErrForm},
		{[][]uint64{make([]uint64, 1<<20)}, 1, api.ErrForm},
		{[][]uint64{two, three}, 2, api.ErrForm},
		{[][]uint64{three, two}, 2, api.ErrForm},
		{[][]uint64{three, three, two}, 3, api.ErrForm},
		{[][]uint64{two, one}, 2, api.ErrForm},
		{[][]uint64{two, two, nil}, 3, api.ErrForm},
		{[][]uint64{two, two, nine}, 3, api.ErrForm},
	}
	for _, c := range all {
		// A claim of 1 doesn't fit the first round; the form is told ahead of that.
		for _, claim := range []uint64{0, 1} {
			y, ok, e := sum.Verify(claim, c.rounds, make([]uint64, c.draws))
			if y != 0 || ok || e != c.want {
				t.Errorf("Verify(%d, %v) with %d draws: %d, %v, %d", claim, c.rounds, c.draws, y, ok, e)
			}
		}
	}
}

// roomy is l, with room behind each list, and that room in full.
func roomy(l [][]uint64) (lists, full [][]uint64) {
	for _, t := range l {
		f := append(slices.Clone(t), 91, p, 1<<64-1)
		lists, full = append(lists, f[:len(t)]), append(full, f)
	}
	behind := append(slices.Clone(lists), []uint64{1}, nil)
	return behind[:len(lists)], full
}

// P2: neither the lists that are handed in nor the room behind them is changed.
func TestArgumentsStay(t *testing.T) {
	for _, l := range factors() {
		draws := drawsFor(varsOf(l))[0]
		// What was never handed in isn't made of rests, and neither are the rounds.
		mine := deepCopy(l)
		rounds, _, _ := sum.Prove(mine, slices.Clone(draws))
		claim, _ := sum.Claim(mine)
		for _, v := range rounds {
			for i := range v {
				v[i] += p
			}
		}
		lists, full := roomy(append(slices.Clone(l), draws))
		told, fullTold := roomy(rounds)
		before, toldBefore := deepCopy(full), deepCopy(fullTold)
		outer, toldOuter := deepCopy(lists[:len(l)+2]), deepCopy(told[:len(rounds)+2])
		sum.Check(lists[:len(l)])
		sum.Claim(lists[:len(l)])
		sum.Round(lists[:len(l)])
		sum.Prove(lists[:len(l)], lists[len(l)])
		sum.Verify(claim, told, lists[len(l)])
		if !same(full, before) || !same(lists[:len(l)+2], outer) {
			t.Fatalf("%v has become %v", before, full)
		}
		if !same(fullTold, toldBefore) || !same(told[:len(rounds)+2], toldOuter) {
			t.Fatalf("%v has become %v", toldBefore, fullTold)
		}
	}
}

// spoil writes over a list and the room behind it.
func spoil(l []uint64) {
	l = l[:cap(l)]
	for i := range l {
		l[i] = 77
	}
}

// P2: who writes into one list of an answer, and into the room behind it,
// changes neither what was handed in, nor another list, nor another answer.
func TestAnswersAreNewMemory(t *testing.T) {
	for _, l := range factors() {
		draws := drawsFor(varsOf(l))[1]
		before, ahead := deepCopy(l), slices.Clone(draws)
		ask := func() [][]uint64 {
			v, _ := sum.Round(l)
			rounds, left, _ := sum.Prove(l, draws)
			// The room behind the rounds is theirs too.
			rounds = rounds[:cap(rounds)]
			return append(append(rounds, left), v)
		}
		first := ask()
		want := deepCopy(first)
		for i := range first {
			answer := ask()
			spoil(answer[i])
			for j, list := range answer {
				if j != i && !slices.Equal(list, want[j]) {
					t.Fatalf("list %d shares with list %d", i, j)
				}
			}
		}
		if !same(l, before) || !slices.Equal(draws, ahead) {
			t.Fatal("an answer shares with what was handed in")
		}
		if !same(first, want) || !same(ask(), want) {
			t.Fatal("an answer shares with another one")
		}
	}
}

// P2: the rounds of an answer lie in a list of their own.
func TestRoundsAreNewMemory(t *testing.T) {
	l, draws := [][]uint64{{1, 2, 3, 4}, {5, 6, 7, 8}}, []uint64{9, 10}
	first, _, _ := sum.Prove(l, draws)
	second, _, _ := sum.Prove(l, draws)
	want := deepCopy(second)
	clear(first[:cap(first)])
	if !same(second, want) || !same(l, [][]uint64{{1, 2, 3, 4}, {5, 6, 7, 8}}) {
		t.Errorf("%v, %v", second, l)
	}
}

// P2: what is answered hangs neither on what was asked ahead of it nor on the
// room behind a list.
func TestAnswersHangOnArgumentsAlone(t *testing.T) {
	ask := func(l [][]uint64, draws []uint64) [][]uint64 {
		n, e1 := sum.Check(l)
		c, e2 := sum.Claim(l)
		v, e3 := sum.Round(l)
		rounds, left, e4 := sum.Prove(l, draws)
		y, ok, e5 := sum.Verify(c, rounds, draws)
		all := []uint64{uint64(n), c, y, uint64(e1), uint64(e2), uint64(e3), uint64(e4), uint64(e5)}
		if ok {
			all = append(all, 1)
		}
		return append(slices.Clone(rounds), left, v, all)
	}
	drawn := func(l [][]uint64) []uint64 {
		if len(l) == 0 {
			return nil
		}
		return drawsFor(varsOf(l))[2]
	}
	all := append(factors(), wrongFactors()...)
	first := make([][][]uint64, len(all))
	for i, l := range all {
		first[i] = ask(l, drawn(l))
	}
	for i, l := range slices.Backward(all) {
		lists, _ := roomy(append(slices.Clone(l), drawn(l)))
		if got := ask(lists[:len(l)], lists[len(l)]); !same(got, first[i]) {
			t.Fatalf("of %v: %v, and %v at first", l, got, first[i])
		}
	}
}
