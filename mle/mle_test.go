package mle_test

import (
	"math/big"
	"slices"
	"testing"

	"tallystick/api"
	"tallystick/mle"
)

const p = api.P

var prime = new(big.Int).SetUint64(p)

func toBig(a uint64) *big.Int { return new(big.Int).SetUint64(a) }

func rest(x *big.Int) uint64 { return new(big.Int).Mod(x, prime).Uint64() }

// edges are numbers around the multiples of P, and the ends of the 64 bits.
func edges() []uint64 {
	l := []uint64{0, 1, 2, 3, 1 << 32, 1 << 60, 1 << 61, 1 << 63, 1<<64 - 1}
	for k := uint64(1); k <= 8; k++ {
		l = append(l, k*p-1, k*p, k*p+1)
	}
	return l
}

// drawer gives numbers of 64 bits, the same ones in each run.
func drawer(seed uint64) func() uint64 {
	x := seed
	return func() uint64 {
		x = x*6364136223846793005 + 1442695040888963407
		return x ^ x>>29
	}
}

// numbers are two lists of n numbers: anywhere among the 64 bits, and edges.
func numbers(draw func() uint64, n int) [][]uint64 {
	around := edges()
	far, edge := make([]uint64, n), make([]uint64, n)
	for i := range n {
		far[i] = draw()
		edge[i] = around[draw()%uint64(len(around))]
	}
	return [][]uint64{far, edge}
}

// tables are some of each size that is right.
func tables() [][]uint64 {
	draw := drawer(3)
	var l [][]uint64
	for n := range api.MaxVars + 1 {
		for _, y := range []uint64{0, 1, p - 1, p, 1<<64 - 1} {
			l = append(l, slices.Repeat([]uint64{y}, 1<<n))
		}
		for range 3 {
			l = append(l, numbers(draw, 1<<n)...)
		}
	}
	return l
}

// points are some of n numbers.
func points(n int) [][]uint64 {
	draw := drawer(uint64(7 + n))
	l := [][]uint64{make([]uint64, n), slices.Repeat([]uint64{1}, n), slices.Repeat([]uint64{1<<64 - 1}, n)}
	for range 4 {
		l = append(l, numbers(draw, n)...)
	}
	return l
}

// varsOf is the reference for how many variables a right table has.
func varsOf(t []uint64) int {
	n := 0
	for 1<<n < len(t) {
		n++
	}
	return n
}

// weight is what P6 says stands at b in the table of a point.
func weight(point []uint64, b int) *big.Int {
	w := big.NewInt(1)
	for i, x := range point {
		factor := toBig(x)
		if b>>(len(point)-1-i)&1 == 0 {
			factor.Sub(big.NewInt(1), factor)
		}
		w.Mod(w.Mul(w, factor), prime)
	}
	return w
}

// valueAt is the reference: the sum of the numbers, each times its weight.
func valueAt(t []uint64, point []uint64) uint64 {
	sum := new(big.Int)
	for b, y := range t {
		sum.Add(sum, new(big.Int).Mul(toBig(y), weight(point, b)))
	}
	return rest(sum)
}

func TestExamples(t *testing.T) {
	if y, e := mle.Eval([]uint64{3, 5}, []uint64{2}); y != 7 || e != api.OK {
		t.Errorf("Eval of 3, 5 at 2: %d, %d", y, e)
	}
	// Which variable is the first: 3, 5 where it is 0, 7, 11 where it is 1.
	table := []uint64{3, 5, 7, 11}
	if y, e := mle.Eval(table, []uint64{1, 0}); y != 7 || e != api.OK {
		t.Errorf("Eval(%v, [1 0]) = %d, %d", table, y, e)
	}
	if f, e := mle.Fix(table, 1); !slices.Equal(f, []uint64{7, 11}) || e != api.OK {
		t.Errorf("Fix(%v, 1) = %v, %d", table, f, e)
	}
	if q, e := mle.Eq([]uint64{5, 3}); !slices.Equal(q, []uint64{8, p - 12, p - 10, 15}) || e != api.OK {
		t.Errorf("Eq([5 3]) = %v, %d", q, e)
	}
}

// P5 and P6: of each length up to beyond twice the greatest, each call says by
// the length alone whether the list is a table.
func TestLengths(t *testing.T) {
	right := map[int]int{1: 0, 2: 1, 4: 2, 8: 3, 16: 4, 32: 5, 64: 6, 128: 7, 256: 8}
	for size := range 1030 {
		l := slices.Repeat([]uint64{3}, size)
		vars, ok := right[size]
		want := api.ErrForm
		if ok {
			want = api.OK
		}
		if n, e := mle.Vars(l); n != vars || e != want {
			t.Errorf("Vars of %d numbers: %d, %d", size, n, e)
		}
		if s, e := mle.Sum(l); e != want || ok && s != uint64(3*size) || !ok && s != 0 {
			t.Errorf("Sum of %d numbers: %d, %d", size, s, e)
		}
		if y, e := mle.Eval(l, make([]uint64, vars)); e != want || ok && y != 3 || !ok && y != 0 {
			t.Errorf("Eval of %d numbers: %d, %d", size, y, e)
		}
		f, e := mle.Fix(l, 9)
		if size == 1 {
			want = api.ErrForm
		}
		if e != want || e != api.OK && f != nil || e == api.OK && !slices.Equal(f, l[:size/2]) {
			t.Errorf("Fix of %d numbers: %v, %d", size, f, e)
		}
	}
}

func TestNoTable(t *testing.T) {
	for _, l := range [][]uint64{nil, {}, make([]uint64, 0, 4), make([]uint64, 1<<20)} {
		if n, e := mle.Vars(l); n != 0 || e != api.ErrForm {
			t.Errorf("Vars of %d numbers: %d, %d", len(l), n, e)
		}
		if s, e := mle.Sum(l); s != 0 || e != api.ErrForm {
			t.Errorf("Sum of %d numbers: %d, %d", len(l), s, e)
		}
		if f, e := mle.Fix(l, 1); f != nil || e != api.ErrForm {
			t.Errorf("Fix of %d numbers: %v, %d", len(l), f, e)
		}
		// Vars' error is told first, so it is the answer where the point is wrong too.
		for _, point := range [][]uint64{nil, {1}, make([]uint64, 9), make([]uint64, 20)} {
			if y, e := mle.Eval(l, point); y != 0 || e != api.ErrForm {
				t.Errorf("Eval of %d numbers at %d: %d, %d", len(l), len(point), y, e)
			}
		}
	}
}

func TestSum(t *testing.T) {
	for _, l := range tables() {
		sum := new(big.Int)
		for _, y := range l {
			sum.Add(sum, toBig(y))
		}
		if s, e := mle.Sum(l); s != rest(sum) || e != api.OK {
			t.Fatalf("Sum(%v) = %d, %d, not %d", l, s, e, rest(sum))
		}
	}
}

func TestFix(t *testing.T) {
	asked := append(edges(), 1<<62+12345, 987654321987654321)
	for _, l := range tables() {
		if len(l) == 1 {
			continue
		}
		low, high := l[:len(l)/2], l[len(l)/2:]
		for _, x := range asked {
			f, e := mle.Fix(l, x)
			if e != api.OK || len(f) != len(l)/2 {
				t.Fatalf("Fix(%v, %d) = %v, %d", l, x, f, e)
			}
			for b, y := range f {
				want := new(big.Int).Mul(toBig(low[b]), new(big.Int).Sub(big.NewInt(1), toBig(x)))
				want.Add(want, new(big.Int).Mul(toBig(high[b]), toBig(x)))
				if y != rest(want) {
					t.Fatalf("Fix(%v, %d) is %d at %d, not %d", l, x, y, b, rest(want))
				}
			}
		}
	}
}

func TestFixOfNoVariable(t *testing.T) {
	for _, x := range edges() {
		if f, e := mle.Fix([]uint64{x}, 1); f != nil || e != api.ErrForm {
			t.Errorf("Fix([%d], 1) = %v, %d", x, f, e)
		}
	}
}

func TestEvalAtItsPlacesIsItsNumbers(t *testing.T) {
	for _, l := range tables() {
		n := varsOf(l)
		for b, want := range l {
			point := make([]uint64, n)
			for i := range point {
				point[i] = uint64(b >> (n - 1 - i) & 1)
			}
			if y, e := mle.Eval(l, point); y != want%p || e != api.OK {
				t.Fatalf("Eval(%v, %v) = %d, %d", l, point, y, e)
			}
		}
	}
}

func TestEvalBetween(t *testing.T) {
	for _, l := range tables() {
		for _, point := range points(varsOf(l)) {
			y, e := mle.Eval(l, point)
			if want := valueAt(l, point); y != want || e != api.OK {
				t.Fatalf("Eval(%v, %v) = %d, %d, not %d", l, point, y, e, want)
			}
		}
	}
}

func TestEvalNeedsAsManyNumbersAsVariables(t *testing.T) {
	for _, l := range tables() {
		for n := range 12 {
			y, e := mle.Eval(l, slices.Repeat([]uint64{5}, n))
			if n != varsOf(l) && (y != 0 || e != api.ErrArg) || n == varsOf(l) && e != api.OK {
				t.Errorf("Eval of %d numbers at %d: %d, %d", len(l), n, y, e)
			}
		}
	}
}

func TestEq(t *testing.T) {
	for n := range api.MaxVars + 1 {
		for _, point := range points(n) {
			q, e := mle.Eq(point)
			if e != api.OK || len(q) != 1<<n {
				t.Fatalf("Eq(%v) = %v, %d", point, q, e)
			}
			for b, y := range q {
				if want := rest(weight(point, b)); y != want {
					t.Fatalf("Eq(%v) is %d at %d, not %d", point, y, b, want)
				}
			}
		}
	}
}

func TestEqEdges(t *testing.T) {
	for _, point := range [][]uint64{nil, {}} {
		if q, e := mle.Eq(point); !slices.Equal(q, []uint64{1}) || e != api.OK {
			t.Errorf("Eq of no numbers: %v, %d", q, e)
		}
	}
	for _, n := range []int{9, 10, 63, 64, 65, 1000, 1 << 20} {
		if q, e := mle.Eq(make([]uint64, n)); q != nil || e != api.ErrArg {
			t.Errorf("Eq of %d numbers: %v, %d", n, q, e)
		}
	}
}

// P2: neither the lists that are handed in nor the room behind them is changed.
func TestArgumentsStay(t *testing.T) {
	for _, l := range tables() {
		point := points(varsOf(l))[3]
		room := append(slices.Clone(l), 91, p, 1<<64-1)
		behind := append(slices.Clone(point), 92, p, 1<<64-1)
		before, ahead := slices.Clone(room), slices.Clone(behind)
		mle.Vars(room[:len(l)])
		mle.Sum(room[:len(l)])
		mle.Fix(room[:len(l)], 1<<64-1)
		mle.Eval(room[:len(l)], behind[:len(point)])
		mle.Eq(behind[:len(point)])
		if !slices.Equal(room, before) || !slices.Equal(behind, ahead) {
			t.Fatalf("%v has become %v, %v has become %v", before, room, ahead, behind)
		}
	}
}

// spoil writes over an answer and the room behind it.
func spoil(l []uint64) {
	l = l[:cap(l)]
	for i := range l {
		l[i] = 77
	}
}

// P2: who writes into an answer, and into the room behind it, changes neither
// what was handed in nor another answer.
func TestAnswersAreNewMemory(t *testing.T) {
	for _, l := range tables() {
		point := points(varsOf(l))[3]
		for name, ask := range map[string]func() []uint64{
			"Fix at 0": func() []uint64 { f, _ := mle.Fix(l, 0); return f },
			"Fix at 1": func() []uint64 { f, _ := mle.Fix(l, 1); return f },
			"Eq":       func() []uint64 { q, _ := mle.Eq(point); return q },
		} {
			before, ahead := slices.Clone(l), slices.Clone(point)
			first, second := ask(), ask()
			kept := slices.Clone(second)
			spoil(first)
			if !slices.Equal(l, before) || !slices.Equal(point, ahead) {
				t.Fatalf("%s shares with what was handed in", name)
			}
			if third := ask(); !slices.Equal(second, kept) || !slices.Equal(third, kept) {
				t.Fatalf("%s: %v, %v, and at first %v", name, second, third, kept)
			}
		}
	}
}

// P2: what is answered hangs neither on what was asked ahead of it nor on the
// room behind a list.
func TestAnswersHangOnArgumentsAlone(t *testing.T) {
	ask := func(l, point []uint64) []uint64 {
		n, e1 := mle.Vars(l)
		s, e2 := mle.Sum(l)
		f, e3 := mle.Fix(l, 1<<63+9)
		y, e4 := mle.Eval(l, point)
		q, e5 := mle.Eq(point)
		all := append(slices.Concat(f, q), uint64(n), s, y)
		return append(all, uint64(e1), uint64(e2), uint64(e3), uint64(e4), uint64(e5))
	}
	l := append(tables(), nil, make([]uint64, 3), make([]uint64, 257))
	roomy := func(a []uint64) []uint64 { return append(make([]uint64, 0, 600), a...) }
	first := make([][]uint64, len(l))
	for i, table := range l {
		first[i] = ask(table, points(varsOf(table))[4])
	}
	for i, table := range slices.Backward(l) {
		got := ask(roomy(table), roomy(points(varsOf(table))[4]))
		if !slices.Equal(got, first[i]) {
			t.Fatalf("of %v: %v, and %v at first", table, got, first[i])
		}
	}
}
