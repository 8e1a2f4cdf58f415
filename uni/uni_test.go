package uni_test

import (
	"math/big"
	"slices"
	"testing"

	"tallystick/api"
	"tallystick/uni"
)

const p = api.P

var prime = new(big.Int).SetUint64(p)

func toBig(a uint64) *big.Int { return new(big.Int).SetUint64(a) }

func rest(x *big.Int) uint64 { return new(big.Int).Mod(x, prime).Uint64() }

// edges are numbers around the multiples of P, and the ends of the 64 bits.
func edges() []uint64 {
	l := []uint64{0, 1, 2, 3, 6, 7, 8, 9, 1 << 32, 1 << 60, 1 << 61, 1 << 63, 1<<64 - 1}
	for k := uint64(1); k <= 8; k++ {
		l = append(l, k*p-1, k*p, k*p+1)
	}
	return l
}

// drawer gives numbers of 64 bits, the same ones in each run.
func drawer(seed uint64) func() uint64 {
	x := seed
	return func() uint64 {
		x = x*6364136223846793005 + 1442695040888963407
		return x ^ x>>29
	}
}

// lists are some of each length that is right: of one number, of edges, and
// of numbers that lie anywhere among the 64 bits.
func lists() [][]uint64 {
	draw := drawer(5)
	around := edges()
	var l [][]uint64
	for n := 1; n <= api.MaxPoints; n++ {
		for _, y := range []uint64{0, 1, p - 1, p, 1<<64 - 1} {
			l = append(l, slices.Repeat([]uint64{y}, n))
		}
		for at := range n {
			one := make([]uint64, n)
			one[at] = 1
			l = append(l, one)
		}
		for range 20 {
			far, edge := make([]uint64, n), make([]uint64, n)
			for i := range n {
				far[i] = draw()
				edge[i] = around[draw()%uint64(len(around))]
			}
			l = append(l, far, edge)
		}
	}
	return l
}

// points are where a polynomial is asked for its value.
func points() []uint64 {
	draw := drawer(11)
	l := edges()
	for range 10 {
		l = append(l, draw())
	}
	return l
}

// lagrange is the reference: the sum of v[i] times the product of (x-j)/(i-j).
func lagrange(v []uint64, x uint64) uint64 {
	sum := new(big.Int)
	for i, y := range v {
		above, below := toBig(y), big.NewInt(1)
		for j := range v {
			if j != i {
				above.Mul(above, new(big.Int).Sub(toBig(x), big.NewInt(int64(j))))
				below.Mul(below, big.NewInt(int64(i-j)))
			}
		}
		sum.Add(sum, above.Mul(above, new(big.Int).ModInverse(below.Mod(below, prime), prime)))
	}
	return rest(sum)
}

// valueOf is what the polynomial of the coefficients c is at x.
func valueOf(c []uint64, x uint64) uint64 {
	y := new(big.Int)
	for k, a := range c {
		power := new(big.Int).Exp(toBig(x), big.NewInt(int64(k)), prime)
		y.Add(y, power.Mul(power, toBig(a)))
	}
	return rest(y)
}

func TestExamples(t *testing.T) {
	v := []uint64{1, 2, 5}
	if y, e := uni.At(v, 3); y != 10 || e != api.OK {
		t.Errorf("At(%v, 3) = %d, %d", v, y, e)
	}
	if c, e := uni.Coefs(v); !slices.Equal(c, []uint64{1, 0, 1}) || e != api.OK {
		t.Errorf("Coefs(%v) = %v, %d", v, c, e)
	}
}

func TestLengths(t *testing.T) {
	for n := range 40 {
		v := slices.Repeat([]uint64{3}, n)
		want := api.ErrForm
		if n >= 1 && n <= 8 {
			want = api.OK
		}
		if e := uni.Check(v); e != want {
			t.Errorf("Check of %d values: %d, not %d", n, e, want)
		}
		y, e := uni.At(v, 5)
		if e != want || want != api.OK && y != 0 || want == api.OK && y != 3 {
			t.Errorf("At of %d values: %d, %d", n, y, e)
		}
		c, e := uni.Coefs(v)
		if e != want || want != api.OK && c != nil || want == api.OK && len(c) != n {
			t.Errorf("Coefs of %d values: %v, %d", n, c, e)
		}
	}
}

func TestNoList(t *testing.T) {
	for _, v := range [][]uint64{nil, {}, make([]uint64, 0, 8), make([]uint64, 1<<20)} {
		if e := uni.Check(v); e != api.ErrForm {
			t.Errorf("Check of %d values: %d", len(v), e)
		}
		if y, e := uni.At(v, 0); y != 0 || e != api.ErrForm {
			t.Errorf("At of %d values: %d, %d", len(v), y, e)
		}
		if c, e := uni.Coefs(v); c != nil || e != api.ErrForm {
			t.Errorf("Coefs of %d values: %v, %d", len(v), c, e)
		}
	}
}

func TestAtItsPlacesIsItsValues(t *testing.T) {
	for _, v := range lists() {
		for x, want := range v {
			if y, e := uni.At(v, uint64(x)); y != want%p || e != api.OK {
				t.Fatalf("At(%v, %d) = %d, %d", v, x, y, e)
			}
		}
	}
}

func TestAtBetween(t *testing.T) {
	for _, v := range lists() {
		for _, x := range points() {
			y, e := uni.At(v, x)
			if want := lagrange(v, x); y != want || e != api.OK {
				t.Fatalf("At(%v, %d) = %d, %d, not %d", v, x, y, e, want)
			}
		}
	}
}

// There is one polynomial of so few coefficients with these values, so having
// them is being it.
func TestCoefsHaveTheValues(t *testing.T) {
	for _, v := range lists() {
		c, e := uni.Coefs(v)
		if e != api.OK || len(c) != len(v) || slices.Max(c) >= p {
			t.Fatalf("Coefs(%v) = %v, %d", v, c, e)
		}
		for x, want := range v {
			if y := valueOf(c, uint64(x)); y != want%p {
				t.Fatalf("Coefs(%v) = %v, which is %d at %d", v, c, y, x)
			}
		}
	}
}

func TestCoefsComeBack(t *testing.T) {
	draw := drawer(17)
	for n := 1; n <= api.MaxPoints; n++ {
		for used := range n + 1 {
			want, v := make([]uint64, n), make([]uint64, n)
			for k := range used {
				want[k] = draw() % p
			}
			for x := range v {
				v[x] = valueOf(want, uint64(x))
			}
			c, e := uni.Coefs(v)
			if e != api.OK || !slices.Equal(c, want) {
				t.Errorf("Coefs(%v) = %v, %d, not %v", v, c, e, want)
			}
		}
	}
}

// P2: neither the list that is handed in nor the room behind it is changed.
func TestArgumentsStay(t *testing.T) {
	for _, v := range lists() {
		room := append(slices.Clone(v), 91, 92, 93, p, 1<<64-1)
		before := slices.Clone(room)
		uni.Check(room[:len(v)])
		uni.At(room[:len(v)], 1<<64-1)
		uni.Coefs(room[:len(v)])
		if !slices.Equal(room, before) {
			t.Fatalf("%v has become %v", before, room)
		}
	}
}

// P2: who writes into an answer, and into the room behind it, changes neither
// what was handed in nor another answer.
func TestAnswersAreNewMemory(t *testing.T) {
	for _, v := range lists() {
		before := slices.Clone(v)
		first, _ := uni.Coefs(v)
		second, _ := uni.Coefs(v)
		kept := slices.Clone(second)
		for i := range first[:cap(first)] {
			first[:cap(first)][i] = 77
		}
		third, _ := uni.Coefs(v)
		if !slices.Equal(v, before) || !slices.Equal(second, kept) || !slices.Equal(third, kept) {
			t.Fatalf("of %v: %v, %v, and at first %v", v, second, third, kept)
		}
	}
}

// P2: what is answered hangs neither on what was asked ahead of it nor on the
// room behind a list.
func TestAnswersHangOnArgumentsAlone(t *testing.T) {
	l := lists()
	ask := func(v []uint64) []uint64 {
		c, e := uni.Coefs(v)
		y, f := uni.At(v, 1<<63+9)
		return append(c, uint64(e), y, uint64(f), uint64(uni.Check(v)))
	}
	first := make([][]uint64, len(l))
	for i, v := range l {
		first[i] = ask(v)
	}
	for i, v := range slices.Backward(l) {
		roomy := append(make([]uint64, 0, 50), v...)
		if got := ask(roomy); !slices.Equal(got, first[i]) {
			t.Fatalf("of %v: %v, and %v at first", v, got, first[i])
		}
	}
}
