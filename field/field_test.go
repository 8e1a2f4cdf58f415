package field_test

import (
	"math/big"
	"slices"
	"testing"

	"tallystick/api"
	"tallystick/field"
)

const p = api.P

// edges are the numbers around each multiple of P, and around the powers of 2
// at which the reckoning changes pieces.
func edges() []uint64 {
	l := []uint64{0, 1, 2, 3, 7, 1<<32 - 1, 1 << 32, 1<<60 - 1, 1 << 60, 1 << 61, 1 << 62, 1 << 63, 1<<64 - 1}
	for k := uint64(1); k <= 8; k++ {
		l = append(l, k*p-2, k*p-1, k*p, k*p+1, k*p+2)
	}
	return l
}

// numbers are the edges, and some that lie anywhere among the 64 bits.
func numbers() []uint64 {
	l := edges()
	x := uint64(1)
	for range 60 {
		x = x*6364136223846793005 + 1442695040888963407
		l = append(l, x^x>>29)
	}
	return l
}

func toBig(a uint64) *big.Int { return new(big.Int).SetUint64(a) }

// rest is the reference: what is told of x, reckoned without a bound.
func rest(x *big.Int) uint64 { return new(big.Int).Mod(x, toBig(p)).Uint64() }

func TestNormIsTheRest(t *testing.T) {
	for _, a := range numbers() {
		if got, want := field.Norm(a), a%p; got != want {
			t.Errorf("Norm(%d) = %d, not %d", a, got, want)
		}
	}
}

func TestSumDifferenceProduct(t *testing.T) {
	calls := []struct {
		name string
		got  func(a, b uint64) uint64
		want func(z, x, y *big.Int) *big.Int
	}{
		{"Add", field.Add, (*big.Int).Add},
		{"Sub", field.Sub, (*big.Int).Sub},
		{"Mul", field.Mul, (*big.Int).Mul},
	}
	for _, c := range calls {
		for _, a := range numbers() {
			for _, b := range numbers() {
				want := rest(c.want(new(big.Int), toBig(a), toBig(b)))
				if got := c.got(a, b); got != want {
					t.Fatalf("%s(%d, %d) = %d, not %d", c.name, a, b, got, want)
				}
			}
		}
	}
}

func TestPow(t *testing.T) {
	for _, a := range numbers() {
		for _, n := range numbers() {
			want := new(big.Int).Exp(toBig(a), toBig(n), toBig(p)).Uint64()
			if got := field.Pow(a, n); got != want {
				t.Fatalf("Pow(%d, %d) = %d, not %d", a, n, got, want)
			}
		}
	}
}

func TestPowIsMulOnAndOn(t *testing.T) {
	for _, a := range edges() {
		want := uint64(1)
		for n := range uint64(70) {
			if got := field.Pow(a, n); got != want {
				t.Fatalf("Pow(%d, %d) = %d, not %d", a, n, got, want)
			}
			want = field.Mul(want, a)
		}
	}
}

func TestPowOfNought(t *testing.T) {
	for k := uint64(0); k <= 8; k++ {
		if got := field.Pow(k*p, 0); got != 1 {
			t.Errorf("Pow(%d, 0) = %d, not 1", k*p, got)
		}
		for _, n := range []uint64{1, 2, p - 1, p, 2 * p, 1<<64 - 1} {
			if got := field.Pow(k*p, n); got != 0 {
				t.Errorf("Pow(%d, %d) = %d, not 0", k*p, n, got)
			}
		}
	}
}

func TestPowTakesNAsItIs(t *testing.T) {
	for _, c := range [][3]uint64{{5, p, 5}, {5, p - 1, 1}, {5, p + 1, 25}, {2, 61, 1}, {2, 1<<64 - 1, 1 << 15}} {
		if got := field.Pow(c[0], c[1]); got != c[2] {
			t.Errorf("Pow(%d, %d) = %d, not %d", c[0], c[1], got, c[2])
		}
	}
}

func TestInv(t *testing.T) {
	for _, a := range numbers() {
		if a%p == 0 {
			continue
		}
		x, e := field.Inv(a)
		want := new(big.Int).ModInverse(toBig(a), toBig(p)).Uint64()
		if e != api.OK || x != want {
			t.Errorf("Inv(%d) = %d, %d, not %d", a, x, e, want)
		}
		if got := field.Mul(a, x); got != 1 {
			t.Errorf("%d times its Inv is %d", a, got)
		}
	}
}

func TestInvOfNought(t *testing.T) {
	for k := uint64(0); k <= 8; k++ {
		if x, e := field.Inv(k * p); e != api.ErrArg || x != 0 {
			t.Errorf("Inv(%d) = %d, %d, not 0, ErrArg", k*p, x, e)
		}
	}
}

func TestExamples(t *testing.T) {
	if got := field.Mul(1<<60, 4); got != 2 {
		t.Errorf("2^60 times 4 is %d", got)
	}
	if got, e := field.Inv(2); got != 1<<60 || e != api.OK {
		t.Errorf("Inv(2) = %d, %d", got, e)
	}
}

// answers are those of all calls, for a and b.
func answers(a, b uint64) []uint64 {
	x, e := field.Inv(a)
	return []uint64{field.Norm(a), field.Add(a, b), field.Sub(a, b), field.Mul(a, b), field.Pow(a, b), x, uint64(e)}
}

// P1, P2: every call answers, below P, and the same whatever was asked ahead of it.
func TestAnswersHangOnArgumentsAlone(t *testing.T) {
	l := numbers()
	first := map[[2]uint64][]uint64{}
	for _, a := range l {
		for _, b := range l {
			first[[2]uint64{a, b}] = answers(a, b)
		}
	}
	slices.Reverse(l)
	for _, b := range l {
		for _, a := range l {
			got := answers(a, b)
			if want := first[[2]uint64{a, b}]; !slices.Equal(got, want) {
				t.Fatalf("of %d and %d: %v, and %v at first", a, b, got, want)
			}
			if slices.Max(got) >= p {
				t.Fatalf("of %d and %d: %v, not all below P", a, b, got)
			}
		}
	}
}
