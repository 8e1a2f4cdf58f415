package open_test

import (
	"fmt"
	"math"
	"reflect"
	"slices"
	"testing"

	"tallystick/api"
	"tallystick/field"
	"tallystick/mle"
	"tallystick/open"
	"tallystick/sponge"
	"tallystick/tree"
)

const p = api.P

// drawer gives numbers of 64 bits, the same ones in each run.
func drawer(seed uint64) func() uint64 {
	x := seed
	return func() uint64 {
		x = x*6364136223846793005 + 1442695040888963407
		return x ^ x>>29
	}
}

func far(draw func() uint64, n int) []uint64 {
	l := make([]uint64, n)
	for i := range l {
		l[i] = draw()
	}
	return l
}

// placesFrom are count places from the first one on.
func placesFrom(first, count int) []int {
	l := make([]int, count)
	for i := range l {
		l[i] = first + i
	}
	return l
}

// points are some of n numbers: any, the edges of the table, and of the 64 bits.
func points(draw func() uint64, n int) [][]uint64 {
	all := [][]uint64{far(draw, n), make([]uint64, n)}
	for _, edge := range []uint64{1, 2, p - 1, p, p + 1, 1 << 63, 1<<64 - 1} {
		all = append(all, slices.Repeat([]uint64{edge}, n))
	}
	return all
}

// said is an opening with all that it is looked at by.
type said struct {
	root   uint64
	point  []uint64
	places []int
	o      api.Opening
}

// openUp opens a table, and is what is to be looked at.
func openUp(t *testing.T, table, point []uint64, places []int) said {
	t.Helper()
	o, e := open.Open(table, point, places)
	if e != api.OK {
		t.Fatalf("Open of %d numbers at %v, places %v: error %d", len(table), point, places, e)
	}
	root, e := tree.Root(table)
	if e != api.OK {
		t.Fatalf("Root of %d numbers: error %d", len(table), e)
	}
	return said{root, point, places, o}
}

func (a said) is(t *testing.T, want bool, name string) {
	t.Helper()
	if ok, e := open.Look(a.root, a.point, a.places, a.o); ok != want || e != api.OK {
		t.Fatalf("%s: %v, error %d, and not %v, of %v", name, ok, e, want, a)
	}
}

func (a said) refused(t *testing.T, want api.Errno, name string) {
	t.Helper()
	if ok, e := open.Look(a.root, a.point, a.places, a.o); ok || e != want {
		t.Fatalf("%s: %v, error %d, and not %d", name, ok, e, want)
	}
}

func (a said) copied() said {
	b := said{a.root, slices.Clone(a.point), slices.Clone(a.places), api.Opening{Roots: slices.Clone(a.o.Roots), Value: a.o.Value}}
	for _, l := range a.o.Looks {
		paths := slices.Clone(l.Paths)
		for i, two := range paths {
			paths[i] = [2][]uint64{slices.Clone(two[0]), slices.Clone(two[1])}
		}
		b.o.Looks = append(b.o.Looks, api.Look{Pairs: slices.Clone(l.Pairs), Paths: paths})
	}
	return b
}

// numbersOf are all numbers of an opening, each by its address.
func numbersOf(o *api.Opening) []*uint64 {
	var all []*uint64
	list := func(l []uint64) {
		for i := range l {
			all = append(all, &l[i])
		}
	}
	list(o.Roots)
	all = append(all, &o.Value)
	for _, l := range o.Looks {
		for i := range l.Pairs {
			all = append(all, &l.Pairs[i][0], &l.Pairs[i][1])
		}
		for _, two := range l.Paths {
			list(two[0])
			list(two[1])
		}
	}
	return all
}

func sameOpening(a, b api.Opening) bool {
	if !slices.Equal(a.Roots, b.Roots) || a.Value != b.Value || len(a.Looks) != len(b.Looks) {
		return false
	}
	for k, l := range a.Looks {
		m := b.Looks[k]
		same := slices.EqualFunc(l.Paths, m.Paths, func(x, y [2][]uint64) bool {
			return slices.Equal(x[0], y[0]) && slices.Equal(x[1], y[1])
		})
		if !same || !slices.Equal(l.Pairs, m.Pairs) {
			return false
		}
	}
	return true
}

// chain is a table, and what somebody says that it is folded to: right or not.
type chain [][]uint64

// folded is the chain that is right. Number b of a table that is folded i times
// is the first one's value where the first i variables are the point's, and the
// others b's bits.
func folded(t *testing.T, table, point []uint64) chain {
	t.Helper()
	c := chain{slices.Clone(table)}
	n := len(point)
	for i := 1; i <= n; i++ {
		l := make([]uint64, 1<<(n-i))
		for b := range l {
			at := slices.Clone(point[:i])
			for k := n - i - 1; k >= 0; k-- {
				at = append(at, uint64(b>>k&1))
			}
			v, e := mle.Eval(table, at)
			if e != api.OK {
				t.Fatalf("Eval: error %d", e)
			}
			l[b] = v
		}
		c = append(c, l)
	}
	return c
}

// wholeTree has the root of each part of a table, found by first place and size.
func wholeTree(t []uint64) map[[2]int]uint64 {
	roots := map[[2]int]uint64{}
	for b, x := range t {
		roots[[2]int{b, 1}] = sponge.Pair(x, 0)
	}
	for size := 2; size <= len(t); size *= 2 {
		for b := 0; b < len(t); b += size {
			roots[[2]int{b, size}] = sponge.Pair(roots[[2]int{b, size / 2}], roots[[2]int{b + size/2, size / 2}])
		}
	}
	return roots
}

// besides is the path of place b, from the lowest part on.
func besides(roots map[[2]int]uint64, size, b int) []uint64 {
	path := []uint64{}
	for part := 2; part <= size; part *= 2 {
		first := b - b%part
		if b-first < part/2 {
			first += part / 2
		}
		path = append(path, roots[[2]int{first, part / 2}])
	}
	return path
}

// saidOf is what one would say who has these tables: P19's words, one by one.
func (c chain) saidOf(point []uint64, places []int) said {
	n := len(point)
	a := said{point: point, places: places, o: api.Opening{Value: field.Norm(c[n][0]), Looks: make([]api.Look, len(places))}}
	for i, t := range c {
		roots := wholeTree(t)
		if i == 0 {
			a.root = roots[[2]int{0, len(t)}]
		} else {
			a.o.Roots = append(a.o.Roots, roots[[2]int{0, len(t)}])
		}
		if i == n {
			break
		}
		h := len(t) / 2
		for k, place := range places {
			q := place
			for q >= h {
				q -= h
			}
			l := &a.o.Looks[k]
			l.Pairs = append(l.Pairs, [2]uint64{field.Norm(t[q]), field.Norm(t[q+h])})
			l.Paths = append(l.Paths, [2][]uint64{besides(roots, len(t), q), besides(roots, len(t), q+h)})
		}
	}
	return a
}

// fits tells whether all that is seen from a place is folded rightly.
func (c chain) fits(point []uint64, place int) bool {
	for i, x := range point {
		h := len(c[i]) / 2
		q := place % h
		v := field.Add(field.Mul(field.Sub(1, x), c[i][q]), field.Mul(x, c[i][q+h]))
		if v != field.Norm(c[i+1][q]) {
			return false
		}
	}
	return true
}

func (c chain) copied() chain {
	d := make(chain, len(c))
	for i, t := range c {
		d[i] = slices.Clone(t)
	}
	return d
}

// digest is one number that hangs on all numbers of an opening, in order.
func digest(o api.Opening) uint64 {
	d := uint64(0)
	for _, x := range numbersOf(&o) {
		d = field.Add(field.Mul(d, 1000003), *x)
	}
	return d
}

// Numbers that were reckoned elsewhere, by the chapter's words.
func TestKnownOpenings(t *testing.T) {
	for _, c := range []struct {
		table, point []uint64
		places       []int
		want         api.Opening
	}{
		{[]uint64{3, 5}, []uint64{2}, []int{0}, api.Opening{
			Roots: []uint64{131006950784043113}, Value: 7,
			Looks: []api.Look{{
				Pairs: [][2]uint64{{3, 5}},
				Paths: [][2][]uint64{{{1241750318567840952}, {316514980409096410}}},
			}},
		}},
		{[]uint64{3, 5, 7, 11}, []uint64{2, 3}, []int{1, 0}, api.Opening{
			Roots: []uint64{1750663580091094253, 636593275991773479}, Value: 29,
			Looks: []api.Look{{
				Pairs: [][2]uint64{{5, 11}, {11, 17}},
				Paths: [][2][]uint64{
					{{316514980409096410, 1358288124678976895}, {131006950784043113, 268639401346013531}},
					{{2060542079932588505}, {1288254712088040209}},
				},
			}, {
				Pairs: [][2]uint64{{3, 7}, {11, 17}},
				Paths: [][2][]uint64{
					{{1241750318567840952, 1358288124678976895}, {1288254712088040209, 268639401346013531}},
					{{2060542079932588505}, {1288254712088040209}},
				},
			}},
		}},
		{[]uint64{p - 1, p, p + 1, 1<<64 - 1}, []uint64{p, 1<<64 - 1}, []int{1}, api.Opening{
			Roots: []uint64{847402606294492945, 238733600582287092}, Value: 6,
			Looks: []api.Look{{
				Pairs: [][2]uint64{{0, 7}, {p - 1, 0}},
				Paths: [][2][]uint64{
					{{757774395493352407, 970785682625924639}, {1033227989542011054, 847402606294492945}},
					{{1556104591871305771}, {757774395493352407}},
				},
			}},
		}},
	} {
		a := openUp(t, c.table, c.point, c.places)
		if !sameOpening(a.o, c.want) {
			t.Errorf("Open of %v at %v: %v, not %v", c.table, c.point, a.o, c.want)
		}
		a.is(t, true, "known")
	}
}

// Of greater ones, also reckoned elsewhere, a few numbers, and a digest of all.
func TestKnownGreaterOpenings(t *testing.T) {
	squares := make([]uint64, 8)
	for b := range squares {
		squares[b] = uint64(b * b)
	}
	a := openUp(t, squares, []uint64{5, 6, 7}, []int{3, 2, 0})
	if a.o.Value != 1039 || a.o.Roots[0] != 1798901927640987764 || digest(a.o) != 1566023440014138508 {
		t.Errorf("of squares: %v", a.o)
	}
	if want := [][2]uint64{{9, 49}, {121, 209}, {584, 649}}; !slices.Equal(a.o.Looks[0].Pairs, want) {
		t.Errorf("of squares, place 3: %v, not %v", a.o.Looks[0].Pairs, want)
	}
	great := make([]uint64, 256)
	for b := range great {
		n := uint64(b)
		great[b] = n*n*n*0x9E3779B97F4A7C15 + n
	}
	point := []uint64{p - 1, 1<<64 - 1, 0, 1, 1 << 61, 12345, 1 << 63, p + 7}
	a = openUp(t, great, point, []int{0, 127, 64, 63, 100, 37})
	if a.o.Value != 948275210077176462 || len(numbersOf(&a.o)) != 537 || digest(a.o) != 1442376536035715454 {
		t.Errorf("of 256 numbers: %v", a.o)
	}
	a.is(t, true, "of 256 numbers")
}

// P19, P20: at each place of tables of all sizes, Open tells what the words say,
// and Look holds it.
func TestOpenAndLook(t *testing.T) {
	draw := drawer(3)
	for n := 1; n <= api.MaxVars; n++ {
		table, point := far(draw, 1<<n), far(draw, n)
		c := folded(t, table, point)
		for first := 0; first < 1<<(n-1); first += 32 {
			places := placesFrom(first, min(32, 1<<(n-1)))
			a := openUp(t, table, point, places)
			if want := c.saidOf(point, places); !sameOpening(a.o, want.o) || a.root != want.root {
				t.Fatalf("%d variables: %v, not %v", n, a.o, want.o)
			}
			a.is(t, true, "right")
		}
	}
}

// What is right holds, whatever the point is: its value is told, and all is rests.
func TestRightValuesHold(t *testing.T) {
	draw := drawer(5)
	for n := 1; n <= api.MaxVars; n++ {
		for _, point := range points(draw, n) {
			for _, table := range [][]uint64{far(draw, 1<<n), make([]uint64, 1<<n), slices.Repeat([]uint64{1<<64 - 1}, 1<<n)} {
				a := openUp(t, table, point, []int{int(draw() % (1 << (n - 1)))})
				if want, e := mle.Eval(table, point); e != api.OK || a.o.Value != want {
					t.Fatalf("the value of %v at %v is %d, not %d", table, point, a.o.Value, want)
				}
				for _, x := range numbersOf(&a.o) {
					if *x >= p {
						t.Fatalf("%d is told, of %v at %v", *x, table, point)
					}
				}
				a.is(t, true, "right")
			}
		}
	}
}

// Looks stand in the order of their places, which may be the same ones, too.
func TestOrderOfPlaces(t *testing.T) {
	draw := drawer(7)
	table, point := far(draw, 16), far(draw, 4)
	c := folded(t, table, point)
	for _, places := range [][]int{{0}, {7}, {7, 0}, {0, 7}, {3, 3}, {5, 1, 5, 1, 5}, slices.Repeat([]int{6}, 32), {4, 0, 6, 2, 1, 5, 3, 7}} {
		a := openUp(t, table, point, places)
		if want := c.saidOf(point, places); !sameOpening(a.o, want.o) {
			t.Fatalf("places %v: %v, not %v", places, a.o, want.o)
		}
		a.is(t, true, fmt.Sprint("places ", places))
		b := a.copied()
		slices.Reverse(b.places)
		b.is(t, slices.Equal(b.places, places), fmt.Sprint("the looks of ", places, ", from behind"))
	}
}

// A look fits its own place alone.
func TestLooksOfOtherPlaces(t *testing.T) {
	draw := drawer(11)
	table, point := far(draw, 32), far(draw, 5)
	for one := range 16 {
		a := openUp(t, table, point, []int{one})
		for other := range 16 {
			a.places = []int{other}
			a.is(t, one == other, fmt.Sprintf("the look of %d at %d", one, other))
		}
	}
}

// Each number of an opening counts, in each look.
func TestEachNumberCounts(t *testing.T) {
	draw := drawer(13)
	for n := 1; n <= 4; n++ {
		places := placesFrom(0, 1<<(n-1))
		a := openUp(t, far(draw, 1<<n), far(draw, n), places).copied()
		for k, x := range numbersOf(&a.o) {
			for _, more := range []uint64{1, p - 1, draw()%(p-1) + 1} {
				kept := *x
				*x = field.Add(*x, more)
				a.is(t, false, fmt.Sprintf("number %d of %d variables", k, n))
				*x = kept
			}
		}
		a.is(t, true, "right again")
		for i := range a.point {
			a.point[i]++
			a.is(t, false, fmt.Sprintf("number %d of the point", i))
			a.point[i]--
		}
		a.root++
		a.is(t, false, "another root")
	}
}

// A pair's ends are not the same: what is turned about doesn't hold.
func TestEndsTurnedAbout(t *testing.T) {
	draw := drawer(17)
	for n := 1; n <= 4; n++ {
		a := openUp(t, far(draw, 1<<n), far(draw, n), []int{0, 1<<(n-1) - 1}).copied()
		for _, l := range a.o.Looks {
			for i := range l.Pairs {
				pair, two := l.Pairs[i], l.Paths[i]
				l.Pairs[i] = [2]uint64{pair[1], pair[0]}
				a.is(t, false, "a pair turned about")
				l.Paths[i] = [2][]uint64{two[1], two[0]}
				a.is(t, false, "a pair turned about, with its paths")
				l.Pairs[i] = pair
				a.is(t, false, "paths turned about")
				l.Paths[i] = two
			}
		}
		a.is(t, true, "right again")
	}
}

// holdsWhereFits looks at a chain at each place by itself, and at all together.
func (c chain) holdsWhereFits(t *testing.T, point []uint64, name string) (fit, miss int) {
	t.Helper()
	all := placesFrom(0, 1<<(len(point)-1))
	for _, place := range all {
		fits := c.fits(point, place)
		c.saidOf(point, []int{place}).is(t, fits, fmt.Sprintf("%s, seen from %d", name, place))
		if fits {
			fit++
		} else {
			miss++
		}
	}
	c.saidOf(point, all).is(t, miss == 0, name+", seen from all places")
	return fit, miss
}

// Who has other tables than the right ones, and tells all of them truly, is seen
// where a number that is looked at isn't folded rightly, and only there.
func TestOneWrongNumber(t *testing.T) {
	draw := drawer(19)
	for n := 1; n <= 4; n++ {
		point := far(draw, n)
		right := folded(t, far(draw, 1<<n), point)
		for i := range right {
			for b := range right[i] {
				c := right.copied()
				c[i][b] = field.Add(c[i][b], 1)
				name := fmt.Sprintf("%d variables, number %d of table %d", n, b, i)
				fit, miss := c.holdsWhereFits(t, point, name)
				// A number is looked at from each place that has its rest, and the
				// last one from all.
				if i < n && miss != 1<<i || i == n && fit != 0 {
					t.Fatalf("%s: seen from %d places, and not from %d", name, miss, fit)
				}
			}
		}
	}
}

// One fold alone is wrong: what stands ahead of it is folded rightly, and so is
// what stands behind.
func TestOneWrongFold(t *testing.T) {
	draw := drawer(23)
	for n := 1; n <= 4; n++ {
		point := far(draw, n)
		right, other := folded(t, far(draw, 1<<n), point), folded(t, far(draw, 1<<n), point)
		for i := 1; i <= n; i++ {
			c := append(right.copied()[:i], other.copied()[i:]...)
			if fit, _ := c.holdsWhereFits(t, point, fmt.Sprintf("%d variables, fold %d", n, i)); fit != 0 {
				t.Fatalf("%d variables, fold %d: it fits from %d places", n, i, fit)
			}
		}
	}
}

// A fold is at the point's own number: not at another one of the point's.
func TestPointsTurnedAbout(t *testing.T) {
	draw := drawer(29)
	a := openUp(t, far(draw, 8), far(draw, 3), placesFrom(0, 4))
	for _, order := range [][]int{{0, 2, 1}, {1, 0, 2}, {1, 2, 0}, {2, 0, 1}, {2, 1, 0}} {
		b := a
		b.point = []uint64{a.point[order[0]], a.point[order[1]], a.point[order[2]]}
		b.is(t, false, fmt.Sprint("the point turned about: ", order))
	}
}

// Paths of pairs that fold rightly must lead to the root, both of them, also
// where the number itself doesn't count for the fold.
func TestNumbersThatDontCountForTheFold(t *testing.T) {
	draw := drawer(31)
	for n := 1; n <= 4; n++ {
		for end, x := range []uint64{1, 0} {
			// At 1 the first number has no weight, and at 0 the second one.
			a := openUp(t, far(draw, 1<<n), slices.Repeat([]uint64{x}, n), []int{0}).copied()
			a.o.Looks[0].Pairs[0][end]++
			a.is(t, false, fmt.Sprintf("number %d of the pair", end))
			a.o.Looks[0].Pairs[0][end]--
			a.is(t, true, "right again")
		}
	}
}

// Without places only the last of Roots, and Value, can be held against each other.
func TestNoPlaces(t *testing.T) {
	draw := drawer(37)
	for n := 1; n <= api.MaxVars; n++ {
		for _, places := range [][]int{nil, {}} {
			table := far(draw, 1<<n)
			a := openUp(t, table, far(draw, n), places)
			if want := folded(t, table, a.point).saidOf(a.point, nil); !sameOpening(a.o, want.o) {
				t.Fatalf("%d variables: %v, not %v", n, a.o, want.o)
			}
			a.is(t, true, "no places")
			a.root, a.point = draw(), far(draw, n)
			a.is(t, true, "no places, of another table at another point")
			a.o.Roots = append(far(draw, n-1), a.o.Roots[n-1])
			a.is(t, true, "no places, other roots")
			a.o.Roots[n-1]++
			a.is(t, false, "no places, the last root wrong")
			a.o.Roots[n-1]--
			a.o.Value++
			a.is(t, false, "no places, the value wrong")
			a.o.Roots[n-1] = sponge.Pair(a.o.Value, 0)
			a.is(t, true, "no places, another value, and its root")
		}
	}
}

// Of a number its rest by P is meant, wherever it stands.
func TestRestsAreMeant(t *testing.T) {
	draw := drawer(41)
	for n := 1; n <= 3; n++ {
		few := make([]uint64, 1<<n)
		for i := range few {
			few[i] = draw() % 5
		}
		point := slices.Repeat([]uint64{4}, n)
		a := openUp(t, few, point, placesFrom(0, 1<<(n-1)))
		for k := uint64(1); k <= 7; k++ {
			more := func(l []uint64) []uint64 {
				l = slices.Clone(l)
				for i := range l {
					l[i] += k * p
				}
				return l
			}
			if b := openUp(t, more(few), more(point), a.places); !sameOpening(b.o, a.o) {
				t.Fatalf("%d times P more: %v, not %v", k, b.o, a.o)
			}
			b := a.copied()
			b.point = more(point)
			b.is(t, true, "a point beyond P")
			for _, x := range append(numbersOf(&b.o), &b.root) {
				if *x += k * p; *x < k*p {
					*x -= k * p
				}
				b.is(t, true, "numbers beyond P")
			}
		}
	}
}

// wrongPlaces are lists of places of which a table of n variables hasn't all, or
// that are too many.
func wrongPlaces(n int) [][]int {
	all := [][]int{make([]int, 33), make([]int, 34), make([]int, 1<<16), append(make([]int, 32), 1<<n)}
	for _, place := range []int{math.MinInt, -1 << n, -2, -1, 1 << (n - 1), 1<<(n-1) + 1, 1<<n - 1, 1 << n, 1 << 32, math.MaxInt} {
		if place < 0 || place >= 1<<(n-1) {
			all = append(all, []int{place}, []int{0, place}, []int{place, 0}, append(make([]int, 31), place))
		}
	}
	return all
}

func openRefused(t *testing.T, table, point []uint64, places []int, want api.Errno) {
	t.Helper()
	o, e := open.Open(table, point, places)
	if e != want || len(o.Roots) != 0 || o.Value != 0 || len(o.Looks) != 0 {
		t.Fatalf("Open of %d numbers at %v: %v, error %d, not %d", len(table), point, o, e, want)
	}
}

// What is no table, or has no variable, is told ahead of points and places.
func TestOpenRefusesTables(t *testing.T) {
	tables := [][]uint64{nil, {}, {7}, make([]uint64, 0, 8)}
	for _, n := range []int{3, 5, 6, 7, 9, 12, 100, 255, 257, 258, 384, 511, 512, 513, 1024, 1 << 16} {
		tables = append(tables, make([]uint64, n))
	}
	for _, table := range tables {
		for n := range 11 {
			for _, places := range [][]int{nil, {0}, {-1}, {1, 2, 3}, make([]int, 32), make([]int, 33)} {
				openRefused(t, table, make([]uint64, n), places, api.ErrForm)
			}
		}
	}
}

// Points that have not as many numbers as the table has variables.
func TestOpenRefusesPoints(t *testing.T) {
	for n := 1; n <= api.MaxVars; n++ {
		for _, k := range []int{0, 1, 2, 3, 4, 5, 6, 7, 8, 9, 10, 64, 256, 1000} {
			for _, places := range [][]int{nil, {0}, {-1}, {128}, make([]int, 33)} {
				if k != n {
					openRefused(t, make([]uint64, 1<<n), make([]uint64, k), places, api.ErrArg)
				}
			}
		}
	}
}

// Places are from 0 to half of the table's numbers less 1, and at most 32.
func TestPlacesOutside(t *testing.T) {
	draw := drawer(43)
	for n := 1; n <= api.MaxVars; n++ {
		table, point := far(draw, 1<<n), far(draw, n)
		a := openUp(t, table, point, []int{0})
		for _, places := range wrongPlaces(n) {
			openRefused(t, table, point, places, api.ErrArg)
			// Places are told ahead of the opening's form.
			a.places = places
			a.refused(t, api.ErrArg, fmt.Sprint("places ", places))
			b := said{point: point, places: places}
			b.refused(t, api.ErrArg, "wrong places, and no opening")
			b.o.Looks = slices.Repeat(a.o.Looks, len(places))
			b.o.Roots = a.o.Roots
			b.refused(t, api.ErrArg, "wrong places, and as many looks")
		}
		for _, places := range [][]int{{0}, {1<<(n-1) - 1}, make([]int, 32), append(make([]int, 31), 1<<(n-1)-1)} {
			openUp(t, table, point, places).is(t, true, fmt.Sprint("places ", places))
		}
	}
}

// Points without a number, or with more than 8, are ErrArg, ahead of ErrForm.
func TestLookRefusesPoints(t *testing.T) {
	for _, n := range []int{0, 9, 10, 31, 32, 62, 63, 64, 65, 1000} {
		for _, places := range [][]int{nil, {}, {0}, {-1}, {1 << 20}} {
			a := said{point: make([]uint64, n), places: places}
			a.refused(t, api.ErrArg, "a wrong point, and no opening")
			a.o.Roots = make([]uint64, n)
			for range places {
				l := api.Look{}
				for i := range n {
					l.Pairs = append(l.Pairs, [2]uint64{})
					l.Paths = append(l.Paths, [2][]uint64{make([]uint64, n-i), make([]uint64, n-i)})
				}
				a.o.Looks = append(a.o.Looks, l)
			}
			a.refused(t, api.ErrArg, "a wrong point, and as much in the opening")
		}
	}
}

// badLooks are those of no right form, made from a right one.
func badLooks(l api.Look) map[string]api.Look {
	n := len(l.Pairs)
	all := map[string]api.Look{
		"nothing":           {},
		"no pairs":          {Paths: l.Paths},
		"no paths":          {Pairs: l.Pairs},
		"a pair too few":    {Pairs: l.Pairs[:n-1], Paths: l.Paths},
		"a pair too many":   {Pairs: append(slices.Clone(l.Pairs), l.Pairs[0]), Paths: l.Paths},
		"paths too few":     {Pairs: l.Pairs, Paths: l.Paths[:n-1]},
		"paths too many":    {Pairs: l.Pairs, Paths: append(slices.Clone(l.Paths), l.Paths[0])},
		"empty paths more":  {Pairs: l.Pairs, Paths: append(slices.Clone(l.Paths), [2][]uint64{})},
		"both too few":      {Pairs: l.Pairs[:n-1], Paths: l.Paths[:n-1]},
		"both too many":     {Pairs: append(slices.Clone(l.Pairs), l.Pairs[0]), Paths: append(slices.Clone(l.Paths), l.Paths[0])},
		"thousands of both": {Pairs: slices.Repeat(l.Pairs, 5000), Paths: slices.Repeat(l.Paths, 5000)},
	}
	for i := range n {
		for end := range 2 {
			for _, k := range []int{0, n - i - 1, n - i + 1, n + 1, 1000} {
				if k == n-i {
					continue
				}
				paths := slices.Clone(l.Paths)
				paths[i][end] = make([]uint64, k)
				all[fmt.Sprintf("path %d of pair %d of %d numbers", end, i, k)] = api.Look{Pairs: l.Pairs, Paths: paths}
			}
		}
	}
	return all
}

// badOpenings are those of no right form, made from a right one.
func badOpenings(o api.Opening) map[string]api.Opening {
	n, looks := len(o.Roots), len(o.Looks)
	all := map[string]api.Opening{
		"nothing":            {},
		"no roots":           {Value: o.Value, Looks: o.Looks},
		"a root too few":     {Roots: o.Roots[1:], Value: o.Value, Looks: o.Looks},
		"a root too many":    {Roots: append(slices.Clone(o.Roots), o.Roots[n-1]), Value: o.Value, Looks: o.Looks},
		"thousands of roots": {Roots: slices.Repeat(o.Roots, 5000), Value: o.Value, Looks: o.Looks},
		"no looks":           {Roots: o.Roots, Value: o.Value},
		"a look too few":     {Roots: o.Roots, Value: o.Value, Looks: o.Looks[:looks-1]},
		"a look too many":    {Roots: o.Roots, Value: o.Value, Looks: append(slices.Clone(o.Looks), o.Looks[0])},
		"an empty look more": {Roots: o.Roots, Value: o.Value, Looks: append(slices.Clone(o.Looks), api.Look{})},
		"thousands of looks": {Roots: o.Roots, Value: o.Value, Looks: slices.Repeat(o.Looks, 5000)},
	}
	for k, l := range o.Looks {
		for name, bad := range badLooks(l) {
			looks := slices.Clone(o.Looks)
			looks[k] = bad
			all[fmt.Sprintf("%s, look %d", name, k)] = api.Opening{Roots: o.Roots, Value: o.Value, Looks: looks}
		}
	}
	return all
}

// P20: an opening of another form is ErrForm, whether or not its numbers hold.
func TestLookRefusesOtherForms(t *testing.T) {
	draw := drawer(47)
	for n := 1; n <= api.MaxVars; n++ {
		a := openUp(t, far(draw, 1<<n), far(draw, n), []int{1<<(n-1) - 1, 0, 0})
		for name, bad := range badOpenings(a.o) {
			b := a
			b.o = bad
			b.refused(t, api.ErrForm, name)
			b.root, b.o.Value = draw(), draw()
			b.refused(t, api.ErrForm, name+", and wrong numbers")
		}
		b := a
		b.places = nil
		b.refused(t, api.ErrForm, "looks without places")
	}
}

// An opening of one size is none of another.
func TestOpeningsOfOtherSizes(t *testing.T) {
	draw := drawer(53)
	for n := 1; n <= api.MaxVars; n++ {
		a := openUp(t, far(draw, 1<<n), far(draw, n), []int{0})
		for k := 1; k <= api.MaxVars; k++ {
			b := a
			b.point = far(draw, k)
			if k != n {
				b.refused(t, api.ErrForm, fmt.Sprintf("%d variables, a point of %d", n, k))
			} else {
				b.is(t, false, "another point")
			}
		}
	}
}

// roomy is l, with room behind it in which something stands.
func roomy[T any](l []T, behind T) []T {
	return append(append(make([]T, 0, len(l)+3), l...), behind)[:len(l)]
}

func (a said) roomy() said {
	b := a.copied()
	b.point, b.places = roomy(b.point, 91), roomy(b.places, 92)
	b.o.Roots = roomy(b.o.Roots, 93)
	for k, l := range b.o.Looks {
		for i, two := range l.Paths {
			l.Paths[i] = [2][]uint64{roomy(two[0], 94), roomy(two[1], 95)}
		}
		b.o.Looks[k] = api.Look{Pairs: roomy(l.Pairs, [2]uint64{96, 97}), Paths: roomy(l.Paths, [2][]uint64{{98}, {99}})}
	}
	b.o.Looks = roomy(b.o.Looks, api.Look{Pairs: [][2]uint64{{100, 101}}})
	return b
}

// whole is what is said, copied, with the room behind its lists as parts of them.
func (a said) whole() said {
	a.point, a.places = a.point[:cap(a.point)], a.places[:cap(a.places)]
	a.o.Roots, a.o.Looks = a.o.Roots[:cap(a.o.Roots)], slices.Clone(a.o.Looks[:cap(a.o.Looks)])
	for k, l := range a.o.Looks {
		paths := slices.Clone(l.Paths[:cap(l.Paths)])
		for i, two := range paths {
			paths[i] = [2][]uint64{two[0][:cap(two[0])], two[1][:cap(two[1])]}
		}
		a.o.Looks[k] = api.Look{Pairs: l.Pairs[:cap(l.Pairs)], Paths: paths}
	}
	return a.copied()
}

// some are openings of each size, with places twice and without.
func some(t *testing.T) (tables [][]uint64, all []said) {
	draw := drawer(59)
	for n := 1; n <= api.MaxVars; n++ {
		for _, places := range [][]int{nil, {0, 1<<(n-1) - 1, 0}} {
			table := far(draw, 1<<n)
			tables = append(tables, table)
			all = append(all, openUp(t, table, far(draw, n), places))
		}
	}
	return tables, all
}

// P2: neither what is handed in nor the room behind it is changed, and it is not
// seen in an answer.
func TestArgumentsStay(t *testing.T) {
	tables, all := some(t)
	for k, a := range all {
		table, b := roomy(tables[k], 77), a.roomy()
		for _, x := range append(numbersOf(&b.o), &b.root) {
			*x += p
		}
		before, tableBefore := b.whole(), slices.Clone(table[:cap(table)])
		if again := openUp(t, table, b.point, b.places); !sameOpening(again.o, a.o) {
			t.Fatalf("with room behind its lists: %v, not %v", again.o, a.o)
		}
		b.is(t, true, "with room behind its lists")
		b.o.Value++
		b.is(t, false, "with room behind its lists, one more")
		b.o.Value--
		if !reflect.DeepEqual(b.whole(), before) || !slices.Equal(table[:cap(table)], tableBefore) {
			t.Fatalf("%v has become %v", before, b.whole())
		}
	}
}

// numberLists are the lists of numbers of an opening.
func numberLists(o api.Opening) [][]uint64 {
	lists := [][]uint64{o.Roots}
	for _, l := range o.Looks {
		for _, two := range l.Paths {
			lists = append(lists, two[0], two[1])
		}
	}
	return lists
}

// P2: no list of an answer shares memory, its spare room included, with another
// or with what was handed in.
func TestAnswersAreNewMemory(t *testing.T) {
	tables, all := some(t)
	for k, a := range all {
		table, b := roomy(tables[k], 77), a.roomy()
		before, tableBefore := b.whole(), slices.Clone(table[:cap(table)])
		mine := openUp(t, table, b.point, b.places)
		lists := numberLists(mine.o)
		for i, l := range lists {
			for j := range l[:cap(l)] {
				l[:cap(l)][j] = uint64(1000 + i)
			}
		}
		for i, l := range lists {
			if slices.ContainsFunc(l, func(x uint64) bool { return x != uint64(1000+i) }) {
				t.Fatalf("list %d of %d numbers shares memory with another", i, len(table))
			}
		}
		for i, l := range mine.o.Looks {
			for j := range l.Pairs[:cap(l.Pairs)] {
				l.Pairs[:cap(l.Pairs)][j] = [2]uint64{uint64(i), uint64(i)}
			}
		}
		for i, l := range mine.o.Looks {
			if l.Pairs[0][0] != uint64(i) || l.Paths[0][0] == nil {
				t.Fatalf("look %d of %d numbers shares memory with another", i, len(table))
			}
			clear(l.Paths[:cap(l.Paths)])
		}
		clear(mine.o.Looks[:cap(mine.o.Looks)])
		if !reflect.DeepEqual(b.whole(), before) || !slices.Equal(table[:cap(table)], tableBefore) {
			t.Fatalf("an opening of %d numbers shares memory with what was handed in", len(table))
		}
	}
}

// P2: an answer doesn't hang on what was asked ahead of it, or on what becomes of
// a list that was handed in or answered.
func TestAnswersHangOnArgumentsAlone(t *testing.T) {
	tables, all := some(t)
	for k, a := range slices.Backward(all) {
		table, b := slices.Clone(tables[k]), a.copied()
		first := openUp(t, table, b.point, b.places)
		want := first.copied()
		b.is(t, true, "again")
		for i := range table {
			table[i] = 77
		}
		for i := range b.point {
			b.point[i] = 78
		}
		for i := range b.places {
			b.places[i] = 0
		}
		for _, x := range numbersOf(&b.o) {
			*x = 79
		}
		if !sameOpening(first.o, a.o) || !sameOpening(want.o, a.o) {
			t.Fatalf("of %d numbers: %v, and %v at first", len(table), first.o, a.o)
		}
		a.is(t, true, "again, and others changed")
	}
}

// Lists that share memory are lists like others: of one number at all places,
// one path does for both ends and for all looks.
func TestListsThatShare(t *testing.T) {
	draw := drawer(61)
	for n := 1; n <= api.MaxVars; n++ {
		table := slices.Repeat([]uint64{9}, 1<<n)
		a := openUp(t, table, table[:n], []int{0, 1<<(n-1) - 1, 0})
		path, look := a.o.Looks[0].Paths[0][0], api.Look{}
		for i := range n {
			look.Pairs = append(look.Pairs, [2]uint64{9, 9})
			look.Paths = append(look.Paths, [2][]uint64{path[:n-i], path[:n-i]})
		}
		b := a
		b.o.Looks = []api.Look{look, look, look}
		b.is(t, true, "one look for all")
		if !sameOpening(a.o, b.o) {
			t.Fatalf("of one number: %v, not %v", a.o, b.o)
		}
		b.point = far(draw, n)
		b.is(t, true, "of one number, at any point")
		b.point = b.o.Roots
		b.is(t, true, "the roots as a point")
	}
}
