package tree_test

import (
	"math"
	"slices"
	"testing"

	"tallystick/api"
	"tallystick/mle"
	"tallystick/sponge"
	"tallystick/tree"
)

const p = api.P

// drawer gives numbers of 64 bits, the same ones in each run.
func drawer(seed uint64) func() uint64 {
	x := seed
	return func() uint64 {
		x = x*6364136223846793005 + 1442695040888963407
		return x ^ x>>29
	}
}

func far(draw func() uint64, n int) []uint64 {
	l := make([]uint64, n)
	for i := range l {
		l[i] = draw()
	}
	return l
}

// countTo is the list of n numbers from 0 on.
func countTo(n int) []uint64 {
	l := make([]uint64, n)
	for i := range l {
		l[i] = uint64(i)
	}
	return l
}

// tables are some of each size: of any numbers, of one number, and of edges.
func tables() [][]uint64 {
	draw := drawer(17)
	var all [][]uint64
	for n := range api.MaxVars + 1 {
		all = append(all, far(draw, 1<<n), make([]uint64, 1<<n), slices.Repeat([]uint64{1<<64 - 1}, 1<<n))
	}
	return append(all, []uint64{p}, []uint64{p - 1, p}, []uint64{p + 1, 1 << 63, 8 * p, 1<<64 - 1})
}

// noTables are lists of lengths that no table has.
func noTables() [][]uint64 {
	all := [][]uint64{nil, {}, make([]uint64, 0, 8)}
	for _, n := range []int{3, 5, 6, 7, 9, 12, 100, 255, 257, 258, 384, 511, 512, 513, 1024, 1 << 16} {
		all = append(all, make([]uint64, n))
	}
	return all
}

// wantRoot goes down to the leaves by halves.
func wantRoot(t []uint64) uint64 {
	if len(t) == 1 {
		return sponge.Pair(t[0], 0)
	}
	half := len(t) / 2
	return sponge.Pair(wantRoot(t[:half]), wantRoot(t[half:]))
}

// wantPath has the half beside the place last, and ahead of it the path within
// the half that has it.
func wantPath(t []uint64, i int) []uint64 {
	if len(t) == 1 {
		return nil
	}
	half := len(t) / 2
	if i < half {
		return append(wantPath(t[:half], i), wantRoot(t[half:]))
	}
	return append(wantPath(t[half:], i-half), wantRoot(t[:half]))
}

func mustRoot(t *testing.T, a []uint64) uint64 {
	t.Helper()
	r, e := tree.Root(a)
	if e != api.OK {
		t.Fatalf("Root of %d numbers: %d", len(a), e)
	}
	return r
}

func mustPath(t *testing.T, a []uint64, i int) []uint64 {
	t.Helper()
	path, e := tree.Path(a, i)
	if e != api.OK {
		t.Fatalf("Path of %d numbers from %d: %d", len(a), i, e)
	}
	return path
}

func mustClimb(t *testing.T, i int, leaf uint64, path []uint64) uint64 {
	t.Helper()
	r, e := tree.Climb(i, leaf, path)
	if e != api.OK {
		t.Fatalf("Climb from %d by %d numbers: %d", i, len(path), e)
	}
	return r
}

// Numbers that were reckoned elsewhere, by the chapter's words.
func TestKnownRoots(t *testing.T) {
	for _, c := range []struct {
		table []uint64
		want  uint64
	}{
		{[]uint64{0}, 1556104591871305771},
		{[]uint64{5}, 1241750318567840952},
		{[]uint64{1<<64 - 1}, 131006950784043113},
		{[]uint64{0, 0}, 892839187012686473},
		{[]uint64{5, 6}, 332340211178738506},
		{[]uint64{6, 5}, 1506572294401353886},
		{[]uint64{5, 6, 7, 8}, 2233024166539706817},
		{[]uint64{p - 1, p, p + 1, 1<<64 - 1}, 46505554597536231},
		{countTo(8), 832096751361953639},
		{countTo(256), 540765039155305281},
	} {
		if got := mustRoot(t, c.table); got != c.want {
			t.Errorf("Root of %v: %d, not %d", c.table, got, c.want)
		}
	}
}

func TestKnownPaths(t *testing.T) {
	four := []uint64{5, 6, 7, 8}
	for _, c := range []struct {
		table []uint64
		i     int
		want  []uint64
	}{
		{[]uint64{5}, 0, nil},
		{[]uint64{5, 6}, 0, []uint64{238733600582287092}},
		{[]uint64{5, 6}, 1, []uint64{1241750318567840952}},
		{four, 0, []uint64{238733600582287092, 1264695183736693277}},
		{four, 1, []uint64{1241750318567840952, 1264695183736693277}},
		{four, 2, []uint64{1954386350860533675, 332340211178738506}},
		{four, 3, []uint64{131006950784043113, 332340211178738506}},
		{countTo(8), 5, []uint64{1777715454361379705, 1751792623363614685, 1953944527135036241}},
		{countTo(256), 178, []uint64{
			1406407353181532594, 441320783343718804, 266821548347943520, 1050454599838846907,
			1248003910937026759, 1255789866081405841, 346283710205832049, 1421808401372040780,
		}},
	} {
		if got := mustPath(t, c.table, c.i); !slices.Equal(got, c.want) {
			t.Errorf("Path of %v from %d: %v, not %v", c.table, c.i, got, c.want)
		}
	}
}

func TestKnownClimbs(t *testing.T) {
	for _, c := range []struct {
		i    int
		leaf uint64
		path []uint64
		want uint64
	}{
		{0, 9, nil, 1397191936072573074},
		{0, 9, []uint64{1}, 1768966534918108637},
		{1, 9, []uint64{1}, 853736805736231100},
		{5, 9, []uint64{1, p, 1<<64 - 1}, 482078689868337997},
		{178, 1<<64 - 1, []uint64{1, 2, 3, 4, 5, 6, 7, 8}, 1325414799218562060},
		{255, 0, make([]uint64, 8), 2269572844323482091},
	} {
		if got := mustClimb(t, c.i, c.leaf, c.path); got != c.want {
			t.Errorf("Climb from %d, %d, by %v: %d, not %d", c.i, c.leaf, c.path, got, c.want)
		}
	}
}

func TestRoot(t *testing.T) {
	for _, a := range tables() {
		if got, want := mustRoot(t, a), wantRoot(a); got != want || got >= p {
			t.Fatalf("Root of %d numbers: %d, not %d", len(a), got, want)
		}
	}
}

// From each place: its path is what stands beside the way, and leads to the root.
func TestPathAndClimb(t *testing.T) {
	for _, a := range tables() {
		root := mustRoot(t, a)
		vars, _ := mle.Vars(a)
		for i, leaf := range a {
			path := mustPath(t, a, i)
			if want := wantPath(a, i); len(path) != vars || !slices.Equal(path, want) {
				t.Fatalf("Path of %d numbers from %d: %v, not %v", len(a), i, path, want)
			}
			if got := mustClimb(t, i, leaf, path); got != root {
				t.Fatalf("of %d numbers, from %d: %d, not %d", len(a), i, got, root)
			}
		}
	}
}

// Paths are Path of each place, in order, a place that stands there twice, too.
func TestPaths(t *testing.T) {
	draw := drawer(18)
	for _, a := range tables() {
		last := len(a) - 1
		for _, places := range [][]int{nil, {}, {0}, {last}, {last, 0, last}, {int(draw() % uint64(len(a))), last / 2, 0, 0}} {
			paths, e := tree.Paths(a, places)
			if e != api.OK || len(paths) != len(places) {
				t.Fatalf("Paths of %d numbers from %v: %v, %d", len(a), places, paths, e)
			}
			for k, i := range places {
				if want := mustPath(t, a, i); !slices.Equal(paths[k], want) {
					t.Fatalf("Paths of %d numbers from %v: number %d is %v, not %v", len(a), places, k, paths[k], want)
				}
			}
		}
	}
}

// With another leaf, Climb is the Root of the table that has that one instead.
func TestClimbOfAnotherLeaf(t *testing.T) {
	draw := drawer(19)
	for n := range api.MaxVars + 1 {
		a := far(draw, 1<<n)
		for range 8 {
			i, leaf := int(draw()%(1<<n)), draw()
			other := slices.Clone(a)
			other[i] = leaf
			got, want := mustClimb(t, i, leaf, mustPath(t, a, i)), mustRoot(t, other)
			if got != want || got == mustRoot(t, a) {
				t.Fatalf("of %d numbers, %d at %d: %d, not %d", len(a), leaf, i, got, want)
			}
		}
	}
}

// Another place, another path, or another leaf leads elsewhere.
func TestWrongClimbsMissTheRoot(t *testing.T) {
	a := far(drawer(23), 16)
	root := mustRoot(t, a)
	for i, leaf := range a {
		path := mustPath(t, a, i)
		for j := range a {
			if got := mustClimb(t, j, leaf, path); (got == root) != (i == j) {
				t.Errorf("number %d from %d: %d, the root is %d", i, j, got, root)
			}
		}
		for k := range path {
			wrong := slices.Clone(path)
			wrong[k]++
			if mustClimb(t, i, leaf, wrong) == root {
				t.Errorf("from %d, with another number %d of the path, to the root", i, k)
			}
			if mustClimb(t, i>>(4-k), leaf, path[:k]) == root {
				t.Errorf("from %d, by %d numbers alone, to the root", i, k)
			}
		}
		if mustClimb(t, i, leaf+1, path) == root {
			t.Errorf("from %d, of another leaf, to the root", i)
		}
	}
}

// Of a number its rest by P is meant, of the table's, of the leaf and of the path's.
func TestRestsAreMeant(t *testing.T) {
	few := []uint64{0, 1, 6, 3}
	path := mustPath(t, few, 2)
	root := mustRoot(t, few)
	for k := uint64(1); k <= 6; k++ {
		more, besides := slices.Clone(few), slices.Clone(path)
		for i := range more {
			more[i] += k * p
		}
		for i := range besides {
			besides[i] += k * p
		}
		if got := mustRoot(t, more); got != root {
			t.Errorf("Root, %d times P more: %d, not %d", k, got, root)
		}
		if got := mustPath(t, more, 2); !slices.Equal(got, path) {
			t.Errorf("Path, %d times P more: %v, not %v", k, got, path)
		}
		if got := mustClimb(t, 2, more[2], besides); got != root {
			t.Errorf("Climb, %d times P more: %d, not %d", k, got, root)
		}
	}
}

// What is no table is told ahead of a place that is none.
func TestNoTables(t *testing.T) {
	for _, a := range noTables() {
		if r, e := tree.Root(a); r != 0 || e != api.ErrForm {
			t.Errorf("Root of %d numbers: %d, %d", len(a), r, e)
		}
		for _, i := range []int{math.MinInt, -1, 0, 1, len(a) - 1, len(a), math.MaxInt} {
			if path, e := tree.Path(a, i); len(path) != 0 || e != api.ErrForm {
				t.Errorf("Path of %d numbers from %d: %v, %d", len(a), i, path, e)
			}
			if paths, e := tree.Paths(a, []int{i}); len(paths) != 0 || e != api.ErrForm {
				t.Errorf("Paths of %d numbers from %d: %v, %d", len(a), i, paths, e)
			}
		}
		if paths, e := tree.Paths(a, nil); len(paths) != 0 || e != api.ErrForm {
			t.Errorf("Paths of %d numbers from nowhere: %v, %d", len(a), paths, e)
		}
	}
}

// outside are places that none of 2^n numbers has.
func outside(n int) []int {
	return []int{math.MinInt, -1 << n, -2, -1, 1 << n, 1<<n + 1, 2 << n, 1 << 32, math.MaxInt}
}

func TestPlacesOutside(t *testing.T) {
	for n := range api.MaxVars + 1 {
		for _, i := range outside(n) {
			if path, e := tree.Path(countTo(1<<n), i); len(path) != 0 || e != api.ErrArg {
				t.Errorf("Path of %d numbers from %d: %v, %d", 1<<n, i, path, e)
			}
			for _, places := range [][]int{{i}, {0, i}, {i, 0}} {
				if paths, e := tree.Paths(countTo(1<<n), places); len(paths) != 0 || e != api.ErrArg {
					t.Errorf("Paths of %d numbers from %v: %v, %d", 1<<n, places, paths, e)
				}
			}
			if r, e := tree.Climb(i, 7, countTo(n)); r != 0 || e != api.ErrArg {
				t.Errorf("Climb from %d by %d numbers: %d, %d", i, n, r, e)
			}
		}
		for _, i := range []int{0, 1<<n - 1} {
			mustPath(t, countTo(1<<n), i)
			mustClimb(t, i, 7, countTo(n))
		}
	}
}

func TestPathsTooLong(t *testing.T) {
	for _, n := range []int{9, 10, 16, 31, 32, 62, 63, 64, 65, 1000} {
		for _, i := range []int{math.MinInt, -1, 0, 1, 255, 256, 511, math.MaxInt} {
			if r, e := tree.Climb(i, 7, countTo(n)); r != 0 || e != api.ErrArg {
				t.Errorf("Climb from %d by %d numbers: %d, %d", i, n, r, e)
			}
		}
	}
}

// P2: neither what is handed in nor the room behind it is changed.
func TestArgumentsStay(t *testing.T) {
	for _, a := range append(tables(), noTables()...) {
		room := append(slices.Clone(a), 91, p, 1<<64-1)
		before := slices.Clone(room)
		tree.Root(room[:len(a)])
		tree.Paths(room[:len(a)], []int{0, len(a) - 1})
		for _, i := range []int{-1, 0, len(a) / 2, len(a) - 1, len(a)} {
			tree.Path(room[:len(a)], i)
			tree.Climb(i, 7, room[:len(a)])
		}
		if !slices.Equal(room, before) {
			t.Fatalf("%v has become %v", before, room)
		}
	}
}

// P2: a path is new memory, its spare room included: who writes into it changes
// neither the table nor a path that was answered ahead or is answered later.
func TestPathsAreNew(t *testing.T) {
	for _, a := range tables() {
		mine := append(make([]uint64, 0, len(a)+16), a...)
		i := len(a) / 2
		first, second := mustPath(t, mine, i), mustPath(t, mine, i)
		want := slices.Clone(first)
		for k := range second[:cap(second)] {
			second[:cap(second)][k] = 77
		}
		if !slices.Equal(first, want) || !slices.Equal(mine, a) || !slices.Equal(mustPath(t, mine, i), want) {
			t.Fatalf("of %d numbers: writing into a path is seen elsewhere", len(a))
		}
		two, _ := tree.Paths(mine, []int{i, i})
		for k := range two[1][:cap(two[1])] {
			two[1][:cap(two[1])][k] = 77
		}
		if !slices.Equal(two[0], want) {
			t.Fatalf("of %d numbers: two paths of one answer share memory", len(a))
		}
		for k := range mine[:cap(mine)] {
			mine[:cap(mine)][k] = 78
		}
		if !slices.Equal(first, want) {
			t.Fatalf("of %d numbers: writing into the table changes a path", len(a))
		}
	}
}

// P2: what is answered hangs neither on what was asked ahead of it nor on the
// room behind a list.
func TestAnswersHangOnArgumentsAlone(t *testing.T) {
	all := tables()
	ask := func(a []uint64, spare int) []uint64 {
		roomy := append(make([]uint64, 0, len(a)+spare), a...)
		path := mustPath(t, roomy, len(a)-1)
		long := append(make([]uint64, 0, len(path)+spare), path...)
		return append(path, mustRoot(t, roomy), mustClimb(t, 0, a[0], long))
	}
	first := make([][]uint64, len(all))
	for i, a := range all {
		first[i] = ask(a, 0)
	}
	for i, a := range slices.Backward(all) {
		if got := ask(a, 300); !slices.Equal(got, first[i]) {
			t.Fatalf("of %d numbers: %v, and %v at first", len(a), got, first[i])
		}
	}
}
