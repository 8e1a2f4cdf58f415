package wiring_test

import (
	"math"
	"math/big"
	"reflect"
	"slices"
	"testing"

	"tallystick/api"
	"tallystick/circuit"
	"tallystick/mle"
	"tallystick/wiring"
)

const p = api.P

var prime = new(big.Int).SetUint64(p)

func toBig(a uint64) *big.Int { return new(big.Int).SetUint64(a) }

func rest(x *big.Int) uint64 { return new(big.Int).Mod(x, prime).Uint64() }

// drawer gives numbers of 64 bits, the same ones in each run.
func drawer(seed uint64) func() uint64 {
	x := seed
	return func() uint64 {
		x = x*6364136223846793005 + 1442695040888963407
		return x ^ x>>29
	}
}

// number is one of anywhere among the 64 bits, or of around P's multiples.
func number(draw func() uint64) uint64 {
	if pick(draw, 2) == 0 {
		return draw()
	}
	return uint64(1+pick(draw, 8))*p - 2 + uint64(pick(draw, 5))
}

func numbers(draw func() uint64, n int) []uint64 {
	l := make([]uint64, n)
	for i := range l {
		l[i] = number(draw)
	}
	return l
}

// pick is a number from 0 to n - 1.
func pick(draw func() uint64, n int) int { return int(draw() >> 16 % uint64(n)) }

// drawLayer is a layer of 2^log gates over one of 2^below numbers.
func drawLayer(draw func() uint64, log, below int) api.Layer {
	l := api.Layer{Log: log, Gates: make([]api.Gate, 1<<log)}
	for i := range l.Gates {
		l.Gates[i] = api.Gate{Mul: pick(draw, 2) == 1, A: pick(draw, 1<<below), B: pick(draw, 1<<below)}
	}
	return l
}

func drawCircuit(draw func() uint64, layers int) api.Circuit {
	c := api.Circuit{Log: pick(draw, api.MaxLog+1)}
	below := c.Log
	for range layers {
		log := pick(draw, api.MaxLog+1)
		c.Layers = append(c.Layers, drawLayer(draw, log, below))
		below = log
	}
	return c
}

// tiny is the circuit of the document's examples.
func tiny() api.Circuit {
	return api.Circuit{Log: 1, Layers: []api.Layer{
		{Log: 1, Gates: []api.Gate{{Mul: true, A: 0, B: 1}, {Mul: false, A: 0, B: 1}}},
		{Log: 0, Gates: []api.Gate{{Mul: true, A: 0, B: 1}}},
	}}
}

// steps is a circuit whose inputs and layers have Logs that all differ.
func steps() api.Circuit {
	draw := drawer(3)
	return api.Circuit{Log: 2, Layers: []api.Layer{
		drawLayer(draw, 4, 2), drawLayer(draw, 0, 4), drawLayer(draw, 3, 0), drawLayer(draw, 1, 3),
	}}
}

// alike has layers of gates that all are the same: their parts add up.
func alike(mul bool) api.Circuit {
	c := api.Circuit{Log: 2}
	for range api.MaxLayers {
		c.Layers = append(c.Layers, api.Layer{Log: 2, Gates: slices.Repeat([]api.Gate{{Mul: mul, A: 2, B: 1}}, 4)})
	}
	return c
}

// circuits are right ones, of each number of layers, and of each Log over each.
func circuits() []api.Circuit {
	draw := drawer(7)
	all := []api.Circuit{tiny(), steps(), alike(false), alike(true)}
	for log := range api.MaxLog + 1 {
		for below := range api.MaxLog + 1 {
			all = append(all, api.Circuit{Log: below, Layers: []api.Layer{drawLayer(draw, log, below)}})
		}
	}
	for i := range 60 {
		all = append(all, drawCircuit(draw, 1+i%api.MaxLayers))
	}
	return all
}

// logsOf are the Logs of layer i and of the one below it.
func logsOf(c api.Circuit, i int) (log, below int) {
	logs := []int{c.Log}
	for _, l := range c.Layers {
		logs = append(logs, l.Log)
	}
	return logs[i+1], logs[i]
}

// place is the point of n numbers at which the variables have b's bits.
func place(n, b int) []uint64 {
	l := make([]uint64, n)
	for i := range l {
		l[i] = uint64(b >> (n - 1 - i) & 1)
	}
	return l
}

// asked is what a call is asked about a layer.
type asked struct {
	c       api.Circuit
	i       int
	z, x, y []uint64
	vx, vy  uint64
}

// questions are some of each layer of each circuit, whose points are drawn.
func questions() []asked {
	draw := drawer(11)
	var all []asked
	for _, c := range circuits() {
		for i := range c.Layers {
			log, below := logsOf(c, i)
			for range 4 {
				all = append(all, asked{c, i, numbers(draw, log), numbers(draw, below), numbers(draw, below), number(draw), number(draw)})
			}
		}
	}
	return all
}

func (a asked) value(mul bool) (uint64, api.Errno) {
	return wiring.Value(a.c, a.i, mul, a.z, a.x, a.y)
}

func (a asked) step() (uint64, api.Errno) {
	return wiring.Step(a.c, a.i, a.z, a.x, a.y, a.vx, a.vy)
}

func mustValue(t *testing.T, a asked, mul bool) uint64 {
	t.Helper()
	v, e := a.value(mul)
	if e != api.OK || v >= p {
		t.Fatalf("Value of %v, %v: %d, error %d", a, mul, v, e)
	}
	return v
}

func mustStep(t *testing.T, a asked) uint64 {
	t.Helper()
	v, e := a.step()
	if e != api.OK || v >= p {
		t.Fatalf("Step of %v: %d, error %d", a, v, e)
	}
	return v
}

// weight is what P6 says stands at b in the table of a point.
func weight(point []uint64, b int) *big.Int {
	w := big.NewInt(1)
	for i, x := range point {
		factor := toBig(x)
		if b>>(len(point)-1-i)&1 == 0 {
			factor.Sub(big.NewInt(1), factor)
		}
		w.Mul(w, factor)
	}
	return w
}

// wantValue reckons without a bound; its rest is Value.
func wantValue(a asked, mul bool) *big.Int {
	sum := new(big.Int)
	for g, gate := range a.c.Layers[a.i].Gates {
		if gate.Mul != mul {
			continue
		}
		w := weight(a.z, g)
		w.Mul(w, weight(a.x, gate.A))
		w.Mul(w, weight(a.y, gate.B))
		sum.Add(sum, w)
	}
	return sum
}

func wantStep(a asked) uint64 {
	vx, vy := toBig(a.vx), toBig(a.vy)
	added := new(big.Int).Add(vx, vy)
	added.Mul(added, wantValue(a, false))
	multiplied := new(big.Int).Mul(vx, vy)
	multiplied.Mul(multiplied, wantValue(a, true))
	return rest(added.Add(added, multiplied))
}

func TestExamples(t *testing.T) {
	one, nought := []uint64{1}, []uint64{0}
	// Gate 1 of the tiny circuit adds, and gate 0 does not.
	gate := asked{c: tiny(), z: one, x: nought, y: one, vx: 3, vy: 4}
	if v, w := mustValue(t, gate, false), mustValue(t, gate, true); v != 1 || w != 0 {
		t.Errorf("gate 1: adding %d, multiplying %d", v, w)
	}
	if v := mustStep(t, gate); v != 7 {
		t.Errorf("gate 1 of 3 and 4: %d", v)
	}
	gate.z = nought
	if v, w := mustValue(t, gate, false), mustValue(t, gate, true); v != 0 || w != 1 {
		t.Errorf("gate 0: adding %d, multiplying %d", v, w)
	}
	if v := mustStep(t, gate); v != 12 {
		t.Errorf("gate 0 of 3 and 4: %d", v)
	}
	// Between the gates: (1 - 2)(1 - 3)5 and 2(1 - 3)5.
	between := asked{c: tiny(), z: []uint64{2}, x: []uint64{3}, y: []uint64{5}, vx: 6, vy: 7}
	if v, w := mustValue(t, between, true), mustValue(t, between, false); v != 10 || w != p-20 {
		t.Errorf("at 2, 3, 5: multiplying %d, adding %d", v, w)
	}
	if v := mustStep(t, between); v != 10*42-20*13 {
		t.Errorf("at 2, 3, 5 of 6 and 7: %d", v)
	}
}

// P13: at places Value counts the gate there, if it is of that kind and stands
// on these two, in this order.
func TestValueAtPlaces(t *testing.T) {
	for _, c := range []api.Circuit{tiny(), steps(), alike(false), alike(true)} {
		for i, l := range c.Layers {
			log, below := logsOf(c, i)
			for at := range 1 << (log + 2*below) {
				g, a, b := at>>(2*below), at>>below&(1<<below-1), at&(1<<below-1)
				q := asked{c: c, i: i, z: place(log, g), x: place(below, a), y: place(below, b)}
				for _, mul := range []bool{false, true} {
					want := uint64(0)
					if l.Gates[g] == (api.Gate{Mul: mul, A: a, B: b}) {
						want = 1
					}
					if v := mustValue(t, q, mul); v != want {
						t.Fatalf("layer %d of %v, gate %d, %v, over %d and %d: %d", i, c, g, mul, a, b, v)
					}
				}
			}
		}
	}
}

// P13: between the places, too, whatever the numbers' 64 bits are.
func TestValueAndStepAnywhere(t *testing.T) {
	for _, a := range questions() {
		for _, mul := range []bool{false, true} {
			if v, want := mustValue(t, a, mul), rest(wantValue(a, mul)); v != want {
				t.Fatalf("Value of %v, %v: %d, not %d", a, mul, v, want)
			}
		}
		if v, want := mustStep(t, a), wantStep(a); v != want {
			t.Fatalf("Step of %v: %d, not %d", a, v, want)
		}
	}
}

// Of gates of one kind alone the other kind's Value is 0.
func TestKindThatIsNotThere(t *testing.T) {
	draw := drawer(13)
	for _, mul := range []bool{false, true} {
		for i := range api.MaxLayers {
			a := asked{c: alike(mul), i: i, z: numbers(draw, 2), x: numbers(draw, 2), y: numbers(draw, 2)}
			if v := mustValue(t, a, !mul); v != 0 {
				t.Errorf("gates with Mul %v alone: %d of the others", mul, v)
			}
		}
	}
}

// The values that are handed to Step are taken by their rests.
func TestStepOfEdges(t *testing.T) {
	draw := drawer(17)
	edges := []uint64{0, 1, 1 << 60, p - 1, p, p + 1, 2*p - 1, 4 * p, 1 << 63, 8*p + 1, 1<<64 - 1}
	for i := range steps().Layers {
		log, below := logsOf(steps(), i)
		a := asked{c: steps(), i: i, z: numbers(draw, log), x: numbers(draw, below), y: numbers(draw, below)}
		for _, a.vx = range edges {
			for _, a.vy = range edges {
				if v, want := mustStep(t, a), wantStep(a); v != want {
					t.Fatalf("Step of %v: %d, not %d", a, v, want)
				}
			}
		}
	}
}

// P13: the value of a layer's table at z is the sum of Step at all places x and
// y, with the values of the layer below there.
func TestStepsMakeTheLayersValue(t *testing.T) {
	draw := drawer(19)
	for _, c := range circuits()[:50] {
		values, e := circuit.Run(c, numbers(draw, 1<<c.Log))
		if e != api.OK {
			t.Fatalf("Run of %v: %d", c, e)
		}
		for i := range c.Layers {
			log, below := logsOf(c, i)
			z := numbers(draw, log)
			want, e := mle.Eval(values[i+1], z)
			if e != api.OK {
				t.Fatalf("Eval of %v at %v: %d", values[i+1], z, e)
			}
			sum := new(big.Int)
			for at := range 1 << (2 * below) {
				x, y := at>>below, at&(1<<below-1)
				a := asked{c, i, z, place(below, x), place(below, y), values[i][x], values[i][y]}
				sum.Add(sum, toBig(mustStep(t, a)))
			}
			if v := rest(sum); v != want {
				t.Fatalf("layer %d of %v at %v: %d, not %d", i, c, z, v, want)
			}
		}
	}
}

// refuses sees that both calls tell one error, and nothing beside it.
func refuses(t *testing.T, name string, a asked, want api.Errno) {
	t.Helper()
	for _, mul := range []bool{false, true} {
		if v, e := a.value(mul); v != 0 || e != want {
			t.Errorf("%s: Value %v %d, %d, not %d", name, mul, v, e, want)
		}
	}
	if v, e := a.step(); v != 0 || e != want {
		t.Errorf("%s: Step %d, %d, not %d", name, v, e, want)
	}
}

// wrongCircuits are some, each with Check's error of it.
func wrongCircuits() map[string]asked {
	long := tiny()
	long.Layers = slices.Repeat(long.Layers, 3)
	few, astray, high := tiny(), tiny(), tiny()
	few.Layers[0].Gates = few.Layers[0].Gates[:1]
	astray.Layers[1].Gates[0].B = 2
	high.Layers[1].Log = 5
	all := map[string]asked{
		"nothing": {}, "no layer": {c: api.Circuit{Log: 1}}, "inputs' Log": {c: api.Circuit{Log: -1, Layers: tiny().Layers}},
		"six layers": {c: long}, "a gate too few": {c: few}, "a place too high": {c: astray}, "a layer's Log": {c: high},
		"a great Log": {c: api.Circuit{Log: math.MaxInt, Layers: tiny().Layers}},
	}
	return all
}

// P13: Check's error goes ahead of what is wrong with the layer and the points,
// and is told of a layer that is right in a circuit that isn't, too.
func TestWrongCircuits(t *testing.T) {
	seen := make(map[api.Errno]int)
	for name, a := range wrongCircuits() {
		want := circuit.Check(a.c)
		seen[want]++
		for _, a.i = range []int{0, 1, 2, -1, math.MinInt, math.MaxInt} {
			for n := range 4 {
				a.z, a.x, a.y = make([]uint64, n), make([]uint64, 1), make([]uint64, 1)
				refuses(t, name, a, want)
				a.x, a.y = nil, make([]uint64, 9)
				refuses(t, name, a, want)
			}
		}
	}
	if seen[api.OK] != 0 || seen[api.ErrArg] == 0 || seen[api.ErrLarge] == 0 || seen[api.ErrForm] == 0 {
		t.Errorf("the circuits are not wrong as they should be: %v", seen)
	}
}

func TestLayersThatAreNone(t *testing.T) {
	for _, c := range circuits() {
		n := len(c.Layers)
		for _, i := range []int{-1, -2, n, n + 1, api.MaxLayers, 64, math.MinInt, math.MaxInt} {
			for _, of := range []int{0, n - 1} {
				log, below := logsOf(c, of)
				a := asked{c: c, i: i, z: make([]uint64, log), x: make([]uint64, below), y: make([]uint64, below), vx: 1, vy: 1}
				refuses(t, "no such layer", a, api.ErrArg)
			}
		}
	}
}

// P13: of all lengths of the three points those alone are right that are the
// Logs of the layer and of the one below it.
func TestLengthsOfPoints(t *testing.T) {
	c := steps()
	for i := range c.Layers {
		log, below := logsOf(c, i)
		for lengths := range 1000 {
			nz, nx, ny := lengths/100, lengths/10%10, lengths%10
			a := asked{c: c, i: i, z: make([]uint64, nz), x: make([]uint64, nx), y: make([]uint64, ny), vx: 1, vy: 1}
			if nz == log && nx == below && ny == below {
				mustStep(t, a)
				mustValue(t, a, true)
				mustValue(t, a, false)
			} else {
				refuses(t, "lengths", a, api.ErrArg)
			}
		}
	}
	many := make([]uint64, 1<<16)
	refuses(t, "long points", asked{c: c, z: many, x: many, y: many}, api.ErrArg)
}

// Points without a number may be nil or empty.
func TestEmptyPoints(t *testing.T) {
	c := api.Circuit{Layers: []api.Layer{{Gates: []api.Gate{{Mul: true}}}}}
	for _, l := range [][]uint64{nil, {}} {
		a := asked{c: c, z: l, x: l, y: l, vx: 5, vy: 6}
		if v, w, s := mustValue(t, a, true), mustValue(t, a, false), mustStep(t, a); v != 1 || w != 0 || s != 30 {
			t.Errorf("one gate: %d, %d, %d", v, w, s)
		}
	}
}

// roomy is l, with room behind it in which something stands.
func roomy[T any](l []T, behind T) []T {
	return append(append(make([]T, 0, len(l)+3), l...), behind)[:len(l)]
}

func roomyCircuit(c api.Circuit) api.Circuit {
	d := api.Circuit{Log: c.Log, Layers: roomy(c.Layers, api.Layer{Log: 91})}
	for i, l := range d.Layers {
		d.Layers[i].Gates = roomy(l.Gates, api.Gate{A: 91})
	}
	return d
}

// whole is what is asked, copied, with the room behind its lists as parts of them.
func whole(a asked) asked {
	a.z, a.x, a.y = slices.Clone(a.z[:cap(a.z)]), slices.Clone(a.x[:cap(a.x)]), slices.Clone(a.y[:cap(a.y)])
	a.c.Layers = slices.Clone(a.c.Layers[:cap(a.c.Layers)])
	for i, l := range a.c.Layers {
		a.c.Layers[i].Gates = slices.Clone(l.Gates[:cap(l.Gates)])
	}
	return a
}

// copied is what is asked, with no memory of it.
func copied(a asked) asked {
	a.z, a.x, a.y = slices.Clone(a.z), slices.Clone(a.x), slices.Clone(a.y)
	a.c.Layers = slices.Clone(a.c.Layers)
	for i, l := range a.c.Layers {
		a.c.Layers[i].Gates = slices.Clone(l.Gates)
	}
	return a
}

// P2: neither what is handed in nor the room behind it is changed, and it is not
// seen in an answer.
func TestArgumentsStay(t *testing.T) {
	for _, a := range questions() {
		b := a
		b.c, b.z, b.x, b.y = roomyCircuit(a.c), roomy(a.z, 91), roomy(a.x, 92), roomy(a.y, 93)
		before := whole(b)
		v, w, s := mustValue(t, b, false), mustValue(t, b, true), mustStep(t, b)
		if v != mustValue(t, a, false) || w != mustValue(t, a, true) || s != mustStep(t, a) {
			t.Fatalf("%v: the room behind a list changes an answer", a)
		}
		b.i = len(b.c.Layers)
		refuses(t, "no such layer", b, api.ErrArg)
		b.i = a.i
		if !reflect.DeepEqual(whole(b), before) {
			t.Fatalf("%v has become %v", before, whole(b))
		}
	}
}

// P2: lists that share memory are lists like others.
func TestPointsThatShare(t *testing.T) {
	draw := drawer(23)
	for i := range api.MaxLayers {
		l := numbers(draw, 3)
		for _, a := range []asked{
			{alike(true), i, l[:2], l[:2], l[:2], l[0], l[1]},
			{alike(false), i, l[:2], l[1:], l[:2], l[0], l[1]},
		} {
			if v, want := mustStep(t, a), wantStep(a); v != want {
				t.Errorf("Step of %v: %d, not %d", a, v, want)
			}
		}
	}
}

// P2: an answer doesn't hang on what was asked ahead of it, or on what becomes
// of a list that was handed in.
func TestAnswersHangOnArgumentsAlone(t *testing.T) {
	all := questions()
	first := make([]uint64, len(all))
	for i, a := range all {
		mine := copied(a)
		first[i] = mustStep(t, mine)
		mine.c.Layers[mine.i].Gates[0].Mul = !mine.c.Layers[mine.i].Gates[0].Mul
		for _, l := range [][]uint64{mine.z, mine.x, mine.y} {
			for j := range l {
				l[j] = 77
			}
		}
	}
	for i, a := range slices.Backward(all) {
		wiring.Value(api.Circuit{}, i, true, nil, nil, nil)
		if v := mustStep(t, a); v != first[i] {
			t.Fatalf("Step of %v: %d, and %d at first", a, v, first[i])
		}
	}
}
