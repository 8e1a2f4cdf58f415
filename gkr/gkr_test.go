package gkr_test

import (
	"fmt"
	"math"
	"reflect"
	"slices"
	"testing"

	"tallystick/api"
	"tallystick/circuit"
	"tallystick/field"
	"tallystick/gkr"
	"tallystick/mle"
	"tallystick/wiring"
)

const p = api.P

// drawer gives numbers of 64 bits, the same ones in each run.
func drawer(seed uint64) func() uint64 {
	x := seed
	return func() uint64 {
		x = x*6364136223846793005 + 1442695040888963407
		return x ^ x>>29
	}
}

// number is one of anywhere among the 64 bits, or of around P's multiples.
func number(draw func() uint64) uint64 {
	if pick(draw, 2) == 0 {
		return draw()
	}
	return uint64(1+pick(draw, 8))*p - 2 + uint64(pick(draw, 5))
}

func list(n int, next func() uint64) []uint64 {
	l := make([]uint64, n)
	for i := range l {
		l[i] = next()
	}
	return l
}

// numbers are n of them; some have the rest 0 or 1.
func numbers(draw func() uint64, n int) []uint64 {
	return list(n, func() uint64 { return number(draw) })
}

// far are n numbers from anywhere among the 64 bits.
func far(draw func() uint64, n int) []uint64 { return list(n, draw) }

// pick is a number from 0 to n - 1.
func pick(draw func() uint64, n int) int { return int(draw() >> 16 % uint64(n)) }

// drawLayer is a layer of 2^log gates over one of 2^below numbers.
func drawLayer(draw func() uint64, log, below int) api.Layer {
	l := api.Layer{Log: log, Gates: make([]api.Gate, 1<<log)}
	for i := range l.Gates {
		l.Gates[i] = api.Gate{Mul: pick(draw, 2) == 1, A: pick(draw, 1<<below), B: pick(draw, 1<<below)}
	}
	return l
}

// ofLogs is a circuit whose inputs and layers have these Logs.
func ofLogs(draw func() uint64, logs ...int) api.Circuit {
	c := api.Circuit{Log: logs[0]}
	for i, log := range logs[1:] {
		c.Layers = append(c.Layers, drawLayer(draw, log, logs[i]))
	}
	return c
}

// logsOf are the Logs of the inputs and of each layer.
func logsOf(c api.Circuit) []int {
	logs := []int{c.Log}
	for _, l := range c.Layers {
		logs = append(logs, l.Log)
	}
	return logs
}

// tiny is the circuit of the document's examples.
func tiny() api.Circuit {
	return api.Circuit{Log: 1, Layers: []api.Layer{
		{Log: 1, Gates: []api.Gate{{Mul: true, A: 0, B: 1}, {Mul: false, A: 0, B: 1}}},
		{Log: 0, Gates: []api.Gate{{Mul: true, A: 0, B: 1}}},
	}}
}

// single is the smallest circuit there is.
func single(mul bool) api.Circuit {
	return api.Circuit{Layers: []api.Layer{{Gates: []api.Gate{{Mul: mul}}}}}
}

// alike has layers of gates that all are the same: their wires add up.
func alike(mul bool) api.Circuit {
	c := api.Circuit{Log: 2}
	for range api.MaxLayers {
		c.Layers = append(c.Layers, api.Layer{Log: 2, Gates: slices.Repeat([]api.Gate{{Mul: mul, A: 2, B: 1}}, 4)})
	}
	return c
}

// circuits are right ones, of each number of layers, and of each Log over each.
func circuits() []api.Circuit {
	draw := drawer(7)
	all := []api.Circuit{
		tiny(), single(false), single(true), alike(false), alike(true),
		ofLogs(draw, 4, 4, 4, 4, 4), ofLogs(draw, 0, 0, 0, 0, 0), ofLogs(draw, 2, 4, 0, 3, 1), ofLogs(draw, 0, 4, 0, 4),
	}
	for log := range api.MaxLog + 1 {
		for below := range api.MaxLog + 1 {
			all = append(all, ofLogs(draw, below, log))
		}
	}
	for i := range 20 {
		logs := make([]int, 2+i%api.MaxLayers)
		for j := range logs {
			logs[j] = pick(draw, api.MaxLog+1)
		}
		all = append(all, ofLogs(draw, logs...))
	}
	return all
}

// told is all that Verify is asked.
type told struct {
	c             api.Circuit
	input, output []uint64
	proof         api.Proof
	draws         []uint64
}

func mustDraws(t *testing.T, c api.Circuit) int {
	t.Helper()
	n, e := gkr.Draws(c)
	if e != api.OK {
		t.Fatalf("Draws of %v: error %d", c, e)
	}
	return n
}

// prove is what is told of a circuit, by a prover who is right.
func prove(t *testing.T, c api.Circuit, input, draws []uint64) told {
	t.Helper()
	values, e := circuit.Run(c, input)
	if e != api.OK {
		t.Fatalf("Run of %v: error %d", c, e)
	}
	proof, e := gkr.Prove(c, input, draws)
	if e != api.OK {
		t.Fatalf("Prove of %v, %v, %v: error %d", c, input, draws, e)
	}
	return told{c, input, values[len(values)-1], proof, draws}
}

// proveAll is what is told of all circuits, with draws from anywhere: that a wrong
// polynomial is right at one of them is not to be seen. The inputs and draws in it
// were never handed in, so that a call that made rests of them is seen.
func proveAll(t *testing.T) []told {
	t.Helper()
	draw := drawer(11)
	var all []told
	for _, c := range circuits() {
		input, draws := far(draw, 1<<c.Log), far(draw, mustDraws(t, c))
		a := prove(t, c, slices.Clone(input), slices.Clone(draws))
		a.input, a.draws = input, draws
		all = append(all, a)
	}
	return all
}

func (a told) verify() (bool, api.Errno) {
	return gkr.Verify(a.c, a.input, a.output, a.proof, a.draws)
}

// is sees whether a proof of a right form holds, as it is wanted to.
func (a told) is(t *testing.T, want bool, what string) {
	t.Helper()
	if ok, e := a.verify(); ok != want || e != api.OK {
		t.Fatalf("%s: %v, error %d, not %v: %v", what, ok, e, want, a)
	}
}

func (a told) refused(t *testing.T, want api.Errno, what string) {
	t.Helper()
	if ok, e := a.verify(); ok || e != want {
		t.Errorf("%s: Verify: %v, error %d, not %d", what, ok, e, want)
	}
}

// copied is what is told, with no memory of it.
func (a told) copied() told {
	a.c.Layers = slices.Clone(a.c.Layers)
	for i, l := range a.c.Layers {
		a.c.Layers[i].Gates = slices.Clone(l.Gates)
	}
	a.input, a.output, a.draws = slices.Clone(a.input), slices.Clone(a.output), slices.Clone(a.draws)
	a.proof.Parts = slices.Clone(a.proof.Parts)
	for i, part := range a.proof.Parts {
		rounds := slices.Clone(part.Rounds)
		for j, r := range rounds {
			rounds[j] = slices.Clone(r)
		}
		a.proof.Parts[i] = api.Part{Rounds: rounds, Line: slices.Clone(part.Line)}
	}
	return a
}

// taken is what is drawn for part i: x, y, and the line's draw.
func (a told) taken(i int) (x, y []uint64, line uint64) {
	logs := logsOf(a.c)
	top := len(a.c.Layers)
	draws := a.draws[logs[top]:]
	for j := top - 1; j > top-1-i; j-- {
		draws = draws[2*logs[j]+1:]
	}
	k := logs[top-1-i]
	return draws[:k], draws[k : 2*k], draws[2*k]
}

func TestExamples(t *testing.T) {
	if n := mustDraws(t, tiny()); n != 6 {
		t.Errorf("Draws of tiny: %d", n)
	}
	a := prove(t, tiny(), []uint64{3, 4}, []uint64{5, 6, 7, 8, 9, 10})
	// Above: (1 - x)y(12 - 5x)(12 - 5y), at 5 and 6; then at 12, with weights -11
	// and 12, (1 - x)y(-11(3 + x)(3 + y) + 12(6 + x + y)), at 8 and 9.
	want := api.Proof{Parts: []api.Part{
		{Rounds: [][]uint64{{84, 0, p - 14}, {0, 364, 208}}, Line: []uint64{p - 13, p - 18}},
		{Rounds: [][]uint64{{p - 48, 0, 112}, {0, 2128, 5782}}, Line: []uint64{11, 12}},
	}}
	if !reflect.DeepEqual(a.proof, want) {
		t.Errorf("Prove of tiny: %v", a.proof)
	}
	a.is(t, true, "tiny")
	// 3 and 4 are proved to be 12 and 7.
	c := tiny()
	c.Layers = c.Layers[:1]
	a = prove(t, c, []uint64{3, 4}, []uint64{5, 6, 7, 8})
	a.output = []uint64{12, 7}
	a.is(t, true, "12 and 7")
	a.output = []uint64{7, 12}
	a.is(t, false, "7 and 12")
}

// P14: the highest layer's Log, and for each layer one more than twice that below.
func TestDraws(t *testing.T) {
	draw := drawer(13)
	for _, c := range circuits() {
		want := 0
		for _, log := range logsOf(c) {
			want += 2*log + 1
		}
		want -= c.Layers[len(c.Layers)-1].Log + 1
		if n := mustDraws(t, c); n != want {
			t.Errorf("Draws of %v: %d, not %d", logsOf(c), n, want)
		}
	}
	for _, c := range []struct {
		logs []int
		want int
	}{{[]int{0, 0}, 1}, {[]int{0, 4}, 5}, {[]int{4, 0}, 9}, {[]int{1, 2, 3}, 11}, {[]int{3, 2, 1}, 13}, {[]int{4, 4, 4, 4, 4}, 40}} {
		if n := mustDraws(t, ofLogs(draw, c.logs...)); n != c.want {
			t.Errorf("Draws of %v: %d, not %d", c.logs, n, c.want)
		}
	}
}

// asWords proves as P15's words say it, from F alone.
type asWords struct {
	t     *testing.T
	c     api.Circuit
	layer int
	below []uint64
	z     []uint64
}

func (w asWords) valueAt(point []uint64) uint64 {
	v, e := mle.Eval(w.below, point)
	if e != api.OK {
		w.t.Fatalf("Eval of %v at %v: error %d", w.below, point, e)
	}
	return v
}

// f is F at a point of x and y.
func (w asWords) f(point []uint64) uint64 {
	x, y := point[:len(point)/2], point[len(point)/2:]
	v, e := wiring.Step(w.c, w.layer, w.z, x, y, w.valueAt(x), w.valueAt(y))
	if e != api.OK {
		w.t.Fatalf("Step of layer %d of %v: error %d", w.layer, w.c, e)
	}
	return v
}

// sumBehind is the sum of F where the first numbers are those of head, and each
// behind them is 0 and 1.
func (w asWords) sumBehind(head []uint64, behind int) uint64 {
	all := uint64(0)
	for b := range 1 << behind {
		point := slices.Clone(head)
		for i := range behind {
			point = append(point, uint64(b>>i&1))
		}
		all = field.Add(all, w.f(point))
	}
	return all
}

func (w asWords) rounds(drawn []uint64) [][]uint64 {
	rounds := make([][]uint64, len(drawn))
	for i := range drawn {
		for at := uint64(0); at <= 2; at++ {
			head := append(slices.Clone(drawn[:i]), at)
			rounds[i] = append(rounds[i], w.sumBehind(head, len(drawn)-i-1))
		}
	}
	return rounds
}

// onLine is x + s(y - x), reckoned as (1 - s)x + sy.
func onLine(x, y []uint64, s uint64) []uint64 {
	point := make([]uint64, len(x))
	for i := range x {
		point[i] = field.Add(field.Mul(field.Sub(1, s), x[i]), field.Mul(s, y[i]))
	}
	return point
}

// wantProof is what P15 says of what is told in a.
func wantProof(t *testing.T, a told) api.Proof {
	values, e := circuit.Run(a.c, a.input)
	if e != api.OK {
		t.Fatalf("Run of %v: error %d", a.c, e)
	}
	var proof api.Proof
	top := len(a.c.Layers)
	z := a.draws[:a.c.Layers[top-1].Log]
	for i := range top {
		layer := top - 1 - i
		x, y, line := a.taken(i)
		w := asWords{t, a.c, layer, values[layer], z}
		part := api.Part{Rounds: w.rounds(slices.Concat(x, y))}
		for s := range len(x) + 1 {
			part.Line = append(part.Line, w.valueAt(onLine(x, y, uint64(s))))
		}
		proof.Parts = append(proof.Parts, part)
		z = onLine(x, y, line)
	}
	return proof
}

// sameProof: are two proofs the same, number by number?
func sameProof(a, b api.Proof) bool {
	return slices.EqualFunc(a.Parts, b.Parts, func(a, b api.Part) bool {
		return slices.EqualFunc(a.Rounds, b.Rounds, slices.Equal[[]uint64]) && slices.Equal(a.Line, b.Line)
	})
}

// P15: the proof is what its words say, whatever the numbers' 64 bits are.
func TestProveAsItsWords(t *testing.T) {
	draw := drawer(17)
	for _, c := range circuits() {
		for _, next := range []func(func() uint64, int) []uint64{far, numbers} {
			a := prove(t, c, next(draw, 1<<c.Log), next(draw, mustDraws(t, c)))
			if want := wantProof(t, a); !sameProof(a.proof, want) {
				t.Fatalf("Prove of %v, %v, %v: %v, not %v", c, a.input, a.draws, a.proof, want)
			}
		}
	}
}

// A round hangs on the draws ahead of it alone, and a line on those ahead of its
// own: else one could not be asked for draws one by one.
func TestToldAheadOfDraws(t *testing.T) {
	draw := drawer(19)
	for _, c := range circuits() {
		a := prove(t, c, far(draw, 1<<c.Log), far(draw, mustDraws(t, c)))
		told := inOrder(a.proof)
		top := c.Layers[len(c.Layers)-1].Log
		for ahead := range len(a.draws) - top {
			draws := slices.Clone(a.draws)
			for i := top + ahead; i < len(draws); i++ {
				draws[i] = draw()
			}
			other := inOrder(prove(t, c, a.input, draws).proof)
			if !slices.EqualFunc(told[:ahead+1], other[:ahead+1], slices.Equal[[]uint64]) {
				t.Fatalf("%v: what is told ahead of draw %d hangs on it", logsOf(c), top+ahead)
			}
		}
	}
}

// inOrder are a proof's lists in the order in which they are told.
func inOrder(proof api.Proof) [][]uint64 {
	var all [][]uint64
	for _, part := range proof.Parts {
		all = append(append(all, part.Rounds...), part.Line)
	}
	return all
}

// What is right is proved, whatever is drawn.
func TestWhatIsRightHolds(t *testing.T) {
	draw := drawer(23)
	same := func(a uint64) func(func() uint64, int) []uint64 {
		return func(_ func() uint64, n int) []uint64 { return list(n, func() uint64 { return a }) }
	}
	kinds := []func(func() uint64, int) []uint64{far, numbers, same(0), same(1), same(2), same(p - 1), same(p), same(1<<64 - 1)}
	for _, c := range circuits() {
		for _, inputs := range kinds {
			for _, draws := range kinds {
				a := prove(t, c, inputs(draw, 1<<c.Log), draws(draw, mustDraws(t, c)))
				if e := gkr.Form(c, a.proof); e != api.OK {
					t.Fatalf("Form of %v, %v: error %d", c, a.proof, e)
				}
				a.is(t, true, "what is right")
			}
		}
	}
}

// raise makes of rests greater numbers of the same rests.
func raise(l []uint64) {
	for i := range l {
		l[i] += p * uint64(1+i%7)
	}
}

// Numbers of 64 bits stand for their rests in all that Verify is handed.
func TestVerifyTakesRests(t *testing.T) {
	draw := drawer(29)
	for _, c := range circuits() {
		rests := func(n int) []uint64 { return list(n, func() uint64 { return field.Norm(draw()) }) }
		a := prove(t, c, rests(1<<c.Log), rests(mustDraws(t, c))).copied()
		raise(a.input)
		raise(a.output)
		raise(a.draws)
		for _, l := range inOrder(a.proof) {
			raise(l)
		}
		a.is(t, true, "greater numbers")
		a.output[0]++
		a.is(t, false, "greater numbers, one more")
	}
}

// P16: an output or an input that is another one does not hold.
func TestOtherEndsFail(t *testing.T) {
	for _, a := range proveAll(t) {
		for i := range a.output {
			b := a.copied()
			b.output[i]++
			b.is(t, false, "another output")
		}
		for i := range a.input {
			b := a.copied()
			b.input[i] = field.Add(b.input[i], 1)
			b.is(t, false, "another input")
		}
	}
}

// Where all that is told is nought, an output that isn't does not hold, though
// Step is 0, and what is claimed at last is right.
func TestNoughtsFail(t *testing.T) {
	draw := drawer(43)
	for _, c := range circuits() {
		a := prove(t, c, make([]uint64, 1<<c.Log), far(draw, mustDraws(t, c)))
		a.is(t, true, "noughts")
		a.output[0] = 1
		a.is(t, false, "noughts, and 1")
	}
}

// P16: a proof in which one number is another one does not hold.
func TestOtherNumbersFail(t *testing.T) {
	for _, a := range proveAll(t) {
		for at, l := range inOrder(a.proof) {
			for i := range l {
				for _, by := range []uint64{1, p - 1, 1 << 60} {
					b := a.copied()
					told := inOrder(b.proof)[at]
					told[i] = field.Add(told[i], by)
					b.is(t, false, "another number told")
				}
			}
		}
	}
}

// Each draw counts: the proof for some draws is none for others, but that the
// last line, which is right, is right at any.
func TestOtherDrawsFail(t *testing.T) {
	draw := drawer(31)
	a := prove(t, ofLogs(draw, 3, 3, 3, 3), far(draw, 8), far(draw, 24))
	for i := range a.draws {
		b := a.copied()
		b.draws[i] = draw()
		b.is(t, i == len(a.draws)-1, "another draw")
	}
	a.draws = slices.Concat(a.draws[1:], a.draws[:1])
	a.is(t, false, "draws in another order")
}

// bend adds to the values of a polynomial those of another one.
func bend(values []uint64, by func(x uint64) uint64) {
	for i, v := range values {
		values[i] = field.Add(v, by(uint64(i)))
	}
}

// nought is x - at: a polynomial that is 0 there alone.
func nought(at uint64) func(x uint64) uint64 {
	return func(x uint64) uint64 { return field.Sub(x, at) }
}

// drawnFor are the rounds' draws of part i, as one list, and the line's.
func (a told) drawnFor(i int) ([]uint64, uint64) {
	x, y, line := a.taken(i)
	return slices.Concat(x, y), line
}

// P16: a round is held against what is claimed, even if it is right at its draw,
// so that all behind it fits.
func TestRoundThatIsRightAtItsDraw(t *testing.T) {
	for _, a := range proveAll(t) {
		for i, part := range a.proof.Parts {
			drawn, _ := a.drawnFor(i)
			for j := range part.Rounds {
				b := a.copied()
				bend(b.proof.Parts[i].Rounds[j], nought(drawn[j]))
				b.is(t, false, "a round that does not fit what is claimed")
			}
		}
	}
}

// P16: Step is held against what is claimed, even if Line is right at its draw.
func TestLineThatIsRightAtItsDraw(t *testing.T) {
	for _, a := range proveAll(t) {
		for i, part := range a.proof.Parts {
			_, line := a.drawnFor(i)
			if len(part.Line) > 1 {
				b := a.copied()
				bend(b.proof.Parts[i].Line, nought(line))
				b.is(t, false, "a line that does not fit its rounds")
			}
		}
	}
}

// P16: of Line what it is at 0, at 1 and at its draw counts, and nothing else.
func TestLineThatIsRightAtItsEnds(t *testing.T) {
	for _, a := range proveAll(t) {
		for i, part := range a.proof.Parts {
			_, line := a.drawnFor(i)
			ends := func(x uint64) uint64 { return field.Mul(x, field.Sub(x, 1)) }
			if len(part.Line) > 2 {
				b := a.copied()
				bend(b.proof.Parts[i].Line, ends)
				b.is(t, false, "a line that is wrong at its draw")
			}
			if len(part.Line) > 3 {
				b := a.copied()
				bend(b.proof.Parts[i].Line, func(x uint64) uint64 { return field.Mul(ends(x), nought(line)(x)) })
				b.is(t, true, "a line that is right wherever it is asked")
			}
		}
	}
}

// A proof of what is wrong has told a polynomial that is wrong, and right at just
// the number that was drawn behind it: who knows the draws ahead makes one, at
// each round of the first part, and only with just these draws.
func TestWhatIsWrongHoldsAtItsDraw(t *testing.T) {
	for _, a := range proveAll(t) {
		drawn, _ := a.drawnFor(0)
		for at := range drawn {
			b := a.copied()
			b.output[0]++
			off := field.Sub(mustEval(t, b.output, a.firstZ()), mustEval(t, a.output, a.firstZ()))
			half, _ := field.Inv(2)
			for j := range at {
				off = field.Mul(off, half)
				bend(b.proof.Parts[0].Rounds[j], func(uint64) uint64 { return off })
			}
			// x - r is 1 - 2r at 0 and 1 together: so many times it is off.
			times, _ := field.Inv(field.Sub(1, field.Mul(2, drawn[at])))
			heal := field.Mul(off, times)
			bend(b.proof.Parts[0].Rounds[at], func(x uint64) uint64 { return field.Mul(heal, nought(drawn[at])(x)) })
			b.is(t, true, "wrong, and right at the draw")
			b.draws[a.c.Layers[len(a.c.Layers)-1].Log+at]++
			b.is(t, false, "wrong, and another draw")
		}
	}
}

// firstZ is the point Z of the highest layer.
func (a told) firstZ() []uint64 { return a.draws[:a.c.Layers[len(a.c.Layers)-1].Log] }

func mustEval(t *testing.T, table, point []uint64) uint64 {
	t.Helper()
	v, e := mle.Eval(table, point)
	if e != api.OK {
		t.Fatalf("Eval of %v at %v: error %d", table, point, e)
	}
	return v
}

// wrongCircuits are some, of each of Check's errors.
func wrongCircuits() map[string]api.Circuit {
	long, few, astray, high, low := tiny(), tiny(), tiny(), tiny(), tiny()
	long.Layers = slices.Repeat(long.Layers, 3)
	few.Layers[0].Gates = few.Layers[0].Gates[:1]
	astray.Layers[1].Gates[0].B = 2
	high.Layers[1].Log = 5
	low.Layers[0].Log = math.MinInt
	return map[string]api.Circuit{
		"nothing": {}, "no layer": {Log: 1}, "inputs' Log": {Log: -1, Layers: tiny().Layers},
		"a great Log": {Log: math.MaxInt, Layers: tiny().Layers}, "six layers": long, "a gate too few": few,
		"a place too high": astray, "a high Log": high, "a low Log": low,
	}
}

// Each call tells Check's error ahead of all else, and nothing beside it.
func TestWrongCircuits(t *testing.T) {
	seen := make(map[api.Errno]int)
	right := prove(t, tiny(), []uint64{3, 4}, []uint64{5, 6, 7, 8, 9, 10})
	for name, c := range wrongCircuits() {
		want := circuit.Check(c)
		seen[want]++
		if n, e := gkr.Draws(c); n != 0 || e != want {
			t.Errorf("%s: Draws %d, error %d, not %d", name, n, e, want)
		}
		for _, a := range []told{right, {}, {input: right.input}, {proof: right.proof}, {draws: right.draws}} {
			a.c = c
			if proof, e := gkr.Prove(c, a.input, a.draws); proof.Parts != nil || e != want {
				t.Errorf("%s: Prove %v, error %d, not %d", name, proof, e, want)
			}
			if e := gkr.Form(c, a.proof); e != want {
				t.Errorf("%s: Form %d, not %d", name, e, want)
			}
			a.refused(t, want, name)
		}
	}
	if seen[api.OK] != 0 || seen[api.ErrArg] == 0 || seen[api.ErrLarge] == 0 || seen[api.ErrForm] == 0 {
		t.Errorf("the circuits are not wrong as they should be: %v", seen)
	}
}

// otherLengths are lists of other lengths than n.
func otherLengths(n int) [][]uint64 {
	var all [][]uint64
	for _, length := range []int{0, 1, 2, 3, 4, n - 1, n + 1, 2 * n, n / 2, 1000} {
		if length != n && length >= 0 {
			all = append(all, make([]uint64, length))
		}
	}
	return all
}

// P15: Run's error of the inputs goes ahead of ErrArg of the draws.
func TestProveRefuses(t *testing.T) {
	for _, a := range proveAll(t) {
		for _, draws := range otherLengths(len(a.draws)) {
			if proof, e := gkr.Prove(a.c, a.input, draws); proof.Parts != nil || e != api.ErrArg {
				t.Errorf("%d draws for %v: %v, error %d", len(draws), logsOf(a.c), proof, e)
			}
		}
		for _, input := range otherLengths(len(a.input)) {
			for _, draws := range [][]uint64{a.draws, nil, make([]uint64, 99)} {
				if proof, e := gkr.Prove(a.c, input, draws); proof.Parts != nil || e != api.ErrForm {
					t.Errorf("%d inputs for %v: %v, error %d", len(input), logsOf(a.c), proof, e)
				}
			}
		}
	}
}

// P16: ErrForm of the inputs and outputs goes ahead of ErrArg of the draws, and
// both are told of proofs that don't hold, too.
func TestVerifyRefuses(t *testing.T) {
	for _, right := range proveAll(t) {
		wrong := right.copied()
		wrong.output[0]++
		for _, a := range []told{right, wrong} {
			for _, draws := range append(otherLengths(len(a.draws)), a.draws) {
				b := a
				b.draws = draws
				if len(draws) != len(a.draws) {
					b.refused(t, api.ErrArg, "draws")
				}
				for _, b.input = range otherLengths(len(a.input)) {
					b.refused(t, api.ErrForm, "inputs")
				}
				b.input = a.input
				for _, b.output = range otherLengths(len(a.output)) {
					b.refused(t, api.ErrForm, "outputs")
				}
			}
		}
	}
}

// badParts are those of no right form, made from a right one.
func badParts(part api.Part) map[string]api.Part {
	round := []uint64{0, 0, 0}
	all := map[string]api.Part{
		"a round too many":  {Rounds: append(slices.Clone(part.Rounds), round), Line: part.Line},
		"two rounds more":   {Rounds: append(slices.Clone(part.Rounds), round, round), Line: part.Line},
		"a line too long":   {Rounds: part.Rounds, Line: append(slices.Clone(part.Line), 0)},
		"a line too short":  {Rounds: part.Rounds, Line: part.Line[:len(part.Line)-1]},
		"no line":           {Rounds: part.Rounds},
		"a line of hundred": {Rounds: part.Rounds, Line: make([]uint64, 100)},
		"of a greater Log":  {Rounds: append(slices.Clone(part.Rounds), round, round), Line: append(slices.Clone(part.Line), 0)},
	}
	if len(part.Rounds) == 0 {
		return all
	}
	all["no rounds"] = api.Part{Line: part.Line}
	all["nothing"] = api.Part{}
	all["a round too few"] = api.Part{Rounds: part.Rounds[1:], Line: part.Line}
	for at := range part.Rounds {
		for _, n := range []int{0, 1, 2, 4, 8, 9, 100} {
			rounds := slices.Clone(part.Rounds)
			rounds[at] = make([]uint64, n)
			all[fmt.Sprintf("round %d of %d values", at, n)] = api.Part{Rounds: rounds, Line: part.Line}
		}
	}
	for _, n := range []int{2, 4} {
		rounds := make([][]uint64, len(part.Rounds))
		for i := range rounds {
			rounds[i] = make([]uint64, n)
		}
		all[fmt.Sprintf("rounds of %d values", n)] = api.Part{Rounds: rounds, Line: part.Line}
	}
	return all
}

// badProofs are those of no right form, made from a right one.
func badProofs(proof api.Proof) map[string]api.Proof {
	last := proof.Parts[len(proof.Parts)-1]
	all := map[string]api.Proof{
		"no part":         {},
		"a part too few":  {Parts: proof.Parts[:len(proof.Parts)-1]},
		"a part too many": {Parts: append(slices.Clone(proof.Parts), last)},
		"an empty part":   {Parts: append(slices.Clone(proof.Parts), api.Part{})},
	}
	for i, part := range proof.Parts {
		for name, bad := range badParts(part) {
			parts := slices.Clone(proof.Parts)
			parts[i] = bad
			all[fmt.Sprintf("%s, part %d", name, i)] = api.Proof{Parts: parts}
		}
	}
	return all
}

// P16: a proof of another form is ErrForm, ahead of ErrArg of the draws.
func TestForm(t *testing.T) {
	for _, a := range proveAll(t) {
		if e := gkr.Form(a.c, a.proof); e != api.OK {
			t.Fatalf("Form of %v, %v: error %d", a.c, a.proof, e)
		}
		for name, bad := range badProofs(a.proof) {
			if e := gkr.Form(a.c, bad); e != api.ErrForm {
				t.Errorf("%s, of %v: Form %d", name, logsOf(a.c), e)
			}
			b := a
			b.proof = bad
			b.refused(t, api.ErrForm, name)
			b.draws = nil
			b.refused(t, api.ErrForm, name)
		}
	}
}

// P16: the parts are those of the layers, the highest first, and the numbers in
// them don't matter to the form.
func TestFormOfWhichLayer(t *testing.T) {
	draw := drawer(37)
	shape := func(logs ...int) api.Proof {
		var proof api.Proof
		for _, k := range logs {
			part := api.Part{Line: far(draw, k+1)}
			for range 2 * k {
				part.Rounds = append(part.Rounds, numbers(draw, 3))
			}
			proof.Parts = append(proof.Parts, part)
		}
		return proof
	}
	c := ofLogs(draw, 1, 2, 4, 3)
	if e := gkr.Form(c, shape(4, 2, 1)); e != api.OK {
		t.Errorf("Form: error %d", e)
	}
	for _, logs := range [][]int{{1, 2, 4}, {3, 4, 2}, {4, 1, 2}, {2, 4, 3}, {4, 2, 1, 0}, {4, 2}, {0, 0, 0}} {
		if e := gkr.Form(c, shape(logs...)); e != api.ErrForm {
			t.Errorf("Form of parts of the Logs %v: error %d", logs, e)
		}
	}
}

// Lists without a number may be nil or empty.
func TestNothingInLists(t *testing.T) {
	for _, mul := range []bool{false, true} {
		a := prove(t, single(mul), []uint64{9}, []uint64{6})
		if len(a.proof.Parts) != 1 || len(a.proof.Parts[0].Rounds) != 0 || !slices.Equal(a.proof.Parts[0].Line, []uint64{9}) {
			t.Errorf("one gate: %v", a.proof)
		}
		for _, rounds := range [][][]uint64{nil, {}} {
			a.proof = api.Proof{Parts: []api.Part{{Rounds: rounds, Line: []uint64{9}}}}
			a.is(t, true, "one gate")
			a.proof.Parts[0].Line[0] = 8
			a.is(t, false, "one gate, another value")
			a.output[0]++
			a.is(t, false, "one gate, another output")
			a.output[0]--
		}
	}
	if e := gkr.Form(single(true), api.Proof{Parts: []api.Part{}}); e != api.ErrForm {
		t.Errorf("an empty list of parts: %d", e)
	}
}

// roomy is l, with room behind it in which something stands.
func roomy[T any](l []T, behind T) []T {
	return append(append(make([]T, 0, len(l)+3), l...), behind)[:len(l)]
}

func (a told) roomy() told {
	b := a.copied()
	b.c.Layers = roomy(b.c.Layers, api.Layer{Log: 91})
	for i, l := range b.c.Layers {
		b.c.Layers[i].Gates = roomy(l.Gates, api.Gate{A: 91})
	}
	b.input, b.output, b.draws = roomy(b.input, 92), roomy(b.output, 93), roomy(b.draws, 94)
	b.proof.Parts = roomy(b.proof.Parts, api.Part{Line: []uint64{95}})
	for i, part := range b.proof.Parts {
		for j, r := range part.Rounds {
			part.Rounds[j] = roomy(r, 96)
		}
		b.proof.Parts[i] = api.Part{Rounds: roomy(part.Rounds, []uint64{97}), Line: roomy(part.Line, 98)}
	}
	return b
}

// whole is what is told, copied, with the room behind its lists as parts of them.
func (a told) whole() told {
	a.c.Layers = a.c.Layers[:cap(a.c.Layers)]
	a.input, a.output, a.draws = a.input[:cap(a.input)], a.output[:cap(a.output)], a.draws[:cap(a.draws)]
	a.proof.Parts = a.proof.Parts[:cap(a.proof.Parts)]
	b := a.copied()
	for i, l := range a.c.Layers {
		b.c.Layers[i].Gates = slices.Clone(l.Gates[:cap(l.Gates)])
	}
	for i, part := range a.proof.Parts {
		rounds := slices.Clone(part.Rounds[:cap(part.Rounds)])
		for j, r := range rounds {
			rounds[j] = slices.Clone(r[:cap(r)])
		}
		b.proof.Parts[i] = api.Part{Rounds: rounds, Line: slices.Clone(part.Line[:cap(part.Line)])}
	}
	return b
}

// P2: neither what is handed in nor the room behind it is changed, and it is not
// seen in an answer.
func TestArgumentsStay(t *testing.T) {
	for _, a := range proveAll(t) {
		b := a.roomy()
		for _, l := range append(inOrder(b.proof), b.output) {
			raise(l)
		}
		before := b.whole()
		if n := mustDraws(t, b.c); n != len(a.draws) {
			t.Fatalf("Draws: %d, not %d", n, len(a.draws))
		}
		if proof := prove(t, b.c, b.input, b.draws).proof; !sameProof(proof, a.proof) {
			t.Fatalf("Prove: %v, not %v", proof, a.proof)
		}
		if e := gkr.Form(b.c, b.proof); e != api.OK {
			t.Fatalf("Form: error %d", e)
		}
		b.is(t, true, "with room behind its lists")
		if after := b.whole(); !reflect.DeepEqual(after, before) {
			t.Fatalf("%v has become %v", before, after)
		}
	}
}

// P2: no list of a proof shares memory, its spare room included, with another or
// with what was handed in.
func TestProofIsNewMemory(t *testing.T) {
	for _, a := range proveAll(t) {
		b := a.roomy()
		before := b.whole()
		proof := prove(t, b.c, b.input, b.draws).proof
		told := inOrder(proof)
		for i, l := range told {
			l = l[:cap(l)]
			for j := range l {
				l[j] = uint64(1000 + i)
			}
		}
		for i, l := range told {
			for _, v := range l {
				if v != uint64(1000+i) {
					t.Fatalf("list %d of %v shares memory with another", i, logsOf(a.c))
				}
			}
		}
		for _, part := range proof.Parts {
			if slices.ContainsFunc(part.Rounds, func(l []uint64) bool { return l == nil }) {
				t.Fatalf("a part of %v shares its list of rounds with another", logsOf(a.c))
			}
			clear(part.Rounds[:cap(part.Rounds)])
		}
		clear(proof.Parts[:cap(proof.Parts)])
		if !reflect.DeepEqual(b.whole(), before) {
			t.Fatalf("a proof of %v shares memory with what was handed in", logsOf(a.c))
		}
	}
}

// P2: an answer doesn't hang on what was asked ahead of it, or on what becomes of
// a list that was handed in or answered.
func TestAnswersHangOnArgumentsAlone(t *testing.T) {
	all := proveAll(t)
	for i, a := range slices.Backward(all) {
		mine := a.copied()
		proof := prove(t, mine.c, mine.input, mine.draws).proof
		mine.is(t, true, "again")
		for _, l := range append(inOrder(mine.proof), mine.input, mine.output, mine.draws) {
			for j := range l {
				l[j] = 77
			}
		}
		mine.c.Layers[0].Gates[0].Mul = !mine.c.Layers[0].Gates[0].Mul
		if !sameProof(proof, a.proof) {
			t.Fatalf("Prove of %v, at first %v, is %v", a.c, a.proof, proof)
		}
		all[i].is(t, true, "again, and others changed")
	}
}

// Lists that share memory are lists like others.
func TestListsThatShare(t *testing.T) {
	draw := drawer(41)
	l := far(draw, 10)
	c := ofLogs(draw, 2, 2)
	a := prove(t, c, l[3:7], l[:7])
	if want := wantProof(t, a); !sameProof(a.proof, want) {
		t.Errorf("Prove: %v, not %v", a.proof, want)
	}
	a.is(t, true, "lists that share")
	// Of noughts all is nought: one list may stand for all that is told.
	nothing := []uint64{0, 0, 0, 0}
	part := api.Part{Rounds: slices.Repeat([][]uint64{nothing[:3]}, 4), Line: nothing[:3]}
	b := told{c, nothing, nothing, api.Proof{Parts: []api.Part{part}}, l[:7]}
	b.is(t, true, "one list for all")
}
