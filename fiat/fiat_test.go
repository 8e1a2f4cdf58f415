package fiat_test

import (
	"fmt"
	"math"
	"reflect"
	"slices"
	"testing"

	"tallystick/api"
	"tallystick/circuit"
	"tallystick/fiat"
	"tallystick/field"
	"tallystick/gkr"
	"tallystick/sponge"
)

const p = api.P

// drawer gives numbers of 64 bits, the same ones in each run.
func drawer(seed uint64) func() uint64 {
	x := seed
	return func() uint64 {
		x = x*6364136223846793005 + 1442695040888963407
		return x ^ x>>29
	}
}

// number is one of anywhere among the 64 bits, or of around P's multiples.
func number(draw func() uint64) uint64 {
	if pick(draw, 2) == 0 {
		return draw()
	}
	return uint64(1+pick(draw, 8))*p - 2 + uint64(pick(draw, 5))
}

func list(n int, next func() uint64) []uint64 {
	l := make([]uint64, n)
	for i := range l {
		l[i] = next()
	}
	return l
}

// numbers are n of them; some have the rest 0 or 1.
func numbers(draw func() uint64, n int) []uint64 {
	return list(n, func() uint64 { return number(draw) })
}

// far are n numbers from anywhere among the 64 bits.
func far(draw func() uint64, n int) []uint64 { return list(n, draw) }

// pick is a number from 0 to n - 1.
func pick(draw func() uint64, n int) int { return int(draw() >> 16 % uint64(n)) }

// drawLayer is a layer of 2^log gates over one of 2^below numbers.
func drawLayer(draw func() uint64, log, below int) api.Layer {
	l := api.Layer{Log: log, Gates: make([]api.Gate, 1<<log)}
	for i := range l.Gates {
		l.Gates[i] = api.Gate{Mul: pick(draw, 2) == 1, A: pick(draw, 1<<below), B: pick(draw, 1<<below)}
	}
	return l
}

// ofLogs is a circuit whose inputs and layers have these Logs.
func ofLogs(draw func() uint64, logs ...int) api.Circuit {
	c := api.Circuit{Log: logs[0]}
	for i, log := range logs[1:] {
		c.Layers = append(c.Layers, drawLayer(draw, log, logs[i]))
	}
	return c
}

// logsOf are the Logs of the inputs and of each layer.
func logsOf(c api.Circuit) []int {
	logs := []int{c.Log}
	for _, l := range c.Layers {
		logs = append(logs, l.Log)
	}
	return logs
}

// tiny is the circuit of the document's examples.
func tiny() api.Circuit {
	return api.Circuit{Log: 1, Layers: []api.Layer{
		{Log: 1, Gates: []api.Gate{{Mul: true, A: 0, B: 1}, {Mul: false, A: 0, B: 1}}},
		{Log: 0, Gates: []api.Gate{{Mul: true, A: 0, B: 1}}},
	}}
}

// single is the smallest circuit there is.
func single(mul bool) api.Circuit {
	return api.Circuit{Layers: []api.Layer{{Gates: []api.Gate{{Mul: mul}}}}}
}

// circuits are right ones, of each number of layers, and of each Log over each.
func circuits() []api.Circuit {
	draw := drawer(7)
	all := []api.Circuit{
		tiny(), single(false), single(true),
		ofLogs(draw, 4, 4, 4, 4, 4), ofLogs(draw, 0, 0, 0, 0, 0), ofLogs(draw, 2, 4, 0, 3, 1), ofLogs(draw, 0, 4, 0, 4),
	}
	for log := range api.MaxLog + 1 {
		for below := range api.MaxLog + 1 {
			all = append(all, ofLogs(draw, below, log))
		}
	}
	for i := range 12 {
		logs := make([]int, 2+i%api.MaxLayers)
		for j := range logs {
			logs[j] = pick(draw, api.MaxLog+1)
		}
		all = append(all, ofLogs(draw, logs...))
	}
	return all
}

// told is all that Verify is asked.
type told struct {
	c             api.Circuit
	input, output []uint64
	proof         api.Proof
}

// prove is what is told of a circuit, without asking.
func prove(t *testing.T, c api.Circuit, input []uint64) told {
	t.Helper()
	output, proof, e := fiat.Prove(c, input)
	if e != api.OK {
		t.Fatalf("Prove of %v, %v: error %d", c, input, e)
	}
	return told{c, input, output, proof}
}

// proveAll is what is told of all circuits. The inputs in it were never handed in,
// so that a call that made rests of them is seen.
func proveAll(t *testing.T) []told {
	t.Helper()
	draw := drawer(11)
	var all []told
	for _, c := range circuits() {
		input := far(draw, 1<<c.Log)
		a := prove(t, c, slices.Clone(input))
		a.input = input
		all = append(all, a)
	}
	return all
}

// is sees whether a proof of a right form holds, as it is wanted to.
func (a told) is(t *testing.T, want bool, what string) {
	t.Helper()
	if ok, e := fiat.Verify(a.c, a.input, a.output, a.proof); ok != want || e != api.OK {
		t.Fatalf("%s: %v, error %d, not %v: %v", what, ok, e, want, a)
	}
}

func (a told) refused(t *testing.T, want api.Errno, what string) {
	t.Helper()
	if ok, e := fiat.Verify(a.c, a.input, a.output, a.proof); ok || e != want {
		t.Errorf("%s: Verify: %v, error %d, not %d", what, ok, e, want)
	}
}

// holdsFor: does the proof hold for draws that are known ahead?
func (a told) holdsFor(t *testing.T, draws []uint64) bool {
	t.Helper()
	ok, e := gkr.Verify(a.c, a.input, a.output, a.proof, draws)
	if e != api.OK {
		t.Fatalf("gkr.Verify of %v for %v: error %d", a, draws, e)
	}
	return ok
}

// copied is what is told, with no memory of it.
func (a told) copied() told {
	a.c.Layers = slices.Clone(a.c.Layers)
	for i, l := range a.c.Layers {
		a.c.Layers[i].Gates = slices.Clone(l.Gates)
	}
	a.input, a.output = slices.Clone(a.input), slices.Clone(a.output)
	a.proof.Parts = slices.Clone(a.proof.Parts)
	for i, part := range a.proof.Parts {
		rounds := slices.Clone(part.Rounds)
		for j, r := range rounds {
			rounds[j] = slices.Clone(r)
		}
		a.proof.Parts[i] = api.Part{Rounds: rounds, Line: slices.Clone(part.Line)}
	}
	return a
}

// wordsOf is P17's list of a circuit, from its words.
func wordsOf(c api.Circuit) []uint64 {
	var words []uint64
	tell := func(n int) { words = append(words, uint64(n)) }
	tell(c.Log)
	tell(len(c.Layers))
	for _, l := range c.Layers {
		tell(l.Log)
		for _, g := range l.Gates {
			if g.Mul {
				tell(1)
			} else {
				tell(0)
			}
			tell(g.A)
			tell(g.B)
		}
	}
	return words
}

// given are the draws that the sponge gives, as P17's words say it.
func (a told) given(t *testing.T) []uint64 {
	t.Helper()
	s := sponge.New(1)
	take := func(l []uint64) {
		if e := s.Take(l); e != api.OK {
			t.Fatalf("Take of %d numbers: error %d", len(l), e)
		}
	}
	take(wordsOf(a.c))
	take(a.input)
	take(a.output)
	var draws []uint64
	for range a.c.Layers[len(a.c.Layers)-1].Log {
		draws = append(draws, s.Give())
	}
	for _, part := range a.proof.Parts {
		for _, round := range part.Rounds {
			take(round)
			draws = append(draws, s.Give())
		}
		take(part.Line)
		draws = append(draws, s.Give())
	}
	return draws
}

// inOrder are a proof's lists in the order in which they are told.
func inOrder(proof api.Proof) [][]uint64 {
	var all [][]uint64
	for _, part := range proof.Parts {
		all = append(append(all, part.Rounds...), part.Line)
	}
	return all
}

// sameProof: are two proofs the same, number by number?
func sameProof(a, b api.Proof) bool {
	return slices.EqualFunc(a.Parts, b.Parts, func(a, b api.Part) bool {
		return slices.EqualFunc(a.Rounds, b.Rounds, slices.Equal[[]uint64]) && slices.Equal(a.Line, b.Line)
	})
}

// The numbers were reckoned beside the program, from the document's words alone.
func TestExamples(t *testing.T) {
	a := prove(t, tiny(), []uint64{3, 4})
	want := api.Proof{Parts: []api.Part{
		{
			Rounds: [][]uint64{{84, 0, p - 14}, {0, 1268766643196612713, 2042634087091603808}},
			Line:   []uint64{1842594500864878834, 103636297027216748},
		},
		{
			Rounds: [][]uint64{{2238149898605447645, 0, 1071262047023619460}, {0, 659702140452552842, 1592768865593670916}},
			Line:   []uint64{953592786442364260, 1577954376300013131},
		},
	}}
	if !slices.Equal(a.output, []uint64{84}) || !reflect.DeepEqual(a.proof, want) {
		t.Errorf("Prove of tiny: %v, %v", a.output, a.proof)
	}
	a.is(t, true, "tiny")
	a.output = []uint64{85}
	a.is(t, false, "tiny, 85")

	c := tiny()
	c.Layers = c.Layers[:1]
	a = prove(t, c, []uint64{3, 4})
	want = api.Proof{Parts: []api.Part{{
		Rounds: [][]uint64{{1702536463610370997, 0, 866105798484571715}, {0, 275136784858376938, 1622580293578247337}},
		Line:   []uint64{2059199938987624209, 1716818592331009819},
	}}}
	if !slices.Equal(a.output, []uint64{12, 7}) || !reflect.DeepEqual(a.proof, want) {
		t.Errorf("Prove of tiny's lower layer: %v, %v", a.output, a.proof)
	}
	a.is(t, true, "12 and 7")
	a.output = []uint64{7, 12}
	a.is(t, false, "7 and 12")
}

// P17: Words are these numbers, in this order.
func TestWords(t *testing.T) {
	for _, c := range []struct {
		c    api.Circuit
		want []uint64
	}{
		{tiny(), []uint64{1, 2, 1, 1, 0, 1, 0, 0, 1, 0, 1, 0, 1}},
		{single(false), []uint64{0, 1, 0, 0, 0, 0}},
		{single(true), []uint64{0, 1, 0, 1, 0, 0}},
		{api.Circuit{Log: 2, Layers: []api.Layer{{Gates: []api.Gate{{Mul: true, A: 3, B: 2}}}}}, []uint64{2, 1, 0, 1, 3, 2}},
	} {
		if words, e := fiat.Words(c.c); e != api.OK || !slices.Equal(words, c.want) {
			t.Errorf("Words of %v: %v, error %d, not %v", c.c, words, e, c.want)
		}
	}
	for _, c := range circuits() {
		words, e := fiat.Words(c)
		if want := wordsOf(c); e != api.OK || !slices.Equal(words, want) {
			t.Errorf("Words of %v: %v, error %d, not %v", c, words, e, want)
		}
	}
}

// fromWords is the circuit that a list of words tells.
func fromWords(words []uint64) api.Circuit {
	next := func() int {
		n := words[0]
		words = words[1:]
		return int(n)
	}
	c := api.Circuit{Log: next()}
	c.Layers = make([]api.Layer, next())
	for i := range c.Layers {
		l := api.Layer{Log: next()}
		for range 1 << l.Log {
			l.Gates = append(l.Gates, api.Gate{Mul: next() == 1, A: next(), B: next()})
		}
		c.Layers[i] = l
	}
	return c
}

// Words tell the circuit, all of it; and the sponge can take them at once.
func TestWordsTellTheCircuit(t *testing.T) {
	for _, c := range circuits() {
		words, e := fiat.Words(c)
		if e != api.OK || len(words) > api.MaxWords {
			t.Fatalf("Words of %v: %d of them, error %d", c, len(words), e)
		}
		if back := fromWords(words); !reflect.DeepEqual(back, c) {
			t.Errorf("%v tells %v", c, back)
		}
	}
	if words, _ := fiat.Words(ofLogs(drawer(3), 4, 4, 4, 4, 4)); len(words) != 198 {
		t.Errorf("the greatest circuit has %d words", len(words))
	}
}

// P18: the outputs are Run's, and the proof is gkr.Prove's for the draws that the
// sponge gives, when it takes just that proof.
func TestProveAsItsWords(t *testing.T) {
	draw := drawer(17)
	for _, c := range circuits() {
		for _, next := range []func(func() uint64, int) []uint64{far, numbers} {
			a := prove(t, c, next(draw, 1<<c.Log))
			values, e := circuit.Run(c, a.input)
			if e != api.OK || !slices.Equal(a.output, values[len(values)-1]) {
				t.Fatalf("Prove of %v, %v: outputs %v, not %v", c, a.input, a.output, values)
			}
			want, e := gkr.Prove(c, a.input, a.given(t))
			if e != api.OK || !sameProof(a.proof, want) {
				t.Fatalf("Prove of %v, %v: %v, not %v (error %d)", c, a.input, a.proof, want, e)
			}
		}
	}
}

// What is right is proved.
func TestWhatIsRightHolds(t *testing.T) {
	draw := drawer(23)
	same := func(a uint64) func(func() uint64, int) []uint64 {
		return func(_ func() uint64, n int) []uint64 { return list(n, func() uint64 { return a }) }
	}
	kinds := []func(func() uint64, int) []uint64{far, numbers, same(0), same(1), same(p - 1), same(p), same(1<<64 - 1)}
	for _, c := range circuits() {
		for _, inputs := range kinds {
			a := prove(t, c, inputs(draw, 1<<c.Log))
			a.is(t, true, "what is right")
		}
	}
}

// raise makes of rests greater numbers of the same rests.
func raise(l []uint64) {
	for i := range l {
		l[i] += p * uint64(1+i%7)
	}
}

// Numbers of 64 bits stand for their rests in all that is handed in: the sponge
// gives the same draws for both.
func TestRestsCount(t *testing.T) {
	draw := drawer(29)
	for _, c := range circuits() {
		a := prove(t, c, list(1<<c.Log, func() uint64 { return field.Norm(draw()) })).copied()
		b := a.copied()
		raise(b.input)
		other := prove(t, c, b.input)
		if !slices.Equal(other.output, a.output) || !sameProof(other.proof, a.proof) {
			t.Fatalf("Prove of %v, %v: %v, not %v", c, b.input, other, a)
		}
		raise(b.output)
		for _, l := range inOrder(b.proof) {
			raise(l)
		}
		b.is(t, true, "greater numbers")
		b.output[0]++
		b.is(t, false, "greater numbers, one more")
	}
}

// An output or an input that is another one does not hold.
func TestOtherEndsFail(t *testing.T) {
	for _, a := range proveAll(t) {
		for i := range a.output {
			b := a.copied()
			b.output[i]++
			b.is(t, false, "another output")
		}
		for i := range a.input {
			b := a.copied()
			b.input[i] = field.Add(b.input[i], 1)
			b.is(t, false, "another input")
		}
	}
}

// A proof in which one number is another one does not hold.
func TestOtherNumbersFail(t *testing.T) {
	for _, a := range proveAll(t) {
		for at, l := range inOrder(a.proof) {
			for i := range l {
				b := a.copied()
				told := inOrder(b.proof)[at]
				told[i] = field.Add(told[i], 1)
				b.is(t, false, "another number told")
			}
		}
	}
}

// A proof told for other draws than the sponge's does not hold, though it does
// for these, and all of it is right.
func TestOtherDrawsFail(t *testing.T) {
	draw := drawer(31)
	for _, a := range proveAll(t) {
		draws := a.given(t)
		top := a.c.Layers[len(a.c.Layers)-1].Log
		// Where no round is told nothing hangs on what is drawn.
		if len(a.proof.Parts[0].Rounds) == 0 {
			continue
		}
		for _, at := range []int{0, top, len(draws) / 2} {
			b := a.copied()
			other := slices.Clone(draws)
			for i := at; i < len(other); i++ {
				other[i] = draw()
			}
			b.proof, _ = gkr.Prove(b.c, b.input, other)
			if !b.holdsFor(t, other) {
				t.Fatalf("gkr: %v does not hold for %v", b, other)
			}
			if !sameProof(b.proof, a.proof) {
				b.is(t, false, "a proof for other draws")
			}
		}
	}
}

// P17: a proof for the draws of a sponge that took not all of it, or took it in
// another way, does not hold.
func TestOtherSpongesFail(t *testing.T) {
	a := prove(t, ofLogs(drawer(47), 2, 2, 2), []uint64{1, 2, 3, 4})
	words := wordsOf(a.c)
	for name, s := range map[string]struct {
		word  uint64
		lists [][]uint64
	}{
		"another word":    {0, [][]uint64{words, a.input, a.output}},
		"no words":        {1, [][]uint64{a.input, a.output}},
		"no inputs":       {1, [][]uint64{words, a.output}},
		"no outputs":      {1, [][]uint64{words, a.input}},
		"another order":   {1, [][]uint64{words, a.output, a.input}},
		"all in one list": {1, [][]uint64{slices.Concat(words, a.input, a.output)}},
	} {
		b := a.copied()
		b.proof = proveBy(t, b, s.word, s.lists)
		b.is(t, false, name)
	}
	b := a.copied()
	b.proof = proveBy(t, b, 1, [][]uint64{words, a.input, a.output})
	b.is(t, true, "the sponge")
}

// proveBy is the proof for the draws of a sponge that took these lists.
func proveBy(t *testing.T, a told, word uint64, lists [][]uint64) api.Proof {
	s := sponge.New(word)
	for _, l := range lists {
		s.Take(l)
	}
	count, _ := gkr.Draws(a.c)
	draws := make([]uint64, count)
	top := a.c.Layers[len(a.c.Layers)-1].Log
	for i := range top {
		draws[i] = s.Give()
	}
	for at := range count - top {
		proof, e := gkr.Prove(a.c, a.input, draws)
		if e != api.OK {
			t.Fatalf("gkr.Prove of %v: error %d", a.c, e)
		}
		s.Take(inOrder(proof)[at])
		draws[top+at] = s.Give()
	}
	proof, _ := gkr.Prove(a.c, a.input, draws)
	if a.proof = proof; !a.holdsFor(t, draws) {
		t.Fatalf("gkr: %v does not hold for %v", a, draws)
	}
	return proof
}

// bend adds to the values of a polynomial those of another one.
func bend(values []uint64, by func(x uint64) uint64) {
	for i, v := range values {
		values[i] = field.Add(v, by(uint64(i)))
	}
}

// hidden is (x - at)(x + b), with a b for which it is 0 at 0 and 1 together: a
// round bent by it fits what is claimed, and is right at this draw alone.
func hidden(at uint64) func(x uint64) uint64 {
	over, _ := field.Inv(field.Sub(1, field.Mul(2, at)))
	b := field.Mul(field.Sub(at, 1), over)
	return func(x uint64) uint64 { return field.Mul(field.Sub(x, at), field.Add(x, b)) }
}

// inside is x(x - 1)(x - at): a line bent by it is what it was at 0 and at 1, too.
func inside(at uint64) func(x uint64) uint64 {
	return func(x uint64) uint64 { return field.Mul(field.Mul(x, field.Sub(x, 1)), field.Sub(x, at)) }
}

// P17: each list is taken ahead of its draw: who bends one so that it is right at
// the draw that would have been has another draw by that.
func TestListsAreTakenAheadOfTheirDraws(t *testing.T) {
	bent := 0
	for _, a := range proveAll(t) {
		draws := a.given(t)
		top := a.c.Layers[len(a.c.Layers)-1].Log
		for at, l := range inOrder(a.proof) {
			b := a.copied()
			mine := inOrder(b.proof)[at]
			drawn := draws[top+at]
			switch {
			case isRound(a.proof, at):
				bend(mine, hidden(drawn))
			case len(l) > 3:
				bend(mine, inside(drawn))
			default:
				continue
			}
			bent++
			if !b.holdsFor(t, draws) {
				t.Fatalf("gkr: list %d of %v, bent, does not hold", at, b)
			}
			b.is(t, false, "a list that is right at a draw that is none")
		}
	}
	if bent == 0 {
		t.Error("nothing was bent")
	}
}

// isRound: is list at of a proof a round, and not a line?
func isRound(proof api.Proof, at int) bool {
	for _, part := range proof.Parts {
		if at <= len(part.Rounds) {
			return at < len(part.Rounds)
		}
		at -= len(part.Rounds) + 1
	}
	return false
}

// otherAt is a table that is another one, but the same at a point of its
// variables, the last of which is neither 0 nor 1.
func otherAt(table, point []uint64) []uint64 {
	other := slices.Clone(table)
	last := point[len(point)-1]
	// Numbers 0 and 1 have weights as 1 - last and last.
	other[0] = field.Add(other[0], last)
	other[1] = field.Add(other[1], field.Sub(last, 1))
	return other
}

// P17: inputs and outputs are taken ahead of all draws: who takes others that are
// the same where they would be asked has other draws by that.
func TestEndsAreTakenAheadOfAllDraws(t *testing.T) {
	for _, a := range proveAll(t) {
		draws := a.given(t)
		if top := a.c.Layers[len(a.c.Layers)-1].Log; top > 0 && len(a.proof.Parts[0].Rounds) > 0 {
			b := a.copied()
			b.output = otherAt(a.output, draws[:top])
			if !b.holdsFor(t, draws) {
				t.Fatalf("gkr: other outputs of %v, the same at Z, don't hold", a)
			}
			b.is(t, false, "other outputs, the same at a Z that is none")
		}
		if k := a.c.Log; k > 0 {
			b := a.copied()
			b.input = otherAt(a.input, lastZ(a, draws))
			if !b.holdsFor(t, draws) {
				t.Fatalf("gkr: other inputs of %v, the same at the last Z, don't hold", a)
			}
			b.is(t, false, "other inputs, the same at a Z that is none")
		}
	}
}

// lastZ is the point at which the inputs are asked.
func lastZ(a told, draws []uint64) []uint64 {
	k := a.c.Log
	end := draws[len(draws)-2*k-1:]
	z := make([]uint64, k)
	for i := range z {
		z[i] = field.Add(end[i], field.Mul(end[2*k], field.Sub(end[k+i], end[i])))
	}
	return z
}

// P17: the circuit is taken, too. Of 2 both circuits make 4, and they tell the
// same: without rounds nothing hangs on the draws. With rounds it does.
func TestTheCircuitIsTaken(t *testing.T) {
	a := prove(t, single(true), []uint64{2})
	a.is(t, true, "2 times 2")
	a.c = single(false)
	a.is(t, true, "2 and 2")

	// Which of two numbers that are the same a gate takes is seen by the circuit
	// alone: inputs, outputs and all values are the same ones.
	c := ofLogs(drawer(53), 1, 1)
	other := told{c: c}.copied().c
	other.Layers[0].Gates[1].A ^= 1
	input := []uint64{6, 6}
	a, b := prove(t, c, input), prove(t, other, input)
	if !slices.Equal(a.output, b.output) || slices.Equal(a.given(t), b.given(t)) {
		t.Errorf("%v and %v", a, b)
	}
	a.c, b.c = b.c, a.c
	a.is(t, false, "another circuit")
	b.is(t, false, "another circuit")
}

// P18: for whatever is told Verify is gkr.Verify for the draws that the sponge
// gives, when it takes just that.
func TestVerifyAsItsWords(t *testing.T) {
	draw := drawer(59)
	for _, a := range proveAll(t) {
		for range 5 {
			b := a.copied()
			for _, l := range append(inOrder(b.proof), b.input, b.output) {
				if pick(draw, 4) == 0 {
					l[pick(draw, len(l))] = number(draw)
				}
			}
			b.is(t, b.holdsFor(t, b.given(t)), "some numbers are others")
		}
	}
}

// wrongCircuits are some, of each of Check's errors.
func wrongCircuits() map[string]api.Circuit {
	long, few, astray, below, high, low := tiny(), tiny(), tiny(), tiny(), tiny(), tiny()
	long.Layers = slices.Repeat(long.Layers, 3)
	few.Layers[0].Gates = few.Layers[0].Gates[:1]
	astray.Layers[1].Gates[0].B = 2
	below.Layers[0].Gates[1].A = -1
	high.Layers[1].Log = 5
	low.Layers[0].Log = math.MinInt
	return map[string]api.Circuit{
		"nothing": {}, "no layer": {Log: 1}, "inputs' Log": {Log: -1, Layers: tiny().Layers},
		"a great Log": {Log: math.MaxInt, Layers: tiny().Layers}, "six layers": long, "a gate too few": few,
		"a place too high": astray, "a place too low": below, "a high Log": high, "a low Log": low,
	}
}

// Each call tells Check's error ahead of all else, and nothing beside it.
func TestWrongCircuits(t *testing.T) {
	seen := make(map[api.Errno]int)
	right := prove(t, tiny(), []uint64{3, 4})
	for name, c := range wrongCircuits() {
		want := circuit.Check(c)
		seen[want]++
		if words, e := fiat.Words(c); words != nil || e != want {
			t.Errorf("%s: Words %v, error %d, not %d", name, words, e, want)
		}
		for _, a := range []told{right, {}, {input: right.input}, {output: right.output}, {proof: right.proof}} {
			a.c = c
			if output, proof, e := fiat.Prove(c, a.input); output != nil || proof.Parts != nil || e != want {
				t.Errorf("%s: Prove %v, %v, error %d, not %d", name, output, proof, e, want)
			}
			a.refused(t, want, name)
		}
	}
	if seen[api.OK] != 0 || seen[api.ErrArg] == 0 || seen[api.ErrLarge] == 0 || seen[api.ErrForm] == 0 {
		t.Errorf("the circuits are not wrong as they should be: %v", seen)
	}
}

// otherLengths are lists of other lengths than n: some that a sponge can't take.
func otherLengths(n int) [][]uint64 {
	var all [][]uint64
	for _, length := range []int{0, 1, 2, 3, 4, n - 1, n + 1, 2 * n, n / 2, api.MaxWords, api.MaxWords + 1, 5000} {
		if length != n && length >= 0 {
			all = append(all, make([]uint64, length))
		}
	}
	return all
}

// P18: inputs of another length are Run's error.
func TestProveRefuses(t *testing.T) {
	for _, a := range proveAll(t) {
		for _, input := range otherLengths(len(a.input)) {
			if output, proof, e := fiat.Prove(a.c, input); output != nil || proof.Parts != nil || e != api.ErrForm {
				t.Errorf("%d inputs for %v: %v, %v, error %d", len(input), logsOf(a.c), output, proof, e)
			}
		}
	}
}

// P18: inputs and outputs of another length are ErrForm, of proofs that hold and
// of others.
func TestVerifyRefusesOtherEnds(t *testing.T) {
	for _, right := range proveAll(t) {
		wrong := right.copied()
		wrong.output[0]++
		for _, a := range []told{right, wrong} {
			b := a
			for _, b.input = range otherLengths(len(a.input)) {
				b.refused(t, api.ErrForm, "inputs")
			}
			b.input = a.input
			for _, b.output = range otherLengths(len(a.output)) {
				b.refused(t, api.ErrForm, "outputs")
			}
		}
	}
}

// badParts are those of no right form, made from a right one.
func badParts(part api.Part) map[string]api.Part {
	round := []uint64{0, 0, 0}
	all := map[string]api.Part{
		"a round too many":    {Rounds: append(slices.Clone(part.Rounds), round), Line: part.Line},
		"two rounds more":     {Rounds: append(slices.Clone(part.Rounds), round, round), Line: part.Line},
		"a line too long":     {Rounds: part.Rounds, Line: append(slices.Clone(part.Line), 0)},
		"a line too short":    {Rounds: part.Rounds, Line: part.Line[:len(part.Line)-1]},
		"no line":             {Rounds: part.Rounds},
		"a line of thousands": {Rounds: part.Rounds, Line: make([]uint64, 5000)},
		"thousands of rounds": {Rounds: slices.Repeat([][]uint64{round}, 5000), Line: part.Line},
		"of a greater Log":    {Rounds: append(slices.Clone(part.Rounds), round, round), Line: append(slices.Clone(part.Line), 0)},
	}
	if len(part.Rounds) == 0 {
		return all
	}
	all["no rounds"] = api.Part{Line: part.Line}
	all["nothing"] = api.Part{}
	all["a round too few"] = api.Part{Rounds: part.Rounds[1:], Line: part.Line}
	for _, n := range []int{0, 1, 2, 4, 5000} {
		rounds := slices.Clone(part.Rounds)
		rounds[n%len(rounds)] = make([]uint64, n)
		all[fmt.Sprintf("a round of %d values", n)] = api.Part{Rounds: rounds, Line: part.Line}
	}
	return all
}

// badProofs are those of no right form, made from a right one.
func badProofs(proof api.Proof) map[string]api.Proof {
	last := proof.Parts[len(proof.Parts)-1]
	all := map[string]api.Proof{
		"no part":            {},
		"a part too few":     {Parts: proof.Parts[:len(proof.Parts)-1]},
		"a part too many":    {Parts: append(slices.Clone(proof.Parts), last)},
		"an empty part":      {Parts: append(slices.Clone(proof.Parts), api.Part{})},
		"thousands of parts": {Parts: slices.Repeat(proof.Parts, 5000)},
	}
	for i, part := range proof.Parts {
		for name, bad := range badParts(part) {
			parts := slices.Clone(proof.Parts)
			parts[i] = bad
			all[fmt.Sprintf("%s, part %d", name, i)] = api.Proof{Parts: parts}
		}
	}
	return all
}

// P18: a proof of another form is ErrForm.
func TestVerifyRefusesOtherForms(t *testing.T) {
	for _, a := range proveAll(t) {
		for name, bad := range badProofs(a.proof) {
			b := a
			b.proof = bad
			b.refused(t, api.ErrForm, name)
			b.input, b.output = nil, nil
			b.refused(t, api.ErrForm, name)
		}
	}
}

// A form that is wrong is seen ahead of anything being taken: what is told again
// and again is not gone through.
func TestGreatFormsAreRefusedAtOnce(t *testing.T) {
	a := prove(t, tiny(), []uint64{3, 4})
	round := make([]uint64, api.MaxWords)
	part := api.Part{Rounds: slices.Repeat([][]uint64{round}, 1<<20)}
	for _, parts := range [][]api.Part{{part}, {part, part}, slices.Repeat([]api.Part{part}, 1000)} {
		a.proof.Parts = parts
		a.refused(t, api.ErrForm, "a great proof")
	}
}

// Lists without a number may be nil or empty.
func TestNothingInLists(t *testing.T) {
	for _, mul := range []bool{false, true} {
		a := prove(t, single(mul), []uint64{9})
		if len(a.proof.Parts) != 1 || len(a.proof.Parts[0].Rounds) != 0 || !slices.Equal(a.proof.Parts[0].Line, []uint64{9}) {
			t.Errorf("one gate: %v", a.proof)
		}
		for _, rounds := range [][][]uint64{nil, {}} {
			a.proof = api.Proof{Parts: []api.Part{{Rounds: rounds, Line: []uint64{9}}}}
			a.is(t, true, "one gate")
			a.proof.Parts[0].Line[0] = 8
			a.is(t, false, "one gate, another value")
		}
	}
	a := told{c: tiny(), proof: api.Proof{Parts: []api.Part{}}}
	a.refused(t, api.ErrForm, "an empty list of parts")
	for _, input := range [][]uint64{nil, {}} {
		if _, _, e := fiat.Prove(tiny(), input); e != api.ErrForm {
			t.Errorf("no input: error %d", e)
		}
	}
}

// roomy is l, with room behind it in which something stands.
func roomy[T any](l []T, behind T) []T {
	return append(append(make([]T, 0, len(l)+3), l...), behind)[:len(l)]
}

func (a told) roomy() told {
	b := a.copied()
	b.c.Layers = roomy(b.c.Layers, api.Layer{Log: 91})
	for i, l := range b.c.Layers {
		b.c.Layers[i].Gates = roomy(l.Gates, api.Gate{A: 91})
	}
	b.input, b.output = roomy(b.input, 92), roomy(b.output, 93)
	b.proof.Parts = roomy(b.proof.Parts, api.Part{Line: []uint64{95}})
	for i, part := range b.proof.Parts {
		for j, r := range part.Rounds {
			part.Rounds[j] = roomy(r, 96)
		}
		b.proof.Parts[i] = api.Part{Rounds: roomy(part.Rounds, []uint64{97}), Line: roomy(part.Line, 98)}
	}
	return b
}

// whole is what is told, copied, with the room behind its lists as parts of them.
func (a told) whole() told {
	a.c.Layers = a.c.Layers[:cap(a.c.Layers)]
	a.input, a.output = a.input[:cap(a.input)], a.output[:cap(a.output)]
	a.proof.Parts = a.proof.Parts[:cap(a.proof.Parts)]
	b := a.copied()
	for i, l := range a.c.Layers {
		b.c.Layers[i].Gates = slices.Clone(l.Gates[:cap(l.Gates)])
	}
	for i, part := range a.proof.Parts {
		rounds := slices.Clone(part.Rounds[:cap(part.Rounds)])
		for j, r := range rounds {
			rounds[j] = slices.Clone(r[:cap(r)])
		}
		b.proof.Parts[i] = api.Part{Rounds: rounds, Line: slices.Clone(part.Line[:cap(part.Line)])}
	}
	return b
}

// P2: neither what is handed in nor the room behind it is changed, and it is not
// seen in an answer.
func TestArgumentsStay(t *testing.T) {
	for _, a := range proveAll(t) {
		b := a.roomy()
		for _, l := range append(inOrder(b.proof), b.output) {
			raise(l)
		}
		before := b.whole()
		if words, e := fiat.Words(b.c); e != api.OK || !slices.Equal(words, wordsOf(a.c)) {
			t.Fatalf("Words: %v, error %d", words, e)
		}
		if c := prove(t, b.c, b.input); !sameProof(c.proof, a.proof) || !slices.Equal(c.output, a.output) {
			t.Fatalf("Prove: %v, not %v", c, a)
		}
		b.is(t, true, "with room behind its lists")
		b.output[0]++
		b.is(t, false, "with room behind its lists, one more")
		b.output[0]--
		if after := b.whole(); !reflect.DeepEqual(after, before) {
			t.Fatalf("%v has become %v", before, after)
		}
	}
}

// P2: no list of an answer shares memory, its spare room included, with another
// or with what was handed in.
func TestAnswersAreNewMemory(t *testing.T) {
	for _, a := range proveAll(t) {
		b := a.roomy()
		before := b.whole()
		words, _ := fiat.Words(b.c)
		mine := prove(t, b.c, b.input)
		told := append(inOrder(mine.proof), mine.output, words)
		for i, l := range told {
			l = l[:cap(l)]
			for j := range l {
				l[j] = uint64(1000 + i)
			}
		}
		for i, l := range told {
			for _, v := range l {
				if v != uint64(1000+i) {
					t.Fatalf("list %d of %v shares memory with another", i, logsOf(a.c))
				}
			}
		}
		for _, part := range mine.proof.Parts {
			if slices.ContainsFunc(part.Rounds, func(l []uint64) bool { return l == nil }) {
				t.Fatalf("a part of %v shares its list of rounds with another", logsOf(a.c))
			}
			clear(part.Rounds[:cap(part.Rounds)])
		}
		clear(mine.proof.Parts[:cap(mine.proof.Parts)])
		if !reflect.DeepEqual(b.whole(), before) {
			t.Fatalf("an answer of %v shares memory with what was handed in", logsOf(a.c))
		}
	}
}

// P2: an answer doesn't hang on what was asked ahead of it, or on what becomes of
// a list that was handed in or answered.
func TestAnswersHangOnArgumentsAlone(t *testing.T) {
	all := proveAll(t)
	for i, a := range slices.Backward(all) {
		mine := a.copied()
		again := prove(t, mine.c, mine.input)
		words, _ := fiat.Words(mine.c)
		mine.is(t, true, "again")
		for _, l := range append(inOrder(mine.proof), mine.input, mine.output) {
			for j := range l {
				l[j] = 77
			}
		}
		mine.c.Layers[0].Gates[0].Mul = !mine.c.Layers[0].Gates[0].Mul
		if !sameProof(again.proof, a.proof) || !slices.Equal(again.output, a.output) {
			t.Fatalf("Prove of %v, at first %v, is %v", a.c, a.proof, again.proof)
		}
		if !slices.Equal(words, wordsOf(a.c)) {
			t.Fatalf("Words of %v have become %v", a.c, words)
		}
		all[i].is(t, true, "again, and others changed")
	}
}

// Lists that share memory are lists like others.
func TestListsThatShare(t *testing.T) {
	c := ofLogs(drawer(41), 2, 2)
	// Of noughts all is nought: one list may stand for all that is told.
	nothing := []uint64{0, 0, 0, 0}
	part := api.Part{Rounds: slices.Repeat([][]uint64{nothing[:3]}, 4), Line: nothing[:3]}
	a := told{c, nothing, nothing, api.Proof{Parts: []api.Part{part}}}
	a.is(t, true, "one list for all")
	if b := prove(t, c, nothing); !sameProof(b.proof, a.proof) {
		t.Errorf("Prove of noughts: %v", b.proof)
	}
}
