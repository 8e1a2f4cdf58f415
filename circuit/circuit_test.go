package circuit_test

import (
	"math"
	"math/big"
	"reflect"
	"regexp"
	"slices"
	"strconv"
	"strings"
	"testing"

	"tallystick/api"
	"tallystick/circuit"
)

const p = api.P

// drawer gives numbers of 64 bits, the same ones in each run.
func drawer(seed uint64) func() uint64 {
	x := seed
	return func() uint64 {
		x = x*6364136223846793005 + 1442695040888963407
		return x ^ x>>29
	}
}

// numbers are n of them: of anywhere among the 64 bits, and of around P's multiples.
func numbers(draw func() uint64, n int) []uint64 {
	l := make([]uint64, n)
	for i := range l {
		l[i] = draw()
		if draw()%2 == 0 {
			l[i] = (1+draw()%8)*p - 2 + draw()%4
		}
	}
	return l
}

// pick is a number from 0 to n - 1.
func pick(draw func() uint64, n int) int { return int(draw() >> 16 % uint64(n)) }

// drawLayer is a layer of 2^log gates over one of 2^below numbers.
func drawLayer(draw func() uint64, log, below int) api.Layer {
	l := api.Layer{Log: log, Gates: make([]api.Gate, 1<<log)}
	for i := range l.Gates {
		l.Gates[i] = api.Gate{Mul: pick(draw, 2) == 1, A: pick(draw, 1<<below), B: pick(draw, 1<<below)}
	}
	return l
}

func drawCircuit(draw func() uint64, layers int) api.Circuit {
	c := api.Circuit{Log: pick(draw, api.MaxLog+1)}
	below := c.Log
	for range layers {
		log := pick(draw, api.MaxLog+1)
		c.Layers = append(c.Layers, drawLayer(draw, log, below))
		below = log
	}
	return c
}

// circuits are right ones, of each number of layers, and of each Log over each.
func circuits() []api.Circuit {
	draw := drawer(7)
	all := []api.Circuit{tiny(), chain(4)}
	for log := range api.MaxLog + 1 {
		for below := range api.MaxLog + 1 {
			all = append(all, api.Circuit{Log: below, Layers: []api.Layer{drawLayer(draw, log, below)}})
		}
	}
	for i := range 200 {
		all = append(all, drawCircuit(draw, 1+i%api.MaxLayers))
	}
	full := api.Circuit{Log: 4}
	for range api.MaxLayers {
		full.Layers = append(full.Layers, drawLayer(draw, 4, 4))
	}
	return append(all, full)
}

// tiny is the circuit of the document's examples.
func tiny() api.Circuit {
	return api.Circuit{Log: 1, Layers: []api.Layer{
		{Log: 1, Gates: []api.Gate{{Mul: true, A: 0, B: 1}, {Mul: false, A: 0, B: 1}}},
		{Log: 0, Gates: []api.Gate{{Mul: true, A: 0, B: 1}}},
	}}
}

const tinyText = "inputs 1\nlayer 1\nmul 0 1\nadd 0 1\nlayer 0\nmul 0 1\n"

// chain is a circuit of one input, and n layers of one gate that doubles.
func chain(n int) api.Circuit {
	c := api.Circuit{}
	for range n {
		c.Layers = append(c.Layers, api.Layer{Gates: make([]api.Gate, 1)})
	}
	return c
}

// two is a right circuit of two inputs and two layers of two gates.
func two() api.Circuit {
	return api.Circuit{Log: 1, Layers: []api.Layer{
		{Log: 1, Gates: []api.Gate{{A: 0, B: 1}, {A: 1, B: 0}}},
		{Log: 1, Gates: []api.Gate{{A: 1, B: 1}, {A: 0, B: 0}}},
	}}
}

// changed is two, with something done to it.
func changed(do func(c *api.Circuit)) api.Circuit {
	c := two()
	do(&c)
	return c
}

type wrongCircuit struct {
	name string
	c    api.Circuit
	want api.Errno
}

// wrongs are circuits that are none, with the error that is told first.
func wrongs() []wrongCircuit {
	all := []wrongCircuit{
		{"nothing", api.Circuit{}, api.ErrArg},
		{"an empty list of layers", api.Circuit{Log: 2, Layers: []api.Layer{}}, api.ErrArg},
		{"five layers", chain(5), api.ErrLarge},
		{"many layers", chain(3000), api.ErrLarge},
		{"five layers that are none", api.Circuit{Layers: make([]api.Layer, 5)}, api.ErrLarge},
		{"five layers of wrong Logs", api.Circuit{Layers: slices.Repeat([]api.Layer{{Log: -1}}, 5)}, api.ErrLarge},
	}
	for _, log := range []int{-1, -4, 5, 6, 63, 64, 1 << 20, math.MinInt, math.MaxInt} {
		long := chain(5)
		long.Log = log
		all = append(all,
			wrongCircuit{"inputs' Log", changed(func(c *api.Circuit) { c.Log = log }), api.ErrArg},
			wrongCircuit{"inputs' Log, no layer", api.Circuit{Log: log}, api.ErrArg},
			wrongCircuit{"inputs' Log, five layers", long, api.ErrArg},
			wrongCircuit{"first Log", changed(func(c *api.Circuit) { c.Layers[0].Log = log }), api.ErrArg},
			wrongCircuit{"last Log", changed(func(c *api.Circuit) { c.Layers[1].Log = log }), api.ErrArg},
			wrongCircuit{"Log, and no gate", changed(func(c *api.Circuit) { c.Layers[1] = api.Layer{Log: log} }), api.ErrArg},
		)
	}
	for _, place := range []int{-1, 2, 3, 16, 1 << 20, math.MinInt, math.MaxInt} {
		for layer := range 2 {
			for gate := range 2 {
				all = append(all,
					wrongCircuit{"A", changed(func(c *api.Circuit) { c.Layers[layer].Gates[gate].A = place }), api.ErrArg},
					wrongCircuit{"B", changed(func(c *api.Circuit) { c.Layers[layer].Gates[gate].B = place }), api.ErrArg},
				)
			}
		}
	}
	return append(all, wrongOrders()...)
}

// wrongOrders are circuits of which several errors could be told.
func wrongOrders() []wrongCircuit {
	three := make([]api.Gate, 3)
	astray := []api.Gate{{A: 9}, {A: 9}, {A: 9}}
	return []wrongCircuit{
		{"a gate too many", changed(func(c *api.Circuit) { c.Layers[0].Gates = three }), api.ErrForm},
		{"a gate too few", changed(func(c *api.Circuit) { c.Layers[1].Gates = three[:1] }), api.ErrForm},
		{"no gate", changed(func(c *api.Circuit) { c.Layers[0].Gates = nil }), api.ErrForm},
		{"no gate of one", api.Circuit{Layers: make([]api.Layer, 1)}, api.ErrForm},
		{"seventeen gates", api.Circuit{Layers: []api.Layer{{Log: 4, Gates: make([]api.Gate, 17)}}}, api.ErrForm},
		{"gates ahead of their places", changed(func(c *api.Circuit) { c.Layers[0].Gates = astray }), api.ErrForm},
		{"first layer's places ahead of the next one's gates", changed(func(c *api.Circuit) {
			c.Layers[0].Gates[1].B = 2
			c.Layers[1].Gates = three
		}), api.ErrArg},
		{"first layer's gates ahead of the next one's Log", changed(func(c *api.Circuit) {
			c.Layers[0].Gates = three
			c.Layers[1].Log = 5
		}), api.ErrForm},
		{"first layer's gates ahead of the next one's places", changed(func(c *api.Circuit) {
			c.Layers[0].Gates = three
			c.Layers[1].Gates[0].A = -1
		}), api.ErrForm},
	}
}

// deepCopy is c, with no memory of it.
func deepCopy(c api.Circuit) api.Circuit {
	d := api.Circuit{Log: c.Log, Layers: slices.Clone(c.Layers)}
	for i, l := range d.Layers {
		d.Layers[i].Gates = slices.Clone(l.Gates)
	}
	return d
}

// same: are they the same circuit, lists without anything being all the same?
func same(a, b api.Circuit) bool {
	return a.Log == b.Log && slices.EqualFunc(a.Layers, b.Layers, func(x, y api.Layer) bool {
		return x.Log == y.Log && slices.Equal(x.Gates, y.Gates)
	})
}

func isZero(c api.Circuit) bool { return c.Log == 0 && len(c.Layers) == 0 }

func mustRun(t *testing.T, c api.Circuit, input []uint64) [][]uint64 {
	t.Helper()
	values, e := circuit.Run(c, input)
	if e != api.OK {
		t.Fatalf("Run(%v, %v): error %d", c, input, e)
	}
	return values
}

func mustPrint(t *testing.T, c api.Circuit) string {
	t.Helper()
	s, e := circuit.Print(c)
	if e != api.OK {
		t.Fatalf("Print(%v): error %d", c, e)
	}
	return s
}

func mustParse(t *testing.T, s string) api.Circuit {
	t.Helper()
	c, at, e := circuit.Parse(s)
	if e != api.OK || at != 0 {
		t.Fatalf("Parse(%q): error %d at %d", s, e, at)
	}
	return c
}

func TestCheckOfRightOnes(t *testing.T) {
	for _, c := range circuits() {
		if e := circuit.Check(c); e != api.OK {
			t.Fatalf("Check(%v): %d", c, e)
		}
	}
	// Of each Log a gate of the highest places alone, and of one place beyond them.
	for below := range api.MaxLog + 1 {
		last := 1<<below - 1
		for _, g := range []api.Gate{{A: last, B: last}, {A: last + 1}, {B: last + 1}} {
			want := api.OK
			if g.A > last || g.B > last {
				want = api.ErrArg
			}
			if e := circuit.Check(api.Circuit{Log: below, Layers: []api.Layer{{Gates: []api.Gate{g}}}}); e != want {
				t.Errorf("%v over 2^%d numbers: %d, not %d", g, below, e, want)
			}
		}
	}
}

// What a gate may name is in the layer just below, not in another one.
func TestPlacesAreOfTheLayerBelow(t *testing.T) {
	wide := api.Layer{Log: 2, Gates: make([]api.Gate, 4)}
	for _, c := range []struct {
		c    api.Circuit
		want api.Errno
	}{
		{api.Circuit{Log: 0, Layers: []api.Layer{wide, {Gates: []api.Gate{{A: 3, B: 2}}}}}, api.OK},
		{api.Circuit{Log: 0, Layers: []api.Layer{wide, {Gates: []api.Gate{{A: 3, B: 4}}}}}, api.ErrArg},
		{api.Circuit{Log: 3, Layers: []api.Layer{wide, {Gates: []api.Gate{{A: 4}}}}}, api.ErrArg},
		{api.Circuit{Log: 2, Layers: []api.Layer{{Gates: []api.Gate{{A: 3}}}, {Gates: []api.Gate{{B: 1}}}}}, api.ErrArg},
		{api.Circuit{Log: 0, Layers: []api.Layer{{Log: 2, Gates: []api.Gate{{}, {}, {}, {A: 3}}}}}, api.ErrArg},
	} {
		if e := circuit.Check(c.c); e != c.want {
			t.Errorf("Check(%v): %d, not %d", c.c, e, c.want)
		}
	}
}

func TestNumbersOfGates(t *testing.T) {
	for log := range api.MaxLog + 1 {
		for n := range 40 {
			want := api.ErrForm
			if n == 1<<log {
				want = api.OK
			}
			c := api.Circuit{Layers: []api.Layer{{Log: log, Gates: make([]api.Gate, n)}}}
			if e := circuit.Check(c); e != want {
				t.Errorf("%d gates of Log %d: %d, not %d", n, log, e, want)
			}
		}
	}
}

// Each call that is handed a circuit tells Check's error, and nothing beside it,
// whether or not the inputs are right.
func TestWrongCircuits(t *testing.T) {
	for _, w := range wrongs() {
		if e := circuit.Check(w.c); e != w.want {
			t.Errorf("%s: Check %d, not %d", w.name, e, w.want)
		}
		for _, n := range []int{0, 1, 2, 3, 16} {
			if l, e := circuit.Run(w.c, make([]uint64, n)); len(l) != 0 || e != w.want {
				t.Errorf("%s: Run of %d inputs %v, %d, not %d", w.name, n, l, e, w.want)
			}
		}
		if s, e := circuit.Print(w.c); s != "" || e != w.want {
			t.Errorf("%s: Print %q, %d, not %d", w.name, s, e, w.want)
		}
	}
}

// wantRun reckons each layer without a bound, and takes rests at the end alone.
func wantRun(c api.Circuit, input []uint64) [][]uint64 {
	row := make([]*big.Int, len(input))
	for i, a := range input {
		row[i] = new(big.Int).SetUint64(a)
	}
	all := [][]uint64{restsOf(row)}
	for _, l := range c.Layers {
		next := make([]*big.Int, len(l.Gates))
		for i, g := range l.Gates {
			if g.Mul {
				next[i] = new(big.Int).Mul(row[g.A], row[g.B])
			} else {
				next[i] = new(big.Int).Add(row[g.A], row[g.B])
			}
		}
		row = next
		all = append(all, restsOf(row))
	}
	return all
}

func restsOf(row []*big.Int) []uint64 {
	l := make([]uint64, len(row))
	for i, x := range row {
		l[i] = new(big.Int).Mod(x, new(big.Int).SetUint64(p)).Uint64()
	}
	return l
}

func TestRunOfTiny(t *testing.T) {
	want := [][]uint64{{3, 4}, {12, 7}, {84}}
	if got := mustRun(t, tiny(), []uint64{3, 4}); !reflect.DeepEqual(got, want) {
		t.Errorf("%v, not %v", got, want)
	}
}

func TestRun(t *testing.T) {
	draw := drawer(11)
	for _, c := range circuits() {
		n := 1 << c.Log
		for _, input := range [][]uint64{
			numbers(draw, n), numbers(draw, n), make([]uint64, n),
			slices.Repeat([]uint64{p}, n), slices.Repeat([]uint64{1<<64 - 1}, n),
		} {
			if got, want := mustRun(t, c, input), wantRun(c, input); !reflect.DeepEqual(got, want) {
				t.Fatalf("Run(%v, %v) = %v, not %v", c, input, got, want)
			}
		}
	}
}

// What is told is from 0 to P - 1: the inputs, too.
func TestRunTellsRests(t *testing.T) {
	c := api.Circuit{Log: 2, Layers: []api.Layer{{Log: 0, Gates: []api.Gate{{A: 3, B: 3}}}}}
	want := [][]uint64{{0, 1, p - 1, 7}, {14}}
	if got := mustRun(t, c, []uint64{p, p + 1, p - 1, 1<<64 - 1}); !reflect.DeepEqual(got, want) {
		t.Errorf("%v, not %v", got, want)
	}
}

func TestRunNeedsAllInputs(t *testing.T) {
	for _, c := range circuits() {
		for _, n := range []int{0, 1, 2, 3, 4, 5, 7, 8, 9, 15, 16, 17, 32, 1 << 16} {
			l, e := circuit.Run(c, make([]uint64, n))
			if n == 1<<c.Log && e != api.OK || n != 1<<c.Log && (e != api.ErrForm || len(l) != 0) {
				t.Fatalf("Run of Log %d with %d inputs: %v, %d", c.Log, n, l, e)
			}
		}
	}
}

func TestKnownTexts(t *testing.T) {
	for text, c := range map[string]api.Circuit{
		tinyText:                       tiny(),
		"inputs 0\nlayer 0\nadd 0 0\n": chain(1),
		"inputs 4\nlayer 0\nmul 15 10\n": {Log: 4, Layers: []api.Layer{
			{Gates: []api.Gate{{Mul: true, A: 15, B: 10}}},
		}},
		"inputs 4\nlayer 1\nadd 9 0\nmul 0 11\nlayer 0\nadd 1 1\n": {Log: 4, Layers: []api.Layer{
			{Log: 1, Gates: []api.Gate{{A: 9}, {Mul: true, B: 11}}},
			{Gates: []api.Gate{{A: 1, B: 1}}},
		}},
	} {
		if got := mustPrint(t, c); got != text {
			t.Errorf("Print(%v) = %q, not %q", c, got, text)
		}
		if got := mustParse(t, text); !same(got, c) {
			t.Errorf("Parse(%q) = %v, not %v", text, got, c)
		}
	}
}

// wantText is the text, line by line as P12 has it.
func wantText(c api.Circuit) string {
	lines := []string{"inputs " + strconv.Itoa(c.Log)}
	for _, l := range c.Layers {
		lines = append(lines, "layer "+strconv.Itoa(l.Log))
		for _, g := range l.Gates {
			words := []string{"add", strconv.Itoa(g.A), strconv.Itoa(g.B)}
			if g.Mul {
				words[0] = "mul"
			}
			lines = append(lines, strings.Join(words, " "))
		}
	}
	return strings.Join(lines, "\n") + "\n"
}

// A circuit told as a text is the circuit.
func TestTextsAreCircuits(t *testing.T) {
	for _, c := range circuits() {
		s := mustPrint(t, c)
		if want := wantText(c); s != want {
			t.Fatalf("Print(%v) = %q, not %q", c, s, want)
		}
		if got := mustParse(t, s); !same(got, c) {
			t.Fatalf("Parse(%q) = %v, not %v", s, got, c)
		}
	}
}

func TestWrongLines(t *testing.T) {
	// Each stands as a line of its own where a gate may stand.
	for _, line := range []string{
		"", " ", "add", "mul", "add ", "add 0", "add 0 ", "add 0 0 ", " add 0 0", "add  0 0", "add 0  0",
		"add 0 0 0", "add 0 0\r", "add\t0 0", "add 0\t0", "add 0,0", "Add 0 0", "ADD 0 0", "sub 0 0", "addd 0 0",
		"ad 0 0", "add0 0", "add 00 0", "add 0 00", "add 01 0", "add 0 09", "add 100 0", "add 0 100", "add 000 0",
		"add -1 0", "add +1 0", "add 0 -0", "add 1. 0", "add 0x 0", "add a 0", "add 1a 0", "add a1 0", "add / 0",
		"add : 0", "add 1/ 0", "add 1: 0", "add \xc2\xb2 0", "add \xd9\xa1 0", "add 0 0\x00", "\xff", "\xef\xbb\xbfadd 0 0",
		"mul 0", "mul 0 0 0", "mull 0 0", "layer", "layer ", "layer 0 0", "layer  0", "layer 00", "layer 01", "layer 100",
		"layer -1", "layer x", " layer 0", "layer 0 ", "layers 0", "inputs", "inputs 0", "inputs 1", "inputs 0 0",
		"# add 0 0", "add 18446744073709551616 0", "layer 4294967296",
	} {
		for text, want := range map[string]int{
			line + "\n" + tinyText:                                   1,
			"inputs 1\nlayer 1\n" + line + "\nadd 0 1\n":             3,
			"inputs 1\nlayer 1\nmul 0 1\nadd 0 1\n" + line + "\n":    5,
			tinyText + line + "\n" + line + "\n":                     7,
			"inputs 9\nlayer 77\nadd 99 99\n" + line + "\nlayer 0\n": 4,
		} {
			if want == 1 && (line == "inputs 0" || line == "inputs 1") {
				want = 2 // It is right as the first line; the next one is not.
			}
			c, at, e := circuit.Parse(text)
			if e != api.ErrSyntax || at != want || !isZero(c) {
				t.Errorf("Parse(%q) = %v, %d, %d, not line %d", text, c, at, e, want)
			}
		}
	}
}

func TestWrongFirstLines(t *testing.T) {
	for text, want := range map[string]int{
		"": 1, "\n": 1, " ": 1, "x": 1, "\n\n": 1, "\n" + tinyText: 1,
		"inputs": 1, "inputs\n": 1, "inputs \n": 1, "inputs 1": 1, "inputs 00\n": 1, "inputs 01\n": 1, "inputs 100\n": 1,
		"inputs -1\n": 1, "inputs x\n": 1, "inputs 1 \n": 1, "inputs 1 1\n": 1, " inputs 1\n": 1, "Inputs 1\n": 1,
		"input 1\n": 1, "inputs 1\r\n": 1, "inputs 1\rlayer 0\radd 0 0\r": 1,
		"layer 0\n": 1, "layer 0\nadd 0 0\n": 1, "add 0 0\n": 1, "mul 0 0\ninputs 0\n": 1,
		"inputs 0\nadd 0 0\n": 2, "inputs 0\nmul 0 0\nlayer 0\n": 2, "inputs 0\ninputs 0\n": 2, "inputs 0\n\n": 2,
		"inputs 99\nadd 0 0\n": 2,
	} {
		c, at, e := circuit.Parse(text)
		if e != api.ErrSyntax || at != want || !isZero(c) {
			t.Errorf("Parse(%q) = %v, %d, %d, not line %d", text, c, at, e, want)
		}
	}
}

// A line has its byte 10: a text that is cut anywhere else is wrong where it ends.
func TestCutTexts(t *testing.T) {
	for _, c := range circuits()[:40] {
		s := mustPrint(t, c)
		for n := range len(s) {
			cut := s[:n]
			if n > 0 && cut[n-1] == '\n' {
				continue
			}
			want := 1 + strings.Count(cut, "\n")
			if d, at, e := circuit.Parse(cut); e != api.ErrSyntax || at != want || !isZero(d) {
				t.Fatalf("Parse(%q) = %v, %d, %d, not line %d", cut, d, at, e, want)
			}
		}
	}
}

// Of a text whose lines are all right Check's error is told, at 0.
func TestTextsOfWrongCircuits(t *testing.T) {
	five := "inputs 0\n" + strings.Repeat("layer 0\nadd 0 0\n", 5)
	for text, want := range map[string]api.Errno{
		"inputs 0\n":                                     api.ErrArg,
		"inputs 5\n":                                     api.ErrArg,
		"inputs 99\nlayer 0\nadd 0 0\n":                  api.ErrArg,
		"inputs 5\nlayer 0\nadd 0 0\n":                   api.ErrArg,
		"inputs 0\nlayer 5\nadd 0 0\n":                   api.ErrArg,
		"inputs 0\nlayer 99\n":                           api.ErrArg,
		"inputs 0\nlayer 0\nadd 0 1\n":                   api.ErrArg,
		"inputs 0\nlayer 0\nmul 1 0\n":                   api.ErrArg,
		"inputs 4\nlayer 0\nmul 16 0\n":                  api.ErrArg,
		"inputs 4\nlayer 0\nmul 0 99\n":                  api.ErrArg,
		"inputs 0\nlayer 0\n":                            api.ErrForm,
		"inputs 0\nlayer 1\nadd 0 0\n":                   api.ErrForm,
		"inputs 0\nlayer 0\nlayer 0\n":                   api.ErrForm,
		tinyText + "add 0 1\n":                           api.ErrForm,
		tinyText + "layer 4\nmul 77 0\n":                 api.ErrForm,
		five:                                             api.ErrLarge,
		"inputs 0\n" + strings.Repeat("layer 99\n", 400): api.ErrLarge,
	} {
		if c, at, e := circuit.Parse(text); e != want || at != 0 || !isZero(c) {
			t.Errorf("Parse(%q) = %v, %d, %d, not %d", text, c, at, e, want)
		}
	}
}

// longText is one of n bytes, whose lines are all right: lines of 8 bytes, some
// of them with a digit more, so that they come out at n.
func longText(n int) string {
	const head = "inputs 0\nlayer 0\n"
	lines, more := (n-len(head))/8, (n-len(head))%8
	return head + strings.Repeat("add 10 0\n", more) + strings.Repeat("add 0 0\n", lines-more)
}

func TestLongTexts(t *testing.T) {
	for n, want := range map[int]api.Errno{
		4088: api.ErrForm, 4095: api.ErrForm, 4096: api.ErrForm, 4097: api.ErrLarge, 4098: api.ErrLarge, 9000: api.ErrLarge,
	} {
		s := longText(n)
		if len(s) != n || wantWrong(s) != 0 {
			t.Fatalf("the text has %d bytes, not %d, or a wrong line", len(s), n)
		}
		if c, at, e := circuit.Parse(s); e != want || at != 0 || !isZero(c) {
			t.Errorf("Parse of %d bytes: %d at %d, not %d", n, e, at, want)
		}
	}
	// Length goes ahead of all that is wrong in it.
	for _, s := range []string{"x", "\n", "\x00", tinyText, "inputs 0\n"} {
		over := strings.Repeat(s, 1+api.MaxText/len(s))
		if c, at, e := circuit.Parse(over); e != api.ErrLarge || at != 0 || !isZero(c) {
			t.Errorf("Parse of %d bytes: %v, %d, %d", len(over), c, at, e)
		}
		if _, at, e := circuit.Parse(over[:api.MaxText]); e != api.ErrSyntax || at == 0 {
			t.Errorf("Parse of %d bytes of %q: %d at %d", api.MaxText, s, e, at)
		}
	}
	if c, at, e := circuit.Parse(strings.Repeat("y", 1<<22)); e != api.ErrLarge || at != 0 || !isZero(c) {
		t.Errorf("Parse of 2^22 bytes: %v, %d, %d", c, at, e)
	}
}

var (
	inputsForm = regexp.MustCompile(`\Ainputs (\d|[1-9]\d)\n\z`)
	layerForm  = regexp.MustCompile(`\Alayer (\d|[1-9]\d)\n\z`)
	gateForm   = regexp.MustCompile(`\A(add|mul) (\d|[1-9]\d) (\d|[1-9]\d)\n\z`)
)

// wantWrong is the first wrong line of a text, or 0.
func wantWrong(s string) int {
	lines := strings.SplitAfter(s, "\n")
	if last := len(lines) - 1; last > 0 && lines[last] == "" {
		lines = lines[:last]
	}
	layers := 0
	for i, line := range lines {
		switch {
		case i == 0 && inputsForm.MatchString(line):
		case i > 0 && layerForm.MatchString(line):
			layers++
		case layers > 0 && gateForm.MatchString(line):
		default:
			return i + 1
		}
	}
	return 0
}

// spoil is s with some bytes changed, put in or left out.
func spoil(draw func() uint64, s string) string {
	const bytes = "0123456789 \n\r\tadmullayerinputs\x00\xff"
	for range 1 + pick(draw, 3) {
		i := pick(draw, len(s)+1)
		j := min(len(s), i+pick(draw, 3))
		k := pick(draw, len(bytes))
		s = s[:i] + bytes[k:min(len(bytes), k+pick(draw, 3))] + s[j:]
	}
	return s
}

// Whatever the text is, Parse tells the first wrong line, Check's error, or a
// circuit whose Print is that text.
func TestSpoiltTexts(t *testing.T) {
	draw := drawer(23)
	all := circuits()
	right := 0
	for i := range 60000 {
		s := spoil(draw, wantText(all[i%len(all)]))
		c, at, e := circuit.Parse(s)
		wrong := wantWrong(s)
		switch {
		case wrong != 0:
			if e != api.ErrSyntax || at != wrong || !isZero(c) {
				t.Fatalf("Parse(%q) = %v, %d, %d, not line %d", s, c, at, e, wrong)
			}
		case e == api.OK:
			right++
			if back := mustPrint(t, c); at != 0 || back != s {
				t.Fatalf("Parse(%q) is told as %q, and at %d", s, back, at)
			}
		case at != 0 || e != api.ErrArg && e != api.ErrForm && e != api.ErrLarge || !isZero(c):
			t.Fatalf("Parse(%q) = %v, %d, %d", s, c, at, e)
		}
	}
	if right < 1000 {
		t.Errorf("only %d texts were right", right)
	}
}

// roomy is c, with room behind each of its lists that has something in it.
func roomy(c api.Circuit) api.Circuit {
	d := api.Circuit{Log: c.Log}
	d.Layers = append(append(make([]api.Layer, 0, len(c.Layers)+3), c.Layers...), api.Layer{Log: 91})[:len(c.Layers)]
	for i, l := range d.Layers {
		d.Layers[i].Gates = append(append(make([]api.Gate, 0, len(l.Gates)+3), l.Gates...), api.Gate{A: 91})[:len(l.Gates)]
	}
	return d
}

// whole is c, with the room behind its lists as parts of them.
func whole(c api.Circuit) api.Circuit {
	d := api.Circuit{Log: c.Log, Layers: slices.Clone(c.Layers[:cap(c.Layers)])}
	for i, l := range d.Layers {
		d.Layers[i].Gates = slices.Clone(l.Gates[:cap(l.Gates)])
	}
	return d
}

// P2: neither what is handed in nor the room behind it is changed.
func TestArgumentsStay(t *testing.T) {
	draw := drawer(29)
	all := circuits()
	for _, w := range wrongs() {
		all = append(all, w.c)
	}
	for _, c := range all {
		c = roomy(c)
		n := 2
		if circuit.Check(c) == api.OK {
			n = 1 << c.Log
		}
		input := append(numbers(draw, n), 91, p, 1<<64-1)
		before, ahead := whole(c), slices.Clone(input)
		circuit.Check(c)
		circuit.Run(c, input[:n])
		circuit.Print(c)
		if !same(whole(c), before) || !slices.Equal(input, ahead) {
			t.Fatalf("%v has become %v, %v has become %v", before, whole(c), ahead, input)
		}
	}
}

// fill writes over a list and the room behind it.
func fill[T any](l []T, x T) {
	l = l[:cap(l)]
	for i := range l {
		l[i] = x
	}
}

// P2: what Run answers is new memory: each list of it, spare room included.
func TestValuesAreNew(t *testing.T) {
	draw := drawer(31)
	for _, c := range circuits() {
		input := numbers(draw, 1<<c.Log)
		before, ahead := deepCopy(c), slices.Clone(input)
		want := wantRun(c, input)
		for i := range want {
			got, other := mustRun(t, c, input), mustRun(t, c, input)
			fill(got[i], 77)
			for j := range got {
				if j != i && !slices.Equal(got[j], want[j]) {
					t.Fatalf("lists %d and %d of an answer share memory", i, j)
				}
			}
			fill(got, []uint64{78})
			if !reflect.DeepEqual(other, want) || !slices.Equal(input, ahead) || !same(c, before) {
				t.Fatalf("writing into list %d of an answer is seen elsewhere", i)
			}
		}
		mine := slices.Clone(input)
		got := mustRun(t, c, mine)
		fill(mine, 80)
		if !reflect.DeepEqual(got, want) {
			t.Fatalf("writing into the inputs changes an answer")
		}
	}
}

// P2: what Parse answers is new memory: each list of it, spare room included.
func TestParsedCircuitsAreNew(t *testing.T) {
	for _, c := range circuits() {
		s := wantText(c)
		for i := range c.Layers {
			got, other := mustParse(t, s), mustParse(t, s)
			fill(got.Layers[i].Gates, api.Gate{A: 77})
			for j := range got.Layers {
				if j != i && !slices.Equal(got.Layers[j].Gates, c.Layers[j].Gates) {
					t.Fatalf("layers %d and %d of an answer share memory", i, j)
				}
			}
			fill(got.Layers, api.Layer{Log: 78})
			if !same(other, c) || !same(mustParse(t, s), c) {
				t.Fatalf("writing into layer %d of an answer is seen elsewhere", i)
			}
		}
	}
}

// P2: what is answered hangs neither on what was asked ahead of it nor on the
// room behind a list.
func TestAnswersHangOnArgumentsAlone(t *testing.T) {
	draw := drawer(37)
	all := circuits()
	inputs := make([][]uint64, len(all))
	for i, c := range all {
		inputs[i] = numbers(draw, 1<<c.Log)
	}
	ask := func(c api.Circuit, input []uint64) (string, [][]uint64) {
		return mustPrint(t, mustParse(t, mustPrint(t, c))), mustRun(t, c, input)
	}
	texts, values := make([]string, len(all)), make([][][]uint64, len(all))
	for i, c := range all {
		texts[i], values[i] = ask(c, inputs[i])
	}
	for i, c := range slices.Backward(all) {
		circuit.Parse("inputs 3\nlayer 2\nadd 0 1\nadd 99\n")
		s, l := ask(roomy(c), append(make([]uint64, 0, 40), inputs[i]...))
		if s != texts[i] || !reflect.DeepEqual(l, values[i]) {
			t.Fatalf("of %v: %q, %v, and %q, %v at first", c, s, l, texts[i], values[i])
		}
	}
}
