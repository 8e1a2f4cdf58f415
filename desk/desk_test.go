package desk_test

import (
	"fmt"
	"math/big"
	"regexp"
	"slices"
	"strconv"
	"strings"
	"testing"

	"tallystick/api"
	"tallystick/circuit"
	"tallystick/desk"
	"tallystick/fiat"
	"tallystick/mle"
	"tallystick/tree"
)

// tiny lays the circuit that has of a and b their product and their sum; four
// lines, four answers.
const (
	tiny     = "circuit inputs 1\ncircuit layer 1\ncircuit mul 0 1\ncircuit add 0 1\n"
	tinySaid = "ok\nok\nok\nok\n"
	tinyText = "inputs 1\nlayer 1\nmul 0 1\nadd 0 1\n"
)

// drawer gives numbers of 64 bits, the same ones in each run.
func drawer(seed uint64) func() uint64 {
	x := seed
	return func() uint64 {
		x = x*6364136223846793005 + 1442695040888963407
		return x ^ x>>29
	}
}

// below gives numbers from 0 to n - 1.
func below(draw func() uint64, n int) int { return int(draw() >> 8 % uint64(n)) }

// said holds that a text is answered so.
func said(t *testing.T, text, want string) {
	t.Helper()
	if got := desk.Run(text); got != want {
		t.Errorf("%.300q:\n got %.300q\nwant %.300q", text, got, want)
	}
}

// lineSaid holds that a line alone, on a desk without a circuit, is answered so.
func lineSaid(t *testing.T, line, want string) {
	t.Helper()
	said(t, line+"\n", want+"\n")
}

// onTiny holds that a line behind the tiny circuit's is answered so.
func onTiny(t *testing.T, line, want string) {
	t.Helper()
	said(t, tiny+line+"\n", tinySaid+want+"\n")
}

func joined(numbers []uint64) string {
	words := make([]string, len(numbers))
	for i, n := range numbers {
		words[i] = strconv.FormatUint(n, 10)
	}
	return strings.Join(words, " ")
}

// counted are n numbers, 1, 2, 3 and so on.
func counted(n int) []uint64 {
	l := make([]uint64, n)
	for i := range l {
		l[i] = uint64(i) + 1
	}
	return l
}

func TestFieldLines(t *testing.T) {
	for _, c := range [][2]string{
		{"add 2 3", "5"},
		{"add 2305843009213693950 3", "2"},
		{"add 2305843009213693951 0", "0"},
		{"add 9223372036854775807 9223372036854775807", "6"},
		{"sub 5 3", "2"},
		{"sub 3 5", "2305843009213693949"},
		{"sub 0 9223372036854775807", "2305843009213693948"},
		{"mul 6 7", "42"},
		{"mul 1152921504606846976 4", "2"},
		{"mul 2305843009213693950 2305843009213693950", "1"},
		{"pow 2 10", "1024"},
		{"pow 3 4", "81"},
		{"pow 0 0", "1"},
		{"pow 0 1", "0"},
		{"pow 2 2305843009213693951", "2"},
		{"pow 2 9223372036854775807", "128"},
		{"inv 1", "1"},
		{"inv 2", "1152921504606846976"},
		{"inv 2305843009213693950", "2305843009213693950"},
		{"inv 0", "error 1"},
		{"inv 2305843009213693951", "error 1"},
		{"inv 4611686018427387902", "error 1"},
	} {
		lineSaid(t, c[0], c[1])
	}
}

func TestTableLines(t *testing.T) {
	for _, c := range [][2]string{
		{"sum 3 5 7 11", "26"},
		{"sum 8", "8"},
		{"sum 2305843009213693950 2", "1"},
		{"sum 9223372036854775807", "3"},
		{"sum", "error 4"},
		{"sum 1 2 3", "error 4"},
		{"root 5 6 7 8", "2233024166539706817"},
		{"root", "error 4"},
		{"root 1 2 3", "error 4"},
		{"eval 3 5 7 11 / 2 3", "29"},
		{"eval 3 5 / 2", "7"},
		{"eval 3 5 / 0", "3"},
		{"eval 3 5 / 2305843009213693952", "5"},
		{"eval 8 /", "8"},
		{"eval 9223372036854775807 /", "3"},
		{"eval /", "error 4"},
		{"eval / 1", "error 4"},
		{"eval 3 5 7 / 1", "error 4"},
		{"eval 3 5 /", "error 1"},
		{"eval 3 5 / 2 3", "error 1"},
		{"eval 3 / 1", "error 1"},
		{"eval", "error 3"},
		{"eval 3 5", "error 3"},
		{"eval 3 5 / 2 /", "error 3"},
		{"eval 3 5 / / 2", "error 3"},
		{"eval / 3 5 / 2", "error 3"},
		{"eval 3 5 // 2", "error 3"},
		{"eval 3 5/ 2", "error 3"},
		{"eval 3 5 /2", "error 3"},
		{"eval 3 x / 2", "error 3"},
		{"eval 3 5 / x", "error 3"},
		{"eval 3 5 7 / x", "error 3"},
	} {
		lineSaid(t, c[0], c[1])
	}
}

func TestTablesOfAllSizes(t *testing.T) {
	for _, n := range []int{1, 2, 4, 5, 8, 16, 32, 64, 128, 255, 256, 257, 512} {
		table := counted(n)
		sum, root := "error 4", "error 4"
		if want, e := tree.Root(table); e == api.OK {
			sum, root = strconv.Itoa(n*(n+1)/2), strconv.FormatUint(want, 10)
		}
		lineSaid(t, "sum "+joined(table), sum)
		lineSaid(t, "root "+joined(table), root)
	}
	table, point := counted(256), []uint64{2, 3, 5, 7, 11, 13, 17, 19}
	want, e := mle.Eval(table, point)
	if e != api.OK {
		t.Fatalf("Eval: error %d", e)
	}
	lineSaid(t, "eval "+joined(table)+" / "+joined(point), strconv.FormatUint(want, 10))
	lineSaid(t, "eval "+joined(table)+" / "+joined(point[:7]), "error 1")
	lineSaid(t, "eval "+joined(table)+" 1 / "+joined(point), "error 4")
}

// wrongNumbers are words that are no number from 0 to 2^63 - 1.
var wrongNumbers = []string{
	"9223372036854775808", "18446744073709551615", "18446744073709551616",
	"18446744073709551617", "99999999999999999999999999999999",
	"00", "01", "007", "09223372036854775807", "+1", "-1", "-0", "+0", "1_0", "_1", "0x1", "0b1", "0o1", "1e1", "1.0", "1.",
	".", "x", "1x", "x1", "/", "N", "..", "#", "1#", "'1'", "1,", "1\t", "\t1", "\t", "1\r", "\r", "1\x00", "\x00", "\xff", "1\v", "1\f", "1\u00a0", "\u0661", "\uff11",
}

func TestWrongNumbers(t *testing.T) {
	for _, w := range wrongNumbers {
		for _, line := range []string{
			"add " + w + " 1", "add 1 " + w, "sub " + w + " 1", "sub 1 " + w,
			"mul " + w + " 1", "mul 1 " + w, "pow " + w + " 1", "pow 1 " + w,
			"inv " + w, "sum " + w, "sum 1 " + w, "root " + w, "root 1 " + w,
			"run " + w, "run 1 " + w,
			"eval " + w + " 1 / 1", "eval 1 " + w + " / 1 1", "eval 1 2 / " + w, "eval 1 2 3 4 / 1 " + w,
			"prove " + w + " 4 / 12 7", "prove 3 " + w + " / 12 7", "prove 3 4 / " + w + " 7", "prove 3 4 / 12 " + w,
		} {
			// A slash in the place of a table's or of the inputs' last number parts
			// the line there, and the one behind it is no number.
			lineSaid(t, line, "error 3")
			onTiny(t, line, "error 3")
		}
	}
}

func TestNumbersAtTheEdges(t *testing.T) {
	for _, c := range [][2]string{
		{"0", "0"}, {"1", "1"}, {"9", "9"}, {"10", "10"}, {"100", "100"},
		{"2305843009213693950", "2305843009213693950"},
		{"2305843009213693951", "0"},
		{"9223372036854775806", "2"},
		{"9223372036854775807", "3"},
	} {
		lineSaid(t, "add 0 "+c[0], c[1])
		lineSaid(t, "sum "+c[0], c[1])
		lineSaid(t, "eval 0 1 / "+c[0], c[1])
		onTiny(t, "run "+c[0]+" 1", c[1]+" "+plusOne(c[1]))
		onTiny(t, "prove "+c[0]+" 1 / "+c[1]+" "+plusOne(c[1]), "holds")
	}
}

// plusOne is one more, by the prime.
func plusOne(n string) string {
	a, _ := strconv.ParseUint(n, 10, 64)
	return strconv.FormatUint((a+1)%api.P, 10)
}

// TestCountsOfWords: a word too few, and a word too many, where they are counted.
func TestCountsOfWords(t *testing.T) {
	for _, first := range []string{"add", "sub", "mul", "pow"} {
		for _, n := range []int{0, 1, 3, 4} {
			lineSaid(t, first+" "+joined(counted(n)), "error 3")
		}
	}
	for _, n := range []int{0, 2, 3} {
		lineSaid(t, "inv "+joined(counted(n)), "error 3")
	}
	for _, line := range []string{"show 1", "show show", "show #", "clear 1", "clear clear", "clear # all"} {
		lineSaid(t, line, "error 3")
		said(t, tiny+line+"\nshow\n", tinySaid+"error 3\n"+tinyText+"ok\n")
	}
	for _, line := range []string{"prove", "prove 3", "prove 3 4", "prove 3 4 12 7"} {
		lineSaid(t, line, "error 3")
		onTiny(t, line, "error 3")
	}
}

func TestFirstWords(t *testing.T) {
	for _, first := range []string{
		"x", "Add", "ADD", "addd", "ad", "add,", "add\t1", "add\r", "/", "1", "ok", "error", "eq", "fix", "look", "open", "\x00", "\xff", "add#", "x#", "-", "shows", "proves", "inputs", "layer",
	} {
		lineSaid(t, first, "error 3")
		lineSaid(t, first+" 1 2", "error 3")
	}
}

func TestBlanks(t *testing.T) {
	for _, c := range [][2]string{
		{" add 1 2", "3"},
		{"add 1 2 ", "3"},
		{"   add   1    2   ", "3"},
		{"add 1 2\t", "error 3"},
		{"\tadd 1 2", "error 3"},
		{"add\t1\t2", "error 3"},
		{"add 1 2\r", "error 3"},
		{"add 1\u00a02", "error 3"},
		{"  eval   3  5   /   2  ", "7"},
		{"  clear  ", "ok"},
		{"  sum  ", "error 4"},
	} {
		lineSaid(t, c[0], c[1])
	}
}

func TestLines(t *testing.T) {
	for _, c := range [][2]string{
		{"", ""},
		{"\n", ""},
		{"\n\n\n", ""},
		{" ", ""},
		{"   \n ", ""},
		{"add 1 2", "3\n"},
		{"add 1 2\n", "3\n"},
		{"add 1 2\nadd 3 4", "3\n7\n"},
		{"\nadd 1 2\n\n  \nadd 3 4\n\n", "3\n7\n"},
		{"#", ""},
		{"#\n", ""},
		{"# add 1 2\n", ""},
		{"#add 1 2\n", ""},
		{"   # add 1 2\nadd 1 2\n", "3\n"},
		{"## x\n#\x00\xff\nadd 1 2\n", "3\n"},
		{"add 1 # 2\n", "error 3\n"},
		{"add 1 2 # three\n", "error 3\n"},
		{"\t\n", "error 3\n"},
		{"\r\n", "error 3\n"},
		{"\t# no\n", "error 3\n"},
		{"\x00", "error 3\n"},
		{"\xff\xfe\n\x80", "error 3\nerror 3\n"},
		{"x\nadd 1 2\nx\n", "error 3\n3\nerror 3\n"},
	} {
		said(t, c[0], c[1])
	}
}

func TestHowLongATextMayBe(t *testing.T) {
	const most = 65536
	for _, n := range []int{most - 1, most} {
		said(t, "add 1 2"+strings.Repeat(" ", n-7), "3\n")
		said(t, strings.Repeat("#", n), "")
		said(t, strings.Repeat("x", n), "error 3\n")
		said(t, "add 1 2\n"+strings.Repeat(" ", n-9)+"\n", "3\n")
	}
	for _, n := range []int{most + 1, most + 2, 1 << 20} {
		said(t, "add 1 2\n"+strings.Repeat(" ", n-8), "error 2\n")
		said(t, strings.Repeat("#", n), "error 2\n")
		said(t, strings.Repeat("\n", n), "error 2\n")
		said(t, strings.Repeat("x", n), "error 2\n")
		said(t, "add 1 2\n"+strings.Repeat(" ", n-9)+"\n", "error 2\n")
	}
	// Bytes are counted, not what they stand for: each of these takes two.
	said(t, "#"+strings.Repeat("\u00e9", most/2), "error 2\n")
}

func TestHowManyLinesATextMayHave(t *testing.T) {
	for _, n := range []int{1, 199, 200} {
		said(t, strings.Repeat("add 1 2\n", n), strings.Repeat("3\n", n))
		said(t, strings.Repeat("add 1 2\n", n-1)+"add 1 2", strings.Repeat("3\n", n))
		said(t, strings.Repeat("\n", n-1)+"add 1 2\n", "3\n")
		said(t, strings.Repeat("# no\n", n-1)+"add 1 2\n", "3\n")
	}
	for _, line := range []string{"add 1 2\n", "\n", " \n", "# no\n", "x\n"} {
		for _, n := range []int{201, 202, 1000} {
			said(t, strings.Repeat(line, n), "error 2\n")
		}
		said(t, strings.Repeat(line, 200)+"add 1 2", "error 2\n")
		said(t, strings.Repeat(line, 200)+" ", "error 2\n")
		said(t, strings.Repeat(line, 200)+"#", "error 2\n")
		said(t, strings.Repeat(line, 199)+"add 1 2\nx", "error 2\n")
	}
	said(t, strings.Repeat("\n", 200), "")
}

func TestNoCircuit(t *testing.T) {
	for _, line := range []string{"show", "run", "run 1", "run 1 2 3", "prove /", "prove 3 4 / 12 7", "prove 3 /"} {
		lineSaid(t, line, "error 3 1")
		said(t, tiny+"clear\n"+line+"\n", tinySaid+"ok\nerror 3 1\n")
	}
}

func TestShow(t *testing.T) {
	onTiny(t, "show", tinyText+"ok")
	said(t, tiny+"show\nshow", tinySaid+tinyText+"ok\n"+tinyText+"ok\n")
	said(t, "  circuit   inputs    1  \ncircuit layer 1\ncircuit  mul  0  1\n circuit add 0 1 \nshow\n", tinySaid+tinyText+"ok\n")
	said(t, tiny+"circuit layer 0\ncircuit mul 0 1\nshow\n", tinySaid+"ok\nok\n"+tinyText+"layer 0\nmul 0 1\nok\n")
	said(t, "circuit inputs 0\ncircuit layer 0\ncircuit add 0 0\nshow\n", "ok\nok\nok\ninputs 0\nlayer 0\nadd 0 0\nok\n")
}

// laid is the lines that lay a text, line by line, and their answers.
func laid(text string) (lines, answers string) {
	for _, line := range strings.SplitAfter(text, "\n") {
		if line != "" {
			lines += "circuit " + line
			answers += "ok\n"
		}
	}
	return lines, answers
}

// TestWrongTexts: Parse's error goes with its line, Check's with 0, and so for
// each command that needs a circuit.
func TestWrongTexts(t *testing.T) {
	for _, c := range [][2]string{
		{"inputs\n", "error 3 1"},
		{"layer 1\n", "error 3 1"},
		{"inputs 01\n", "error 3 1"},
		{"inputs\t1\n", "error 3 1"},
		{"# no\n", "error 3 1"},
		{"\n", "error 3 1"},
		{"\ninputs 1\n", "error 3 1"},
		{"inputs 1\nadd 0 1\n", "error 3 2"},
		{"inputs 1\n\nlayer 1\n", "error 3 2"},
		{"inputs 1\nlayer 1\nmul 0 1\nadd 0\n", "error 3 4"},
		{"inputs 1\nlayer 1\nmul 0 1\nadd 0 1\n\n", "error 3 5"},
		{"inputs 1\nlayer 1\nmul 0 100\nx\n", "error 3 3"},
		{"inputs 1\n" + strings.Repeat("layer 1\n", 11) + "x\n", "error 3 13"},
		{"inputs 1\n", "error 1 0"},
		{"inputs 5\nlayer 0\nadd 0 0\n", "error 1 0"},
		{"inputs 1\nlayer 0\nadd 0 2\n", "error 1 0"},
		{"inputs 1\nlayer 5\nadd 0 0\n", "error 1 0"},
		{"inputs 1\nlayer 1\nadd 0 1\n", "error 4 0"},
		{"inputs 1\nlayer 0\n", "error 4 0"},
		{"inputs 0\n" + strings.Repeat("layer 0\nadd 0 0\n", 5), "error 2 0"},
	} {
		lines, answers := laid(c[0])
		for _, line := range []string{"show", "run 3 4", "run", "prove 3 4 / 12 7", "prove /", "prove 3 / 12"} {
			said(t, lines+line+"\n", answers+c[1]+"\n")
		}
		// A line that can't be read is told ahead of the text that can't.
		for _, line := range []string{"show 1", "run x", "run 3 04", "prove", "prove 3 4", "prove x / 12 7", "prove 3 4 / x", "prove 3 4 / 12 7 /"} {
			said(t, lines+line+"\n", answers+"error 3\n")
		}
	}
}

// TestCircuitLinesOfNoWords: such a line is laid as one that is empty.
func TestCircuitLinesOfNoWords(t *testing.T) {
	said(t, "circuit\nshow\n", "ok\nerror 3 1\n")
	said(t, "circuit   \ncircuit inputs 1\nshow\n", "ok\nok\nerror 3 1\n")
	said(t, tiny+"circuit\nshow\n", tinySaid+"ok\nerror 3 5\n")
}

func TestHowLongACircuitsTextMayBe(t *testing.T) {
	lineOf := func(bytes int) string { return "circuit " + strings.Repeat("x", bytes-1) + "\n" }
	said(t, lineOf(4096), "ok\n")
	said(t, lineOf(4097), "error 2\n")
	said(t, lineOf(65000), "error 2\n")
	said(t, lineOf(4095)+"circuit\ncircuit\n", "ok\nok\nerror 2\n")
	said(t, lineOf(4096)+"circuit\n", "ok\nerror 2\n")
	said(t, lineOf(4094)+"circuit x\ncircuit\n", "ok\nok\nerror 2\n")
	said(t, lineOf(4095)+"circuit x\ncircuit\n", "ok\nerror 2\nok\n")
	said(t, strings.Repeat(lineOf(100), 40)+lineOf(96)+"circuit\n", strings.Repeat("ok\n", 41)+"error 2\n")
	said(t, strings.Repeat(lineOf(100), 40)+lineOf(97)+lineOf(96), strings.Repeat("ok\n", 40)+"error 2\nok\n")
	// Each word counts with the blank ahead of it, and no other blank does.
	said(t, "circuit"+strings.Repeat("  x", 2048)+"\n", "ok\n")
	said(t, "circuit"+strings.Repeat(" x", 2047)+" xx\n", "error 2\n")
	// With an error the text stays as it was, and clear makes room again.
	said(t, tiny+lineOf(4096)+"show\n", tinySaid+"error 2\n"+tinyText+"ok\n")
	said(t, lineOf(4096)+"circuit x\nclear\n"+tiny+"show\n", "ok\nerror 2\nok\n"+tinySaid+tinyText+"ok\n")
}

func TestClear(t *testing.T) {
	said(t, "clear\nclear\n", "ok\nok\n")
	said(t, tiny+"clear\nshow\n", tinySaid+"ok\nerror 3 1\n")
	said(t, "circuit x\nclear\n"+tiny+"run 3 4\n", "ok\nok\n"+tinySaid+"12 7\n")
}

func TestRunLines(t *testing.T) {
	for _, c := range [][2]string{
		{"run 3 4", "12 7"},
		{"run 0 0", "0 0"},
		{"run 2305843009213693950 1", "2305843009213693950 0"},
		{"run 2305843009213693951 5", "0 5"},
		{"run 9223372036854775807 9223372036854775807", "9 6"},
		{"run", "error 4"},
		{"run 3", "error 4"},
		{"run 3 4 5", "error 4"},
		{"run 3 4 /", "error 3"},
		{"run / 3 4", "error 3"},
	} {
		onTiny(t, c[0], c[1])
	}
	said(t, tiny+"circuit layer 0\ncircuit mul 0 1\nrun 3 4\n", tinySaid+"ok\nok\n84\n")
	said(t, "circuit inputs 0\ncircuit layer 1\ncircuit add 0 0\ncircuit mul 0 0\nrun 9\n", "ok\nok\nok\nok\n18 81\n")
}

func TestProveLines(t *testing.T) {
	for _, c := range [][2]string{
		{"prove 3 4 / 12 7", "holds"},
		{"prove 2305843009213693954 4 / 12 7", "holds"},
		{"prove 3 4 / 2305843009213693963 2305843009213693958", "holds"},
		{"prove 0 0 / 0 0", "holds"},
		{"prove 3 4 / 12 8", "fails"},
		{"prove 3 4 / 13 7", "fails"},
		{"prove 3 4 / 7 12", "fails"},
		{"prove 3 4 / 0 0", "fails"},
		{"prove 4 3 / 12 8", "fails"},
		{"prove 3 5 / 12 7", "fails"},
		{"prove 3 4 / 12", "error 4"},
		{"prove 3 4 / 12 7 0", "error 4"},
		{"prove 3 4 /", "error 4"},
		{"prove 3 / 12 7", "error 4"},
		{"prove 3 4 0 / 12 7", "error 4"},
		{"prove / 12 7", "error 4"},
		{"prove /", "error 4"},
		{"prove 3 4", "error 3"},
		{"prove 3 4 12 7", "error 3"},
		{"prove 3 4 / 12 / 7", "error 3"},
		{"prove 3 4 / 12 7 /", "error 3"},
		{"prove / 3 4 / 12 7", "error 3"},
		{"prove 3 4 // 12 7", "error 3"},
		{"prove 3 4/ 12 7", "error 3"},
		{"prove 3 4 /12 7", "error 3"},
	} {
		onTiny(t, c[0], c[1])
	}
}

// drawCircuit is some circuit that Check takes.
func drawCircuit(draw func() uint64) api.Circuit {
	c := api.Circuit{Log: below(draw, api.MaxLog+1)}
	under := c.Log
	for range 1 + below(draw, api.MaxLayers) {
		l := api.Layer{Log: below(draw, api.MaxLog+1)}
		for range 1 << l.Log {
			l.Gates = append(l.Gates, api.Gate{Mul: draw()>>20&1 == 1, A: below(draw, 1<<under), B: below(draw, 1<<under)})
		}
		c.Layers = append(c.Layers, l)
		under = l.Log
	}
	return c
}

// TestManyCircuits: what is laid is shown, what is run is proved, and with any
// number of the outputs wrong it is not.
func TestManyCircuits(t *testing.T) {
	draw := drawer(21)
	for range 40 {
		c := drawCircuit(draw)
		text, e := circuit.Print(c)
		if e != api.OK {
			t.Fatalf("Print: error %d", e)
		}
		input := make([]uint64, 1<<c.Log)
		for i := range input {
			input[i] = draw() >> 1
		}
		values, e := circuit.Run(c, input)
		if e != api.OK {
			t.Fatalf("Run: error %d", e)
		}
		output := values[len(values)-1]
		script, want := laid(text)
		script += "show\nrun " + joined(input) + "\n"
		want += text + "ok\n" + joined(output) + "\n"
		script += "prove " + joined(input) + " / " + joined(output) + "\n"
		want += "holds\n"
		for i := range output {
			wrong := slices.Clone(output)
			wrong[i] = (wrong[i] + 1) % api.P
			script += "prove " + joined(input) + " / " + joined(wrong) + "\n"
			want += "fails\n"
		}
		said(t, script, want)
	}
}

// TestNothingIsKept: a desk ends with its text, and what fails changes nothing.
func TestNothingIsKept(t *testing.T) {
	said(t, tiny, tinySaid)
	said(t, "show\n", "error 3 1\n")
	said(t, tiny+"circuit x\n"+strings.Repeat("\n", 300), "error 2\n")
	said(t, "run 3 4\n", "error 3 1\n")
	for _, line := range []string{
		"x", "# no", "", "add 1", "inv 0", "sum 1 2 3", "sum 1", "root 1", "eval 1 2", "eval 1 2 / 3", "clear x", "show x", "show",
		"run", "run 3 4", "prove 3 4 / 12 7", "prove 3 4 / 12 8", "prove 3 4", "Circuit x", "inputs 2",
	} {
		before := desk.Run(tiny + line + "\n")
		said(t, tiny+line+"\nshow\nrun 3 4\n", before+tinyText+"ok\n12 7\n")
	}
}

// The model reads a text another way: by patterns, and by numbers of any size.
type model struct{ text string }

var (
	numberForm = regexp.MustCompile(`^(0|[1-9][0-9]*)$`)
	wordForm   = regexp.MustCompile(`[^ ]+`)
	prime      = new(big.Int).SetUint64(api.P)
)

func wrong(e api.Errno) string { return fmt.Sprintf("error %d\n", e) }

func modelNumbers(words []string) ([]uint64, bool) {
	var numbers []uint64
	for _, w := range words {
		n, ok := new(big.Int).SetString(w, 10)
		if !numberForm.MatchString(w) || !ok || n.BitLen() > 63 {
			return nil, false
		}
		numbers = append(numbers, n.Uint64())
	}
	return numbers, true
}

func (m *model) run(text string) string {
	told := ""
	for text != "" {
		line, rest, _ := strings.Cut(text, "\n")
		text = rest
		if words := wordForm.FindAllString(line, -1); len(words) > 0 && words[0][0] != '#' {
			told += m.answer(words)
		}
	}
	return told
}

func (m *model) answer(words []string) string {
	switch first := words[0]; first {
	case "circuit":
		line := strings.Join(words[1:], " ") + "\n"
		if len(m.text)+len(line) > 4096 {
			return wrong(api.ErrLarge)
		}
		m.text += line
		return "ok\n"
	case "clear":
		if len(words) > 1 {
			return wrong(api.ErrSyntax)
		}
		m.text = ""
		return "ok\n"
	case "show", "run", "prove":
		return m.onCircuit(first, words[1:])
	default:
		return plain(first, words[1:])
	}
}

func plain(first string, words []string) string {
	at := slices.Index(words, "/")
	if at < 0 {
		at = len(words)
	} else if first != "eval" {
		return wrong(api.ErrSyntax)
	}
	n, ok := modelNumbers(words[:at])
	counts := map[string]int{"add": 2, "sub": 2, "mul": 2, "pow": 2, "inv": 1, "sum": at, "root": at, "eval": at}
	if count, known := counts[first]; !ok || !known || len(n) != count {
		return wrong(api.ErrSyntax)
	}
	switch first {
	case "sum":
		return told(mle.Sum(n))
	case "root":
		return told(tree.Root(n))
	case "eval":
		if at == len(words) {
			return wrong(api.ErrSyntax)
		}
		point, ok := modelNumbers(words[at+1:])
		if !ok {
			return wrong(api.ErrSyntax)
		}
		return told(mle.Eval(n, point))
	}
	return reckoned(first, n)
}

func told(n uint64, e api.Errno) string {
	if e != api.OK {
		return wrong(e)
	}
	return fmt.Sprintln(n)
}

func reckoned(first string, n []uint64) string {
	a, b, r := new(big.Int).SetUint64(n[0]), new(big.Int).SetUint64(n[len(n)-1]), new(big.Int)
	switch first {
	case "add":
		r.Add(a, b)
	case "sub":
		r.Sub(a, b)
	case "mul":
		r.Mul(a, b)
	case "pow":
		r.Exp(a, b, prime)
	case "inv":
		if r.ModInverse(a, prime) == nil {
			return wrong(api.ErrArg)
		}
	}
	return r.Mod(r, prime).String() + "\n"
}

func (m *model) onCircuit(first string, words []string) string {
	at := slices.Index(words, "/")
	if first == "prove" && at < 0 || first == "run" && at >= 0 || first == "show" && len(words) > 0 {
		return wrong(api.ErrSyntax)
	}
	ahead, behind := words, []string(nil)
	if first == "prove" {
		ahead, behind = words[:at], words[at+1:]
	}
	input, ok := modelNumbers(ahead)
	output, ok2 := modelNumbers(behind)
	if !ok || !ok2 {
		return wrong(api.ErrSyntax)
	}
	c, line, e := circuit.Parse(m.text)
	if e != api.OK {
		return fmt.Sprintf("error %d %d\n", e, line)
	}
	if first == "show" {
		return m.text + "ok\n"
	}
	values, e := circuit.Run(c, input)
	if e != api.OK {
		return wrong(e)
	}
	if first == "run" {
		return strings.Trim(fmt.Sprint(values[len(values)-1]), "[]") + "\n"
	}
	_, proof, _ := fiat.Prove(c, input)
	held, e := fiat.Verify(c, input, output, proof)
	if e != api.OK {
		return wrong(e)
	}
	if held {
		return "holds\n"
	}
	return "fails\n"
}

// pieces are what the drawn lines are made of, beside whole lines.
func pieces() []string {
	return append([]string{
		"add", "sub", "mul", "pow", "inv", "sum", "root", "eval", "circuit", "clear", "show", "run", "prove", "inputs", "layer",
		"/", "/", "/", "0", "0", "1", "1", "2", "3", "4", "12", "7", "2305843009213693951", "9223372036854775807", "#", "#x", "",
	}, wrongNumbers...)
}

func drawLine(draw func() uint64, all []string) string {
	whole := []string{
		"circuit inputs 1", "circuit layer 1", "circuit mul 0 1", "circuit add 0 1", "circuit layer 0", "circuit", "clear", "show",
		"run 3 4", "prove 3 4 / 12 7", "prove 3 4 / 12 8", "eval 3 5 / 2", "sum 1 2 3 4", "root 1 2", "", "# no",
	}
	if below(draw, 3) > 0 {
		return whole[below(draw, len(whole))]
	}
	line := all[below(draw, len(all))]
	for range below(draw, 6) {
		line += strings.Repeat(" ", below(draw, 3)) + all[below(draw, len(all))]
	}
	return line
}

func TestDrawnScripts(t *testing.T) {
	draw, all := drawer(12), pieces()
	for range 1500 {
		script := ""
		if below(draw, 2) == 0 {
			script = tiny
		}
		for range below(draw, 40) {
			script += drawLine(draw, all) + "\n"
		}
		script += drawLine(draw, all)
		var m model
		said(t, script, m.run(script))
		if t.Failed() {
			return
		}
	}
}

// TestAnyBytes: whatever bytes a text has, it is answered, and by whole lines.
func TestAnyBytes(t *testing.T) {
	draw := drawer(5)
	letters := "\n\n \x00\xff/#019addsubmulshowrunproveclearcircuit\t\r"
	for range 3000 {
		bytes := make([]byte, below(draw, 300))
		for i := range bytes {
			bytes[i] = byte(draw() >> 16)
			if below(draw, 4) > 0 {
				bytes[i] = letters[below(draw, len(letters))]
			}
		}
		script := string(bytes)
		if got := desk.Run(script); got != "" && got[len(got)-1] != '\n' {
			t.Fatalf("%q: %q", script, got)
		}
		var m model
		if strings.Count(script, "\n") < 200 {
			said(t, script, m.run(script))
		}
		if t.Failed() {
			return
		}
	}
}

// TestAFullDesk: the greatest circuit, and proofs in all lines that are left.
func TestAFullDesk(t *testing.T) {
	text := "inputs 4\n"
	for range api.MaxLayers {
		text += "layer 4\n"
		for g := range 16 {
			text += fmt.Sprintf("%s %d %d\n", []string{"add", "mul"}[g%2], g, (g+5)%16)
		}
	}
	script, want := laid(text)
	c, _, e := circuit.Parse(text)
	if e != api.OK {
		t.Fatalf("Parse: error %d", e)
	}
	input := counted(16)
	values, _ := circuit.Run(c, input)
	output := joined(values[api.MaxLayers])
	left := api.MaxScript - strings.Count(script, "\n")
	script += strings.Repeat("prove "+joined(input)+" / "+output+"\n", left)
	said(t, script, want+strings.Repeat("holds\n", left))
}
