package lang_test

import (
	"strconv"
	"strings"
	"testing"

	"trestle/api"
	"trestle/lang"
)

// step is one without a Block.
func step(op int, args ...string) api.Step {
	return api.Step{Op: op, Args: args}
}

func loop(n int, block ...api.Step) api.Step {
	return api.Step{Op: api.Loop, N: n, Block: block}
}

func ifThere(path string, block ...api.Step) api.Step {
	return api.Step{Op: api.If, Args: []string{path}, Block: block}
}

// lines is a command.
func lines(l ...string) string {
	return strings.Join(l, "\n") + "\n"
}

// wantSteps holds Parse against the steps that a command must be.
func wantSteps(t *testing.T, cmd string, want ...api.Step) {
	t.Helper()
	if got, e := lang.Parse(cmd); e != api.OK || tell(got) != tell(want) {
		t.Errorf("%q: %s, %v, want %s", cmd, tell(got), e, tell(want))
	}
}

// wantError holds Parse against the error of a command.
func wantError(t *testing.T, cmd string, want api.Errno) {
	t.Helper()
	if got, e := lang.Parse(cmd); e != want || e != api.OK && got != nil {
		t.Errorf("%.60q, %d bytes: %s, %v, want %v", cmd, len(cmd), tell(got), e, want)
	}
}

var (
	longPath = strings.Repeat("p", 48)
	longText = strings.Repeat("t", 32)
	longName = strings.Repeat("n", 16)
)

// P5.1: the step of each line of the table.
func TestParseLines(t *testing.T) {
	for line, want := range map[string]api.Step{
		"put a x":                          step(api.Put, "a", "x"),
		"put a/b put":                      step(api.Put, "a/b", "put"),
		"put put /":                        step(api.Put, "put", "/"),
		"put " + longPath + " " + longText: step(api.Put, longPath, longText),
		"copy a b":                         step(api.Copy, "a", "b"),
		"copy a a":                         step(api.Copy, "a", "a"),
		"cat a b":                          step(api.Cat, "a", "b"),
		"cat a b a":                        step(api.Cat, "a", "b", "a"),
		"cat a b c d e f g h/h":            step(api.Cat, "a", "b", "c", "d", "e", "f", "g", "h/h"),
		"upper end":                        step(api.Upper, "end"),
		"sort ~":                           step(api.Sort, "~"),
		"drop d/e":                         step(api.Drop, "d/e"),
		"need a-1_":                        step(api.Need, "a-1_"),
		"need " + longName:                 step(api.Need, longName),
		"fail ..":                          step(api.Fail, ".."),
		"fail " + longText:                 step(api.Fail, longText),
	} {
		wantSteps(t, line+"\n", want)
	}
	wantSteps(t, "loop 2\nend\n", loop(2))
	wantSteps(t, "if a/b\nend\n", ifThere("a/b"))
}

// P5.1: the lines in their order, and the blocks that an `end` ends.
func TestParseBlocks(t *testing.T) {
	a, b := step(api.Upper, "a"), step(api.Drop, "b")
	wantSteps(t, "")
	wantSteps(t, "upper a\ndrop b\nupper a\n", a, b, a)
	wantSteps(t, lines("loop 2", "upper a", "end"), loop(2, a))
	wantSteps(t, lines("loop 2", "upper a", "drop b", "end", "drop b"), loop(2, a, b), b)
	wantSteps(t, lines("upper a", "if a", "loop 0", "drop b", "end", "upper a", "end", "loop 99", "end"), a, ifThere("a", loop(0, b), a), loop(99))
	wantSteps(t, lines("if a", "end", "if b", "if c", "end", "end"), ifThere("a"), ifThere("b", ifThere("c")))
	wantSteps(t, lines("if a", "loop 1", "if c", "loop 2", "drop b", "end", "end", "end", "end"), ifThere("a", loop(1, ifThere("c", loop(2, b)))))
}

// P5.1: lines that are neither in the table nor `end`.
func TestWrongLines(t *testing.T) {
	for _, line := range []string{
		"", " ", "a", "?", "? a", "nope a", "PUT a x", "Put a x", "put", "put ", "put a", "put a ", "put  a", "put  a x", "put a  x", "put a x ", " put a x", "put a x y",
		"put\ta x", "put a\tx", "put a x\r", "put a x\x00", "put a/ x", "put /a x", "put . x", "put a é", "put " + longPath + "p x", "put a " + longText + "t", "puta x",
		"copy", "copy a", "copy a b c", "copy a ", "copy a /", "copy .. a", "copy  b", "cat", "cat a", "cat a ", "cat a b c d e f g h i", "cat a b ..", "cat /a b", "cat a b c d e f g h/", "cat a b  c",
		"upper", "upper ", "upper a b", "upper a/", "sort", "sort a b", "sort //", "drop", "drop a b", "drop a//b", "need", "need ", "need a b", "need A", "need a/b", "need a.", "need n" + longName,
		"fail", "fail ", "fail a b", "fail t" + longText, "fail \x7f", "fail \x1f", "fail \xff", "loop", "loop ", "loop 1 ", "loop 1 2", "loop a", "if", "if ", "if a b", "if .", "if a ",
		"end ", " end", "end end", "end x", "END", "ende", "en", "end\r", "end\x00",
	} {
		wantError(t, line+"\n", api.ErrLine)
		wantError(t, "drop a\n"+line+"\ndrop b\n", api.ErrLine)
		wantError(t, "loop 1\n"+line+"\nend\n", api.ErrLine)
	}
}

// P5.1: an N is from 0 to 99, without leading zeros.
func TestNumbers(t *testing.T) {
	for n := range 100 {
		wantSteps(t, "loop "+strconv.Itoa(n)+"\nend\n", loop(n))
	}
	for _, n := range []string{"00", "01", "09", "010", "099", "100", "101", "990", "999", "-0", "-1", "-9", "+1", "+0", "0x1", "1_0", "1.", "1e1", "a", "1a", " 1", "９", "18446744073709551617", "9223372036854775808", strings.Repeat("0", 100)} {
		wantError(t, "loop "+n+"\nend\n", api.ErrLine)
	}
}

// P5.1: every byte in every kind of word.
func TestEveryByte(t *testing.T) {
	for i := range 256 {
		b := string([]byte{byte(i)})
		for _, word := range []string{b, b + "x", "x" + b, "1" + b, b + "1"} {
			for _, head := range []string{"put a ", "put ", "copy a ", "cat a b ", "upper ", "need ", "fail ", "loop ", "if ", ""} {
				follow(t, head+word+"\n")
				follow(t, head+word+"\nend\n")
				follow(t, head+word+" x\n")
			}
		}
		follow(t, "drop a"+b)
		follow(t, "drop a\n"+b)
		follow(t, "put"+b+"a x\n")
	}
}

// ofSize is a valid command of n bytes, in few lines.
func ofSize(n int) string {
	cat := "cat" + strings.Repeat(" "+longPath, 8) + "\n"
	cmd := strings.Repeat(cat, n/len(cat)-1)
	for n-len(cmd) >= 80 {
		cmd += "drop " + strings.Repeat("d", 34) + "\n"
	}
	return cmd + "copy " + strings.Repeat("c", 24) + " " + strings.Repeat("d", n-len(cmd)-31) + "\n"
}

// P5.1: up to 8192 bytes.
func TestMostBytes(t *testing.T) {
	for n := 8100; n < 8300; n++ {
		cmd := ofSize(n)
		if len(cmd) != n {
			t.Fatalf("%d bytes, want %d", len(cmd), n)
		}
		want := api.OK
		if n > 8192 {
			want = api.ErrBig
		}
		wantError(t, cmd, want)
		follow(t, cmd)
	}
}

// P5.1: up to 64 lines, those of `end` among them.
func TestMostLines(t *testing.T) {
	wantError(t, strings.Repeat("drop a\n", 63), api.OK)
	wantError(t, strings.Repeat("drop a\n", 64), api.OK)
	wantError(t, strings.Repeat("drop a\n", 65), api.ErrBig)
	wantError(t, strings.Repeat("if a\nend\n", 32), api.OK)
	wantError(t, strings.Repeat("if a\nend\n", 32)+"drop a\n", api.ErrBig)
	wantError(t, "if a\n"+strings.Repeat("drop a\n", 62)+"end\n", api.OK)
	wantError(t, "if a\n"+strings.Repeat("drop a\n", 63)+"end\n", api.ErrBig)
}

// P5.1: up to 4 blocks are open, of both kinds, wherever they are.
func TestMostBlocks(t *testing.T) {
	deep := func(heads string, in string) string { // a letter for each block
		cmd := ""
		for _, c := range heads {
			cmd += map[rune]string{'l': "loop 1\n", 'i': "if a\n"}[c]
		}
		return cmd + in + strings.Repeat("end\n", len(heads))
	}
	for _, heads := range []string{"l", "i", "llll", "iiii", "lili"} {
		wantError(t, deep(heads, ""), api.OK)
		wantError(t, deep(heads, "drop a\n"), api.OK)
		wantError(t, deep(heads, "drop a\n")+deep(heads, ""), api.OK)
	}
	for _, heads := range []string{"lllll", "iiiii", "ilili", "iiiiiiii"} {
		wantError(t, deep(heads, ""), api.ErrDeep)
		wantError(t, "drop a\n"+deep("i", "drop a\n"+deep(heads[1:], "")), api.ErrDeep)
	}
	wantError(t, deep("liil", deep("", "drop b\n")+deep("l", "")), api.ErrDeep)
	wantError(t, deep("lii", deep("l", "")+deep("i", "")+deep("l", "drop a\n")), api.OK)
}

// P5.1: an `end` without a block, and blocks without their `end`.
func TestOpenBlocks(t *testing.T) {
	for _, cmd := range []string{"end\n", "end\nend\n", "drop a\nend\n", "if a\nend\nend\n", "loop 1\nif a\nend\nend\nend\ndrop a\n"} {
		wantError(t, cmd, api.ErrBlock)
	}
	for _, cmd := range []string{"if a\n", "loop 1\n", "loop 1\ndrop a\n", "if a\nif a\nend\n", "if a\nend\nloop 1\n", strings.Repeat("if a\n", 4)} {
		wantError(t, cmd, api.ErrBlock)
	}
}

// P5.1: of several faults, the one that is named first; and line by line.
func TestFirstError(t *testing.T) {
	deep := strings.Repeat("if a\n", 5)
	for i, c := range []struct {
		cmd  string
		want api.Errno
	}{
		{strings.Repeat("x", 8192), api.ErrLine}, {strings.Repeat("x", 8193), api.ErrBig}, {strings.Repeat("\n", 8193), api.ErrBig}, {ofSize(8193) + "end", api.ErrBig},
		{strings.Repeat("\n", 64) + "x", api.ErrLine}, {strings.Repeat("drop a\n", 70) + "x", api.ErrLine}, {strings.Repeat("\n", 65), api.ErrBig}, {strings.Repeat("end\n", 65), api.ErrBig},
		{strings.Repeat("if a\n", 65), api.ErrBig}, {"end", api.ErrLine}, {"end\nif a", api.ErrLine}, {deep + "x", api.ErrLine}, {"\n\n", api.ErrLine},
		{"x\nend\n", api.ErrLine}, {"end\nx\n", api.ErrBlock}, {"end\n" + deep, api.ErrBlock}, {deep + "x\n", api.ErrDeep}, {deep + strings.Repeat("end\n", 9), api.ErrDeep},
		{"x\n" + deep, api.ErrLine}, {"if a\nx\n", api.ErrLine}, {"if a\n" + deep, api.ErrDeep}, {"if a\nend\nend\nx\n", api.ErrBlock}, {"if a\nend x\n", api.ErrLine},
		{strings.Repeat("if a\n", 4) + "if a/\n", api.ErrLine}, {strings.Repeat("loop 1\n", 4) + "loop 100\n", api.ErrLine},
	} {
		if got, e := lang.Parse(c.cmd); e != c.want || got != nil {
			t.Errorf("%d: %s, %v, want %v", i, tell(got), e, c.want)
		}
		follow(t, c.cmd)
	}
}
