package lang_test

import (
	"math"
	"strings"
	"testing"

	"trestle/api"
	"trestle/lang"
)

// wantPrinted holds Print and Right against what they must answer for steps.
func wantPrinted(t *testing.T, cmd string, e api.Errno, steps ...api.Step) {
	t.Helper()
	if got := lang.Print(steps...); got != cmd {
		t.Errorf("%s: %q, want %q", tell(steps), got, cmd)
	}
	if got := lang.Right(steps...); got != e {
		t.Errorf("%s: %v, want %v", tell(steps), got, e)
	}
}

// P5.2: valid steps.
func TestPrint(t *testing.T) {
	a, b := step(api.Upper, "a"), step(api.Drop, "b")
	wantPrinted(t, "", api.OK)
	for cmd, s := range map[string]api.Step{
		"put a x\n": step(api.Put, "a", "x"), "copy a b\n": step(api.Copy, "a", "b"), "cat a b\n": step(api.Cat, "a", "b"), "cat a b c d e f g h\n": step(api.Cat, "a", "b", "c", "d", "e", "f", "g", "h"),
		"upper a\n": a, "sort d/e\n": step(api.Sort, "d/e"), "drop b\n": b, "need t-1\n": step(api.Need, "t-1"), "fail no!\n": step(api.Fail, "no!"),
		"loop 0\nend\n": loop(0), "loop 99\nupper a\ndrop b\nend\n": loop(99, a, b), "if a\nend\n": ifThere("a"), "if x\nloop 7\nupper a\nend\ndrop b\nend\n": ifThere("x", loop(7, a), b),
	} {
		wantPrinted(t, cmd, api.OK, s)
		wantPrinted(t, "drop b\n"+cmd+"upper a\n", api.OK, b, s, a)
		wantPrinted(t, "if b\n"+cmd+"end\nupper a\n", api.OK, ifThere("b", s), a)
	}
}

// P5.2: steps that are not valid are printed with the Args that there are, and the N of a Loop.
func TestPrintAny(t *testing.T) {
	a := step(api.Upper, "a")
	for cmd, s := range map[string]api.Step{
		"?\n": {}, "? a b\n": {Op: -1, Args: []string{"a", "b"}, N: 3}, "? a\n": {Op: 11, Args: []string{"a"}, Block: []api.Step{a}}, "? x\n": {Op: math.MaxInt, Args: []string{"x"}}, "? y\n": {Op: math.MinInt, Args: []string{"y"}},
		"put\n": {Op: api.Put}, "put \n": step(api.Put, ""), "put a\n": step(api.Put, "a"), "put a x y\n": step(api.Put, "a", "x", "y"), "put   \n": step(api.Put, "", "", ""),
		"cat a\n": step(api.Cat, "a"), "cat a b c d e f g h i\n": step(api.Cat, "a", "b", "c", "d", "e", "f", "g", "h", "i"), "copy a\xff /\n": step(api.Copy, "a\xff", "/"), "sort\n": step(api.Sort),
		"need T\n": step(api.Need, "T"), "fail no no\n": step(api.Fail, "no", "no"), "drop a b\n": step(api.Drop, "a", "b"),
		"loop 100\nend\n": loop(100), "loop -1\nend\n": loop(-1), "loop -9223372036854775808\nend\n": loop(math.MinInt), "loop 9223372036854775807\nend\n": loop(math.MaxInt),
		"loop x 1\nend\n": {Op: api.Loop, Args: []string{"x"}, N: 1}, "loop x y 2\nupper a\nend\n": {Op: api.Loop, Args: []string{"x", "y"}, N: 2, Block: []api.Step{a}}, "loop  3\nend\n": {Op: api.Loop, Args: []string{""}, N: 3},
		"if\nend\n": {Op: api.If}, "if a b\nend\n": {Op: api.If, Args: []string{"a", "b"}}, "if\nupper a\nend\n": {Op: api.If, Block: []api.Step{a}},
		// The command has a line, or a word, more than there are steps, or Args.
		"upper a\n\n": step(api.Upper, "a\n"), "upper a b\n": step(api.Upper, "a b"),
	} {
		wantPrinted(t, cmd, api.ErrLine, s)
		wantPrinted(t, "upper a\n"+cmd, api.ErrLine, a, s)
		wantPrinted(t, "loop 4\n"+cmd+"end\n", api.ErrLine, loop(4, s))
	}
}

// P5.2: a command that Parse takes, but that says other steps.
func TestRightTellsOtherSteps(t *testing.T) {
	a := step(api.Upper, "a")
	for i, steps := range [][]api.Step{
		{{Op: api.Upper, Args: []string{"a"}, N: 1}}, {{Op: api.Put, Args: []string{"a", "x"}, N: -1}}, {{Op: api.If, Args: []string{"a"}, N: 5}}, {{Op: api.Need, Args: []string{"a"}, N: math.MinInt}},
		{{Op: api.Upper, Args: []string{"a"}, Block: []api.Step{a}}}, {{Op: api.Fail, Args: []string{"a"}, Block: []api.Step{{}}}}, {a, {Op: api.Drop, Args: []string{"a"}, Block: []api.Step{loop(1)}}},
		{step(api.Put, "a x")}, {step(api.Cat, "a b c", "d")}, {step(api.Copy, "a b")}, {step(api.Upper, "a\nupper a")}, {step(api.Fail, "a\nfail b")}, {step(api.Put, "a", "x\ndrop a")},
		{ifThere("a\nupper a")}, {ifThere("a\nend\nif a")}, {ifThere("a\nif b\nend")}, {step(api.Upper, "a\nif b\nend")}, {ifThere("a", step(api.Upper, "a\nend\nif a"))},
		{loop(3, api.Step{Op: api.Upper, Args: []string{"a"}, N: 1})}, {ifThere("a", a, ifThere("b", api.Step{Op: api.Upper, Args: []string{"a"}, Block: []api.Step{a}}))},
	} {
		if _, e := lang.Parse(lang.Print(steps...)); e != api.OK {
			t.Errorf("%d: %v, so this shows nothing", i, e)
		}
		wantPrinted(t, wantPrint(steps), api.ErrLine, steps...)
	}
}

// P5.2: the errors of Parse are those of Right.
func TestRightTellsErrors(t *testing.T) {
	a := step(api.Upper, "a")
	many := func(n int) []api.Step {
		var l []api.Step
		for range n {
			l = append(l, a)
		}
		return l
	}
	deep := func(n int) api.Step {
		s := a
		for range n {
			s = ifThere("b", s)
		}
		return s
	}
	for i, c := range []struct {
		steps []api.Step
		want  api.Errno
	}{
		{many(64), api.OK}, {many(65), api.ErrBig}, {[]api.Step{loop(1, many(62)...)}, api.OK}, {[]api.Step{loop(1, many(63)...)}, api.ErrBig},
		{[]api.Step{deep(4)}, api.OK}, {[]api.Step{a, deep(4), deep(4)}, api.OK}, {[]api.Step{deep(5)}, api.ErrDeep}, {[]api.Step{a, deep(5), {}}, api.ErrDeep}, {[]api.Step{{}, deep(5)}, api.ErrLine},
		{[]api.Step{deep(40)}, api.ErrBig}, {[]api.Step{loop(1, ifThere("a", loop(2, ifThere("b", ifThere("c")))))}, api.ErrDeep},
		{[]api.Step{step(api.Upper, "a\nend")}, api.ErrBlock}, {[]api.Step{step(api.Upper, "a\nif a")}, api.ErrBlock}, {[]api.Step{step(api.Upper, "a\nend"), {}}, api.ErrBlock}, {[]api.Step{step(api.Fail, strings.Repeat("x", 8192))}, api.ErrBig},
		{[]api.Step{step(api.Fail, strings.Repeat("x", 8186))}, api.ErrLine}, {[]api.Step{step(api.Fail, strings.Repeat("x", 8187))}, api.ErrBig}, {append(many(64), step(api.Upper, "/")), api.ErrBig},
		{[]api.Step{step(api.Upper, strings.Repeat("a\nupper ", 63)+"a")}, api.ErrLine}, {[]api.Step{step(api.Upper, strings.Repeat("a\nupper ", 64)+"a")}, api.ErrBig},
	} {
		if got := lang.Right(c.steps...); got != c.want {
			t.Errorf("%d: %v, want %v", i, got, c.want)
		}
		followSteps(t, c.steps)
	}
}

// P5.2: a command of at most 64 lines is too great all the same if it has more than 8192 bytes.
func TestRightTellsTooManyBytes(t *testing.T) {
	full := step(api.Cat, longPath, longPath, longPath, longPath, longPath, longPath, longPath, longPath)
	var steps []api.Step
	for n := range 64 {
		want := api.OK
		if n*396 > 8192 {
			want = api.ErrBig
		}
		wantPrinted(t, strings.Repeat("cat"+strings.Repeat(" "+longPath, 8)+"\n", n), want, steps...)
		steps = append(steps, full)
	}
}

// P5.2: around 8192 bytes, with one more step behind them or around them.
func TestRightTellsOneStepTooMuch(t *testing.T) {
	for n := 8170; n < 8198; n++ { // n bytes ahead of the one more
		steps, _ := lang.Parse(ofSize(8000))
		steps = append(steps, step(api.Copy, strings.Repeat("c", 24), strings.Repeat("d", 9)), step(api.Cat, longPath, longPath), step(api.Upper, strings.Repeat("u", n-8149)))
		followSteps(t, steps)
		followSteps(t, append(steps, step(api.Drop, "a")))
		followSteps(t, append(steps, api.Step{}))
		followSteps(t, []api.Step{loop(1, steps...)})
		followSteps(t, []api.Step{ifThere("a", steps...), step(api.Drop, "a")})
	}
}

// R1: Print and Right end also for very many steps, and very deep ones; Right also for those that print without end.
func TestManySteps(t *testing.T) {
	wide := make([]api.Step, 1<<20)
	if got := len(lang.Print(wide...)); got != 2<<20 {
		t.Errorf("%d bytes", got)
	}
	if e := lang.Right(wide...); e != api.ErrBig {
		t.Errorf("wide: %v", e)
	}
	var deep []api.Step
	for range 1 << 16 {
		deep = []api.Step{ifThere("a", deep...)}
	}
	if got := len(lang.Print(deep...)); got != 9<<16 {
		t.Errorf("%d bytes", got)
	}
	if e := lang.Right(deep...); e != api.ErrBig {
		t.Errorf("deep: %v", e)
	}
	// These share their blocks' memory.
	twice := []api.Step{loop(1), loop(1)}
	for range 60 {
		twice = []api.Step{loop(1, twice...), loop(1, twice...)}
	}
	if e := lang.Right(twice...); e != api.ErrBig {
		t.Errorf("twice: %v", e)
	}
	within := []api.Step{ifThere("a"), ifThere("a")}
	within[0].Block, within[1].Block = within, within
	if e := lang.Right(within...); e != api.ErrBig {
		t.Errorf("within: %v", e)
	}
}
