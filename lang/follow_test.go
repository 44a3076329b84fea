package lang_test

import (
	"math/rand/v2"
	"slices"
	"strings"
	"testing"

	"trestle/api"
	"trestle/lang"
	"trestle/samples"
)

// follow holds Parse against the second reading of the words; and Print and Right of what it answers, by P5.3.
func follow(t *testing.T, cmd string) {
	t.Helper()
	got, e := lang.Parse(cmd)
	want, wantE := wantParse(cmd)
	if e != wantE || tell(got) != tell(want) || e != api.OK && got != nil {
		t.Fatalf("%q: %s, %v, want %s, %v", cmd, tell(got), e, tell(want), wantE)
	}
	if e != api.OK {
		return
	}
	if again := lang.Print(got...); again != cmd {
		t.Fatalf("%q is printed as %q", cmd, again)
	}
	if e := lang.Right(got...); e != api.OK {
		t.Fatalf("%q: Right: %v", cmd, e)
	}
}

// followSteps holds Print and Right against the second reading of the words; valid steps come back, by P5.3.
func followSteps(t *testing.T, steps []api.Step) bool {
	t.Helper()
	cmd := lang.Print(steps...)
	if want := wantPrint(steps); cmd != want {
		t.Fatalf("%s: %q, want %q", tell(steps), cmd, want)
	}
	e, want := lang.Right(steps...), wantRight(steps)
	if e != want {
		t.Fatalf("%s: Right: %v, want %v", tell(steps), e, want)
	}
	// By the terms, a fifth block that is empty is valid, yet Parse answers ErrDeep.
	valid := areValid(steps, 0) && strings.Count(cmd, "\n") <= 64 && len(cmd) <= 8192
	if valid != (e == api.OK) && e != api.ErrDeep {
		t.Fatalf("%s: Right: %v, valid: %v", tell(steps), e, valid)
	}
	if again, _ := lang.Parse(cmd); e == api.OK && tell(again) != tell(steps) {
		t.Fatalf("%s: comes back as %s", tell(steps), tell(again))
	}
	return e == api.OK
}

// P5.1, P5.3: all commands of up to seven lines that open or end a block, or are wrong, or say another step.
func TestAllBlocks(t *testing.T) {
	line := map[rune]string{'i': "if a\n", 'l': "loop 7\n", 'e': "end\n", 'd': "drop b\n", 'x': "x\n"}
	for _, s := range append(samples.Strings("ilex", 6), append(samples.Strings("ied", 8), samples.Strings("ie", 11)...)...) {
		var b strings.Builder
		for _, c := range s {
			b.WriteString(line[c])
		}
		follow(t, b.String())
	}
}

// P5.1: all short texts over some bytes, as a command, and behind each first word.
func TestAllShortTexts(t *testing.T) {
	for _, s := range samples.Strings("a /\n1", 5) {
		follow(t, s)
		for _, word := range opWords {
			follow(t, word+s)
			follow(t, word+s+"\n")
			follow(t, word+" "+s+"\nend\n")
		}
	}
}

// pick is one of a list.
func pick[T any](r *rand.Rand, l ...T) T {
	return l[r.IntN(len(l))]
}

// somePath is a path, the longest ones among them.
func somePath(r *rand.Rand) string {
	return pick(r, "a", "b/c", "~", "..a", longPath[:1+r.IntN(48)])
}

// someSteps are up to n valid steps, with no more than some blocks within one another.
func someSteps(r *rand.Rand, n, deep int) []api.Step {
	var steps []api.Step
	for range r.IntN(n + 1) {
		p, q := somePath(r), somePath(r)
		s := pick(r, step(api.Put, p, pick(r, "x", "/", longText)), step(api.Copy, p, q), step(api.Cat, p, q), step(api.Upper, p), step(api.Sort, p), step(api.Drop, p), step(api.Need, pick(r, "a", "0-_", longName)), step(api.Fail, pick(r, "no", longText)), loop(r.IntN(100)), ifThere(p))
		for s.Op == api.Cat && len(s.Args) < 8 && r.IntN(3) > 0 {
			s.Args = append(s.Args, somePath(r))
		}
		if (s.Op == api.Loop || s.Op == api.If) && deep > 0 {
			s.Block = someSteps(r, n, deep-1)
		} else if s.Op == api.Loop || s.Op == api.If {
			continue
		}
		steps = append(steps, s)
	}
	return steps
}

// P5.3: valid steps come back.
func TestValidStepsComeBack(t *testing.T) {
	r := rand.New(rand.NewPCG(5, 3))
	back := 0
	for range 20000 {
		steps := someSteps(r, 5, 4)
		if followSteps(t, steps) {
			back++
		}
		follow(t, lang.Print(steps...))
	}
	if back < 10000 {
		t.Errorf("%d came back", back)
	}
}

// spoil changes something of one of the steps, which may leave them valid.
func spoil(r *rand.Rand, steps []api.Step) {
	if len(steps) == 0 {
		return
	}
	s := &steps[r.IntN(len(steps))]
	switch r.IntN(7) {
	case 0:
		s.Op = r.IntN(14) - 1
	case 1:
		s.N = pick(r, -1, 0, 1, 99, 100)
	case 2:
		s.Block = append(s.Block, pick(r, step(api.Drop, "a"), api.Step{}))
	case 3:
		s.Args = append(s.Args, pick(r, "", "a", "/", "A"))
	case 4:
		s.Args = s.Args[:len(s.Args)/2]
	case 5:
		if len(s.Args) > 0 {
			s.Args[r.IntN(len(s.Args))] = pick(r, "", "a", "a b", "a/", "a\n", "a\nend", "a\ndrop a", "a\nif b", "..", "é", longText, longPath+"p")
		}
	case 6:
		spoil(r, s.Block)
	}
}

// P5.2, R1: all kinds of steps, against the second reading of the words.
func TestAnySteps(t *testing.T) {
	r := rand.New(rand.NewPCG(5, 2))
	wrong := 0
	for range 50000 {
		steps := someSteps(r, 3, 4)
		for range 1 + r.IntN(3) {
			spoil(r, steps)
		}
		if !followSteps(t, steps) {
			wrong++
		}
	}
	if wrong < 10000 {
		t.Errorf("%d were wrong", wrong)
	}
}

// R1: Parse ends without a panic for all commands.
func TestAnyCommands(t *testing.T) {
	r := rand.New(rand.NewPCG(5, 1))
	for range 50000 {
		cmd := []byte(wantPrint(someSteps(r, 3, 4)))
		for range r.IntN(4) {
			if len(cmd) > 0 {
				i := r.IntN(len(cmd))
				cmd = slices.Replace(cmd, i, i+r.IntN(2), []byte(pick(r, "", " ", "\n", "a", "end\n", "\xff", "0", "/"))...)
			}
		}
		follow(t, string(cmd))
	}
}

// clearAll overwrites all the memory of steps.
func clearAll(steps []api.Step) {
	for _, s := range steps {
		clear(s.Args[:cap(s.Args)])
		clearAll(s.Block)
	}
	clear(steps[:cap(steps)])
}

// R2: no call changes its arguments, not even behind their end, and no two lists of a result share memory.
func TestArgumentsStay(t *testing.T) {
	args := []string{"a", "b", "behind"}
	steps := []api.Step{step(api.Copy, args[:2]...), loop(2, ifThere("a", step(api.Drop, "b"))), {Op: api.Loop, Args: args[:1], N: 1}, step(api.Fail, "behind")}
	before := tell(steps)
	for range 2 {
		lang.Print(steps[:3]...)
		lang.Right(steps[:3]...)
		lang.Right(steps[:2]...)
		if tell(steps) != before || args[2] != "behind" {
			t.Fatalf("%s, %q", tell(steps), args)
		}
	}
	cmd := "cat a b c\ndrop a\nif a\ncopy a b\nloop 1\nneed a\nend\ndrop c\nend\nput a x\n"
	for _, part := range []func([]api.Step) []api.Step{
		func(l []api.Step) []api.Step { return l },
		func(l []api.Step) []api.Step { return l[2].Block },
	} {
		want, _ := lang.Parse(cmd)
		for i := range part(want) {
			got, _ := lang.Parse(cmd)
			clearAll(part(got)[i : i+1 : i+1])
			part(got)[i] = part(want)[i]
			if tell(got) != tell(want) {
				t.Errorf("%d: %s", i, tell(got))
			}
		}
	}
}

// R1: no command makes Parse panic or go on without end.
func FuzzParse(f *testing.F) {
	for _, s := range []string{"", "put a x\n", "cat a b c\nloop 2\nif a\nend\nend\n", "end\n", "need a-1\nfail x\nloop 02\n"} {
		f.Add(s)
	}
	f.Fuzz(func(t *testing.T, cmd string) { follow(t, cmd) })
}
