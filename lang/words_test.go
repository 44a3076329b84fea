package lang_test

import (
	"fmt"
	"regexp"
	"strings"

	"trestle/api"
	"trestle/paths"
)

// This is a second reading of the chapter's words: a line's form is an expression, and the blocks that are open are a list.

var opWords = []string{"?", "put", "copy", "cat", "upper", "sort", "drop", "need", "fail", "loop", "if"}

// lineForms are the table's lines; a group is what Args or N comes of.
var lineForms = []*regexp.Regexp{
	api.Put:   regexp.MustCompile(`^put ([^ ]+) ([!-~]{1,32})$`),
	api.Copy:  regexp.MustCompile(`^copy ([^ ]+) ([^ ]+)$`),
	api.Cat:   regexp.MustCompile(`^cat ([^ ]+(?: [^ ]+){1,7})$`),
	api.Upper: regexp.MustCompile(`^upper ([^ ]+)$`),
	api.Sort:  regexp.MustCompile(`^sort ([^ ]+)$`),
	api.Drop:  regexp.MustCompile(`^drop ([^ ]+)$`),
	api.Need:  regexp.MustCompile(`^need ([a-z0-9_-]{1,16})$`),
	api.Fail:  regexp.MustCompile(`^fail ([!-~]{1,32})$`),
	api.Loop:  regexp.MustCompile(`^loop ([0-9]|[1-9][0-9])$`),
	api.If:    regexp.MustCompile(`^if ([^ ]+)$`),
}

// pathArgs is how many of the Args of an Op are paths, from the first one on.
var pathArgs = []int{api.Put: 1, api.Copy: 2, api.Cat: 8, api.Upper: 1, api.Sort: 1, api.Drop: 1, api.If: 1}

// wantStep is the step of a line, and whether there is one.
func wantStep(line string) (api.Step, bool) {
	for op := api.Put; op <= api.If; op++ {
		m := lineForms[op].FindStringSubmatch(line)
		if m == nil {
			continue
		}
		if op == api.Loop {
			var n int
			fmt.Sscan(m[1], &n)
			return api.Step{Op: op, N: n}, true
		}
		step := api.Step{Op: op, Args: m[1:]}
		if op == api.Cat {
			step.Args = strings.Split(m[1], " ")
		}
		return step, argsAreRight(step)
	}
	return api.Step{}, false
}

// argsAreRight says whether those Args that must be paths are paths.
func argsAreRight(step api.Step) bool {
	for i, arg := range step.Args {
		if step.Op < len(pathArgs) && i < pathArgs[step.Op] && paths.Path(arg) != api.OK {
			return false
		}
	}
	return true
}

// wantParse is what Parse must answer.
func wantParse(cmd string) ([]api.Step, api.Errno) {
	if len(cmd) > 8192 {
		return nil, api.ErrBig
	}
	if cmd == "" {
		return nil, api.OK
	}
	if cmd[len(cmd)-1] != 10 {
		return nil, api.ErrLine
	}
	lines := strings.Split(cmd[:len(cmd)-1], "\n")
	if len(lines) > 64 {
		return nil, api.ErrBig
	}
	lists := [][]api.Step{nil} // of the command, and of each block that is open
	for _, line := range lines {
		last := len(lists) - 1
		step, is := wantStep(line)
		switch {
		case line == "end" && last == 0:
			return nil, api.ErrBlock
		case line == "end":
			outer := lists[last-1]
			outer[len(outer)-1].Block = lists[last]
			lists = lists[:last]
		case !is:
			return nil, api.ErrLine
		default:
			lists[last] = append(lists[last], step)
			if step.Op == api.Loop || step.Op == api.If {
				lists = append(lists, nil)
			}
		}
		if len(lists) > 5 {
			return nil, api.ErrDeep
		}
	}
	if len(lists) > 1 {
		return nil, api.ErrBlock
	}
	return lists[0], api.OK
}

// wantPrint is what Print must answer.
func wantPrint(steps []api.Step) string {
	cmd := ""
	for _, s := range steps {
		word := "?"
		if s.Op >= api.Put && s.Op <= api.If {
			word = opWords[s.Op]
		}
		for _, arg := range s.Args {
			word += " " + arg
		}
		switch s.Op {
		case api.Loop:
			cmd += fmt.Sprintf("%s %d\n%send\n", word, s.N, wantPrint(s.Block))
		case api.If:
			cmd += fmt.Sprintf("%s\n%send\n", word, wantPrint(s.Block))
		default:
			cmd += word + "\n"
		}
	}
	return cmd
}

// wantRight is what Right must answer.
func wantRight(steps []api.Step) api.Errno {
	again, e := wantParse(wantPrint(steps))
	if e == api.OK && tell(again) != tell(steps) {
		return api.ErrLine
	}
	return e
}

// tell is steps as a text that no others have; an empty slice and nil are told alike.
func tell(steps []api.Step) string {
	s := ""
	for _, step := range steps {
		s += fmt.Sprintf("{%d %q %d %s}", step.Op, step.Args, step.N, tell(step.Block))
	}
	return "[" + s + "]"
}

// areValid says whether steps are valid by the chapter's terms, but for the number of lines.
func areValid(steps []api.Step, open int) bool {
	for _, s := range steps {
		if s.Op < api.Put || s.Op > api.If || s.N != 0 && s.Op != api.Loop || open > 4 {
			return false
		}
		switch s.Op {
		case api.Loop:
			if len(s.Args) != 0 || s.N < 0 || s.N > 99 || !areValid(s.Block, open+1) {
				return false
			}
			continue
		case api.If:
			if !areValid(s.Block, open+1) {
				return false
			}
		default:
			if len(s.Block) != 0 {
				return false
			}
		}
		if !areArgs(s) {
			return false
		}
	}
	return true
}

// areArgs says whether a step has as many Args as its Op asks for, all of the right kind.
func areArgs(s api.Step) bool {
	most := []int{api.Put: 2, api.Copy: 2, api.Cat: 8, api.Upper: 1, api.Sort: 1, api.Drop: 1, api.Need: 1, api.Fail: 1, api.If: 1}[s.Op]
	if len(s.Args) != most && (s.Op != api.Cat || len(s.Args) < 2 || len(s.Args) > 8) {
		return false
	}
	last := s.Args[len(s.Args)-1]
	switch s.Op {
	case api.Need:
		return paths.Name(last) == api.OK
	case api.Put, api.Fail:
		if len(last) < 1 || len(last) > 32 || strings.ContainsFunc(last, func(r rune) bool { return r < 33 || r > 126 }) {
			return false
		}
	}
	return argsAreRight(s)
}
