package paths_test

import (
	"strings"
	"testing"

	"trestle/api"
	"trestle/paths"
	"trestle/samples"
)

var at, numbered = samples.At, samples.Numbered

func big(path string, n int) api.File {
	return api.File{Path: path, Data: strings.Repeat("x", n)}
}

// P3.1: the lists that Check takes.
func TestCheckTakesValidLists(t *testing.T) {
	for i, files := range [][]api.File{
		nil, {}, at("a"), at("a", "b"), at("a/b", "ab"), at("a/b", "a/c", "d"), at("a-", "a/b", "a0"), at("A", "a"), at("a", "aa", "ab"),
		at("a", "b/a"), at("x/a", "y/a"), at("a", "ab/c"), {{Path: "a"}}, {big("a", 2048)}, {big("a", 2047), big("b", 2048)}, numbered(31), numbered(32),
	} {
		if e := paths.Check(files...); e != api.OK {
			t.Errorf("%d: %v", i, e)
		}
	}
}

// P3.1: the faults, each by itself.
func TestCheckTellsFaults(t *testing.T) {
	for i, c := range []struct {
		files []api.File
		want  api.Errno
	}{
		{at(""), api.ErrPath}, {at("a", "b/"), api.ErrPath}, {at("a/../b"), api.ErrPath}, {at("a", "b", "\x7f"), api.ErrPath},
		{[]api.File{big("a", 2049)}, api.ErrBig}, {[]api.File{{Path: "a"}, big("b", 2049)}, api.ErrBig},
		{numbered(33), api.ErrBig}, {numbered(40), api.ErrBig},
		{at("b", "a"), api.ErrTwice}, {at("a", "a"), api.ErrTwice}, {at("a", "c", "b"), api.ErrTwice}, {at("a", "b", "b", "c"), api.ErrTwice},
		{at("a", "A"), api.ErrTwice}, {at("ab", "a/b"), api.ErrTwice},
		{at("a", "a/b"), api.ErrTwice}, {at("a", "a/b/c"), api.ErrTwice}, {at("a/b", "a/b/c"), api.ErrTwice}, {at("c", "d", "d/e"), api.ErrTwice},
		{at("a/b", "a"), api.ErrTwice},
		// Other paths stand between one and what is below it.
		{at("a", "a-", "a/b"), api.ErrTwice}, {at("a", "a!", "a-", "a.", "a/b", "b"), api.ErrTwice}, {at("0", "x/a", "x/a-/c", "x/a/b"), api.ErrTwice},
	} {
		if e := paths.Check(c.files...); e != c.want {
			t.Errorf("%d: %v, want %v", i, e, c.want)
		}
	}
}

// P3.1: the order of the faults: file by file, then how many, then ErrTwice.
func TestCheckTellsTheFirstFault(t *testing.T) {
	for i, c := range []struct {
		files []api.File
		want  api.Errno
	}{
		{[]api.File{big("", 2049)}, api.ErrPath},
		{[]api.File{big("a", 2049), {Path: ""}}, api.ErrBig},
		{[]api.File{{Path: ""}, big("a", 2049)}, api.ErrPath},
		{append(numbered(32), api.File{Path: "/"}), api.ErrPath},
		{append(at("/"), numbered(32)...), api.ErrPath},
		{append(at("b", "a"), api.File{Path: "/"}), api.ErrPath},
		{append(at("b", "a"), big("c", 2049)), api.ErrBig},
		{append(at("z"), numbered(32)...), api.ErrBig},
		{append(at("a", "a/b"), numbered(31)...), api.ErrBig},
		{append(at("a", "a/b"), numbered(30)...), api.ErrTwice},
	} {
		if e := paths.Check(c.files...); e != c.want {
			t.Errorf("%d: %v, want %v", i, e, c.want)
		}
	}
}
