package paths_test

import (
	"strings"
	"testing"

	"trestle/api"
	"trestle/paths"
)

// P3.3: a file gets to the place of its Path's order, or of the file with its Path.
func TestWith(t *testing.T) {
	f := func(p string) api.File { return api.File{Path: p, Data: "new"} }
	b, d := at("b")[0], at("d/x")[0]
	files := []api.File{b, d}
	for p, want := range map[string][]api.File{
		"a": {f("a"), b, d}, "c": {b, f("c"), d}, "z": {b, d, f("z")}, "b": {f("b"), d}, "d/x": {b, f("d/x")}, "d/w": {b, f("d/w"), d}, "d/xx": {b, d, f("d/xx")},
		"b-": {b, f("b-"), d}, "A": {f("A"), b, d}, "dx": {b, d, f("dx")}, "d-": {b, f("d-"), d}, "x/b": {b, d, f("x/b")},
	} {
		got, e := paths.With(files, f(p))
		wantErr(t, p, e, api.OK)
		wantFiles(t, p, got, want)
	}
	got, e := paths.With(nil, f("a"))
	wantErr(t, "no files", e, api.OK)
	wantFiles(t, "no files", got, []api.File{f("a")})
}

// P3.3: of a list that is not in order, the first with the Path, or else the first whose Path is greater.
func TestWithAnyList(t *testing.T) {
	n := api.File{Path: "m", Data: "new"}
	for i, c := range []struct{ files, want []api.File }{
		{at("z", "m", "a", "m"), append(append(at("z"), n), at("a", "m")...)},
		{at("a", "z", "a", "y"), append(append(at("a"), n), at("z", "a", "y")...)},
		{at("c", "b", "a"), append(at("c", "b", "a"), n)},
		{at("", "/", "z/"), append(append(at("", "/"), n), at("z/")...)},
		{[]api.File{{Path: "b"}, big("c", 3000)}, []api.File{{Path: "b"}, big("c", 3000), n}},
		// `m/` is not below `m`.
		{at("m/"), append([]api.File{n}, at("m/")...)},
	} {
		got, e := paths.With(c.files, n)
		if e != api.OK {
			t.Errorf("%d: %v", i, e)
		}
		wantFiles(t, "list", got, c.want)
	}
}

// P3.3: With's faults, and their order.
func TestWithTellsFaults(t *testing.T) {
	for i, c := range []struct {
		files []api.File
		f     api.File
		want  api.Errno
	}{
		{nil, api.File{}, api.ErrPath}, {at("a"), api.File{Path: "a/"}, api.ErrPath}, {nil, big("/", 2049), api.ErrPath},
		{at("a"), api.File{Path: "a//b"}, api.ErrPath}, {numbered(32), api.File{Path: "."}, api.ErrPath}, {nil, big(strings.Repeat("x", 49), 1), api.ErrPath},
		{nil, big("a", 2049), api.ErrBig}, {at("a"), big("a", 2049), api.ErrBig}, {at("a"), big("a/b", 2049), api.ErrBig},
		{at("a"), big("a/b", 2048), api.ErrTwice}, {at("a/b"), big("a", 0), api.ErrTwice}, {at("a/b"), big("a/b/c/d", 0), api.ErrTwice}, {at("a/b/c/d"), big("a/b", 0), api.ErrTwice},
		{at("a", "a-", "c"), big("a/b", 0), api.ErrTwice}, {at("a-", "a/b"), big("a", 0), api.ErrTwice}, {at("z", "a//b"), big("a", 0), api.ErrTwice},
		// There is one at the Path, and yet another above it, or below it.
		{at("a", "a/b"), big("a", 0), api.ErrTwice}, {at("a/b", "a"), big("a/b", 0), api.ErrTwice},
		{append(at("a"), numbered(32)...), big("a/b", 0), api.ErrTwice},
		{numbered(32), big("a", 0), api.ErrBig}, {numbered(32), big("z", 0), api.ErrBig}, {numbered(33), big("n10", 0), api.ErrBig}, {numbered(60), big("a", 0), api.ErrBig},
	} {
		got, e := paths.With(c.files, c.f)
		if e != c.want || got != nil {
			t.Errorf("%d: %.100v, %v, want %v", i, got, e, c.want)
		}
	}
}

// P3.3: up to the greatest file and the greatest number of files.
func TestWithTakesTheGreatest(t *testing.T) {
	got, e := paths.With(numbered(31), big("z", 2048))
	if e != api.OK || len(got) != 32 || got[31] != big("z", 2048) {
		t.Errorf("%d files, %v", len(got), e)
	}
	got, e = paths.With(got, big("n20", 7))
	if e != api.OK || len(got) != 32 || got[10] != big("n20", 7) {
		t.Errorf("%d files, %v", len(got), e)
	}
}

// P3.4: Into puts a path and `/` ahead of each Path.
func TestInto(t *testing.T) {
	files := []api.File{{Path: "a", Data: "1"}, {Path: "b/c", Data: "2"}}
	got, e := paths.Into(files, "x/y")
	wantErr(t, "x/y", e, api.OK)
	wantFiles(t, "x/y", got, []api.File{{Path: "x/y/a", Data: "1"}, {Path: "x/y/b/c", Data: "2"}})
	got, e = paths.Into(nil, "x")
	wantErr(t, "no files", e, api.OK)
	wantFiles(t, "no files", got, nil)
}

// P3.4: Into asks for nothing but paths: neither for order, nor for few files, nor for little data.
func TestIntoAnyList(t *testing.T) {
	got, e := paths.Into([]api.File{big("b", 3000), {Path: "a"}, {Path: "a"}}, "x")
	wantErr(t, "any list", e, api.OK)
	wantFiles(t, "any list", got, []api.File{big("x/b", 3000), {Path: "x/a"}, {Path: "x/a"}})
	if got, e := paths.Into(numbered(40), "x"); e != api.OK || len(got) != 40 || got[39].Path != "x/n49" {
		t.Errorf("%d files, %v", len(got), e)
	}
}

// P3.4: ErrPath of a path that is none, also of one that comes of two.
func TestIntoTellsFaults(t *testing.T) {
	for _, c := range []struct {
		files []api.File
		path  string
		want  api.Errno
	}{
		{nil, "", api.ErrPath}, {nil, "x/", api.ErrPath}, {nil, "..", api.ErrPath}, {at("a"), "", api.ErrPath}, {at("a"), "/x", api.ErrPath}, {nil, strings.Repeat("x", 49), api.ErrPath},
		{at(""), "x", api.ErrPath}, {at("/a"), "x", api.ErrPath}, {at("a/"), "x", api.ErrPath}, {at("a", "b", ".."), "x", api.ErrPath}, {at("a", "b c"), "x", api.ErrPath},
		{at("a"), strings.Repeat("x", 46), api.OK}, {at("a"), strings.Repeat("x", 47), api.ErrPath}, {at("a", "aa"), strings.Repeat("x", 46), api.ErrPath},
		{nil, strings.Repeat("x", 48), api.OK}, {at(strings.Repeat("a", 46)), "x", api.OK}, {at(strings.Repeat("a", 47)), "x", api.ErrPath},
	} {
		got, e := paths.Into(c.files, c.path)
		wantErr(t, c.path, e, c.want)
		if e != api.OK && got != nil {
			t.Errorf("%q: %.100v beside %v", c.path, got, e)
		}
	}
}

// P3.4: Union is With for each, one after the other.
func TestUnion(t *testing.T) {
	got, e := paths.Union(at("b", "d"), api.File{Path: "d", Data: "1"}, api.File{Path: "a", Data: "2"}, api.File{Path: "c", Data: "3"}, api.File{Path: "a", Data: "4"})
	wantErr(t, "Union", e, api.OK)
	wantFiles(t, "Union", got, []api.File{{Path: "a", Data: "4"}, at("b")[0], {Path: "c", Data: "3"}, {Path: "d", Data: "1"}})
	got, e = paths.Union(nil, at("b", "a")...)
	wantErr(t, "from nothing", e, api.OK)
	wantFiles(t, "from nothing", got, at("a", "b"))
}

// P3.4: without more, Union asks nothing of the files.
func TestUnionOfNoMore(t *testing.T) {
	for _, files := range [][]api.File{nil, at("a", "b"), at("b", "a", "a/b", ""), numbered(40)} {
		got, e := paths.Union(files)
		wantErr(t, "no more", e, api.OK)
		wantFiles(t, "no more", got, files)
	}
}

// P3.4: Union answers the first error of With, even if a later file would put it right or tell another one.
func TestUnionTellsFaults(t *testing.T) {
	for i, c := range []struct {
		files, more []api.File
		want        api.Errno
	}{
		{at("a"), at("b", "a/c", ""), api.ErrTwice}, {at("a"), at("b", "b/c"), api.ErrTwice}, {at("a"), at("", "a/c"), api.ErrPath},
		{at("a"), []api.File{big("b", 2049), {Path: "b"}}, api.ErrBig}, {numbered(30), at("x", "y", "z"), api.ErrBig}, {numbered(32), at("n10", "x", ""), api.ErrBig},
		{numbered(32), at("n10/a", "x"), api.ErrTwice},
	} {
		got, e := paths.Union(c.files, c.more...)
		if e != c.want || got != nil {
			t.Errorf("%d: %.100v, %v, want %v", i, got, e, c.want)
		}
	}
	if got, e := paths.Union(numbered(30), at("x", "n10", "y", "x")...); e != api.OK || len(got) != 32 {
		t.Errorf("%d files, %v", len(got), e)
	}
}
