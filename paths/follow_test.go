package paths_test

import (
	"maps"
	"math/rand/v2"
	"slices"
	"strings"
	"testing"

	"trestle/api"
	"trestle/paths"
	"trestle/samples"
)

// isValid says by other means than Check whether a list of files is valid.
func isValid(files []api.File) bool {
	for i, f := range files {
		if paths.Path(f.Path) != api.OK || len(f.Data) > 2048 {
			return false
		}
		for _, g := range files[i+1:] {
			if f.Path >= g.Path || strings.HasPrefix(g.Path+"/", f.Path+"/") {
				return false
			}
		}
	}
	return len(files) <= 32
}

// validLists are all valid lists of some paths in order.
func validLists(ps ...string) [][]api.File {
	var all [][]api.File
	for set := range 1 << len(ps) {
		var some []string
		for i, p := range ps {
			if set>>i&1 == 1 {
				some = append(some, p)
			}
		}
		if files := at(some...); isValid(files) {
			all = append(all, files)
		}
	}
	return all
}

var fewPaths = []string{"a", "a-", "a/b", "a/b-", "a/b/c", "a0", "b", "b/a", "b/a/a"}

// P3.1: Check against another way to say what is valid.
func TestCheckAgainstWords(t *testing.T) {
	var lists [][]api.File
	for _, s := range samples.Strings("012345678", 3) {
		var files []api.File
		for i := range s {
			files = append(files, api.File{Path: fewPaths[s[i]-'0']})
		}
		lists = append(lists, files)
	}
	for _, files := range lists {
		if got := paths.Check(files...); (got == api.OK) != isValid(files) || got != api.OK && got != api.ErrTwice {
			t.Fatalf("%v: %v", files, got)
		}
	}
}

// P3.5: what comes of valid lists is valid; Get after With; all against a map.
func TestResultsAreValid(t *testing.T) {
	lists := validLists(fewPaths...)
	for _, files := range lists {
		for _, p := range append([]string{"", "/", "a/", "b/a/", "c"}, fewPaths...) {
			if out := paths.Without(files, p); !isValid(out) {
				t.Fatalf("Without(%v, %q): %v", files, p, out)
			}
			if out := paths.Under(files, p); !isValid(out) {
				t.Fatalf("Under(%v, %q): %v", files, p, out)
			}
			if out, e := paths.Into(files, p); e == api.OK && !isValid(out) {
				t.Fatalf("Into(%v, %q): %v", files, p, out)
			}
			followWith(t, files, api.File{Path: p, Data: "new"})
		}
	}
	t.Logf("%d lists", len(lists))
}

// followWith holds With against a map of the files, and Get against it.
func followWith(t *testing.T, files []api.File, f api.File) {
	t.Helper()
	want := map[string]string{f.Path: f.Data}
	clash := false
	for _, g := range files {
		if g.Path != f.Path {
			want[g.Path] = g.Data
			clash = clash || strings.HasPrefix(g.Path, f.Path+"/") || strings.HasPrefix(f.Path, g.Path+"/")
		}
	}
	out, e := paths.With(files, f)
	if bad := paths.Path(f.Path) != api.OK; bad || clash {
		if out != nil || bad && e != api.ErrPath || !bad && e != api.ErrTwice {
			t.Fatalf("With(%v, %v): %v, %v", files, f, out, e)
		}
		return
	}
	if e != api.OK || !isValid(out) || len(out) != len(want) {
		t.Fatalf("With(%v, %v): %v, %v", files, f, out, e)
	}
	for _, p := range append(slices.Collect(maps.Keys(want)), fewPaths...) {
		data, is := want[p]
		if got, there := paths.Get(out, p); got != data || there != is {
			t.Fatalf("Get(%v, %q): %q, %v", out, p, got, there)
		}
	}
}

// P3.5: Union of two valid lists is valid, and has the later data of each path.
func TestUnionIsValid(t *testing.T) {
	lists := validLists("a", "a-", "a/b", "b/a", "b/a/a", "c")
	for _, files := range lists {
		for _, more := range lists {
			for i := range more {
				more[i].Data = "more"
			}
			out, e := paths.Union(files, more...)
			want := map[string]string{}
			for _, f := range slices.Concat(files, more) {
				want[f.Path] = f.Data
			}
			var all []api.File
			for _, p := range slices.Sorted(maps.Keys(want)) {
				all = append(all, api.File{Path: p, Data: want[p]})
			}
			if fits := isValid(all); fits && (e != api.OK || !slices.Equal(out, all)) || !fits && (e != api.ErrTwice || out != nil) {
				t.Fatalf("Union(%v, %v): %v, %v", files, more, out, e)
			}
		}
	}
}

// P3.5: Under inverts Into.
func TestUnderInvertsInto(t *testing.T) {
	for _, files := range append(validLists(fewPaths...), numbered(32)) {
		for _, p := range []string{"a", "x/y", "a/b", strings.Repeat("z", 40)} {
			in, e := paths.Into(files, p)
			if out := paths.Under(in, p); e != api.OK || !slices.Equal(out, files) {
				t.Fatalf("%v under %q: %v, %v", files, p, out, e)
			}
			if rest := paths.Without(in, p); len(rest) != 0 {
				t.Fatalf("%v without %q: %v", in, p, rest)
			}
		}
	}
}

// R2: no call changes its arguments, not even behind their end, and no result shares memory with them.
func TestArgumentsStay(t *testing.T) {
	whole := at("a/b", "a/c", "e", "behind", "behind")
	files := whole[:3]
	more := at("e", "d")
	before := slices.Clone(whole)
	calls := map[string]func() ([]api.File, api.Errno){
		"With at its place": func() ([]api.File, api.Errno) { return paths.With(files, api.File{Path: "b"}) },
		"With at the end":   func() ([]api.File, api.Errno) { return paths.With(files, api.File{Path: "z"}) },
		"With in place":     func() ([]api.File, api.Errno) { return paths.With(files, api.File{Path: "e"}) },
		"Without":           func() ([]api.File, api.Errno) { return paths.Without(files, "e"), api.OK },
		"Without none":      func() ([]api.File, api.Errno) { return paths.Without(files, "z"), api.OK },
		"Under":             func() ([]api.File, api.Errno) { return paths.Under(files, "a"), api.OK },
		"Into":              func() ([]api.File, api.Errno) { return paths.Into(files, "x") },
		"Union":             func() ([]api.File, api.Errno) { return paths.Union(files, more...) },
		"Union of no more":  func() ([]api.File, api.Errno) { return paths.Union(files) },
	}
	for what, call := range calls {
		out, e := call()
		wantErr(t, what, e, api.OK)
		for i := range out[:cap(out)] {
			out[:cap(out)][i] = api.File{Path: "mine"}
		}
		wantFiles(t, what, whole, before)
		wantFiles(t, what, more, at("e", "d"))
	}
	paths.Check(files...)
	paths.Get(files, "e")
	wantFiles(t, "Check and Get", whole, before)
}

// R1: every call ends without a panic for all arguments, and gives no files beside an error.
func TestAnyArguments(t *testing.T) {
	r := rand.New(rand.NewPCG(3, 3))
	text := func() string {
		b := make([]byte, r.IntN(6))
		for i := range b {
			b[i] = "a./\x00\xff-"[r.IntN(6)]
		}
		return string(b)
	}
	list := func() []api.File {
		files := make([]api.File, r.IntN(40)/(1+r.IntN(10)))
		for i := range files {
			files[i] = api.File{Path: text(), Data: text()}
		}
		return files
	}
	for range 20000 {
		files, p := list(), text()
		paths.Check(files...)
		paths.Get(files, p)
		paths.Without(files, p)
		paths.Under(files, p)
		for _, call := range []func() ([]api.File, api.Errno){
			func() ([]api.File, api.Errno) { return paths.With(files, api.File{Path: p}) },
			func() ([]api.File, api.Errno) { return paths.Into(files, p) },
			func() ([]api.File, api.Errno) { return paths.Union(files, list()...) },
		} {
			if out, e := call(); e != api.OK && out != nil {
				t.Fatalf("%v, %q: %v beside %v", files, p, out, e)
			}
		}
	}
}
