package paths_test

import (
	"slices"
	"strings"
	"testing"

	"trestle/api"
	"trestle/paths"
)

func wantFiles(t *testing.T, what string, got, want []api.File) {
	t.Helper()
	if !slices.Equal(got, want) {
		t.Errorf("%s: %.300v, want %.300v", what, got, want)
	}
}

// P3.2: Get is the data of the first file with that Path.
func TestGet(t *testing.T) {
	files := []api.File{{Path: "a/b", Data: "1"}, {Path: "a/c", Data: ""}, {Path: "e", Data: "3"}, {Path: "a/b", Data: "4"}, {Path: "", Data: "5"}}
	for p, want := range map[string]string{"a/b": "1", "a/c": "", "e": "3", "": "5"} {
		if got, is := paths.Get(files, p); got != want || !is {
			t.Errorf("%q: %q, %v", p, got, is)
		}
	}
	for _, p := range []string{"a", "a/", "a/b/", "a/bb", "E", "b", "/", "f"} {
		if got, is := paths.Get(files, p); got != "" || is {
			t.Errorf("%q: %q, %v", p, got, is)
		}
	}
	if got, is := paths.Get(nil, ""); got != "" || is {
		t.Errorf("no files: %q, %v", got, is)
	}
}

// P3.2: Without leaves out what is at a path and below it, and nothing else.
func TestWithout(t *testing.T) {
	files := at("a", "a-", "a/b", "a/b/c", "a/bc", "aa", "b/a")
	for p, want := range map[string][]api.File{
		"a":     at("a-", "aa", "b/a"),
		"a/b":   at("a", "a-", "a/bc", "aa", "b/a"),
		"a/b/c": at("a", "a-", "a/b", "a/bc", "aa", "b/a"),
		"b":     at("a", "a-", "a/b", "a/b/c", "a/bc", "aa"),
		"b/a":   at("a", "a-", "a/b", "a/b/c", "a/bc", "aa"),
		"aa":    at("a", "a-", "a/b", "a/b/c", "a/bc", "b/a"),
		"a/":    files, "": files, "/": files, "c": files, "a/b/": files, strings.Repeat("a", 99): files,
	} {
		wantFiles(t, p, paths.Without(files, p), want)
	}
	wantFiles(t, "no files", paths.Without(nil, "a"), nil)
}

// P3.2: files stay in their order, also those of a list that is none, and all that are at the path go.
func TestWithoutKeepsTheOrder(t *testing.T) {
	wantFiles(t, "b", paths.Without(at("c", "b", "a", "b/x", "c", "b", ""), "b"), at("c", "a", "c", ""))
	// `a/` is not below `a`: no byte stands behind the `/`.
	wantFiles(t, "a/", paths.Without(at("a/", "a//", "a"), "a"), at("a/"))
}

// P3.2: Under is what is below a path, by what stands behind it.
func TestUnder(t *testing.T) {
	files := at("a", "a-", "a/b", "a/b/c", "a/bc", "aa", "b/a")
	cut := func(top string, rest ...string) []api.File {
		var out []api.File
		for _, p := range rest {
			out = append(out, api.File{Path: p, Data: "data of " + top + "/" + p})
		}
		return out
	}
	for p, want := range map[string][]api.File{
		"a":   cut("a", "b", "b/c", "bc"),
		"a/b": cut("a/b", "c"),
		"b":   cut("b", "a"),
		"a-":  nil, "aa": nil, "a/b/c": nil, "a/": nil, "": nil, "/": nil, "c": nil, "a/b/": nil, strings.Repeat("a", 99): nil,
	} {
		wantFiles(t, p, paths.Under(files, p), want)
	}
	wantFiles(t, "no files", paths.Under(nil, "a"), nil)
	wantFiles(t, "the document's", paths.Under([]api.File{{Path: "a/b"}, {Path: "a/c"}, {Path: "d"}}, "a"), []api.File{{Path: "b"}, {Path: "c"}})
}

// P3.2: Under keeps the order of any list, and what is there twice.
func TestUnderKeepsTheOrder(t *testing.T) {
	files := at("c", "b/z", "b/a", "b", "b/", "b/z", "b//")
	want := []api.File{{Path: "z", Data: "data of b/z"}, {Path: "a", Data: "data of b/a"}, {Path: "z", Data: "data of b/z"}, {Path: "/", Data: "data of b//"}}
	wantFiles(t, "b", paths.Under(files, "b"), want)
}
