package tree_test

import (
	"encoding/hex"
	"slices"
	"strings"
	"testing"

	"trestle/api"
	"trestle/blake"
	"trestle/samples"
	"trestle/tree"
)

var at, numbered = samples.At, samples.Numbered

// file is the entry of a file.
func file(name, data string) api.Entry {
	return api.Entry{Name: name, Digest: blake.Sum(data)}
}

// dir is the entry of a directory.
func dir(name string, entries ...api.Entry) api.Entry {
	return api.Entry{Name: name, Dir: true, Digest: blake.Sum(wantBytes(entries))}
}

func wantEntries(t *testing.T, what any, got, want []api.Entry) {
	t.Helper()
	if !slices.Equal(got, want) {
		t.Errorf("%.200v: %v, want %v", what, got, want)
	}
}

// P4.1: the entries of directories of a valid list.
func TestDir(t *testing.T) {
	files := []api.File{{Path: "a-", Data: "1"}, {Path: "a/b", Data: "2"}, {Path: "a/c/d", Data: "3"}, {Path: "a/c/e/f", Data: ""}, {Path: "e", Data: "4"}}
	e := dir("e", file("f", ""))
	c := dir("c", file("d", "3"), e)
	a := dir("a", file("b", "2"), c)
	for path, want := range map[string][]api.Entry{
		"": {a, file("a-", "1"), file("e", "4")}, "a": {file("b", "2"), c}, "a/c": {file("d", "3"), e}, "a/c/e": {file("f", "")},
		// There is no directory, or none by that path.
		"x": nil, "a-": nil, "e": nil, "a/b": nil, "a/c/d": nil, "a/": nil, "/": nil, "/a": nil, "A": nil, "a/c/": nil, "c": nil, ".": nil, "a/.": nil, "a/c/e/f/g": nil,
	} {
		wantEntries(t, path, tree.Dir(files, path), want)
	}
	wantEntries(t, "no files", tree.Dir(nil, ""), nil)
	wantEntries(t, "no files", tree.Dir(nil, "a"), nil)
	wantEntries(t, "example", tree.Dir([]api.File{{Path: "a/b"}, {Path: "c"}}, ""), []api.Entry{dir("a", file("b", "")), file("c", "")})
}

// P4.1: names are in the order of their bytes, which is not always that of the Paths.
func TestDirInOrder(t *testing.T) {
	got := tree.Dir(at("a!", "a-/x", "a/x", "a0", "Z", "\xff", "a", "~/x", "aa", "\x00"), "")
	var names []string
	for _, e := range got {
		names = append(names, e.Name)
	}
	if want := []string{"\x00", "Z", "a", "a!", "a-", "a0", "aa", "~", "\xff"}; !slices.Equal(names, want) {
		t.Errorf("%q, want %q", names, want)
	}
}

// P4.1: lists that are not valid: the first file of several, a file ahead of a directory, and empty parts.
func TestDirOfAnyList(t *testing.T) {
	f := func(p, data string) api.File { return api.File{Path: p, Data: data} }
	for i, c := range []struct {
		files []api.File
		path  string
		want  []api.Entry
	}{
		{[]api.File{f("b", "1"), f("a", "2"), f("b", "3"), f("a", "4")}, "", []api.Entry{file("a", "2"), file("b", "1")}},
		{[]api.File{f("a/b", "1"), f("a", "2"), f("a/c", "3")}, "", []api.Entry{file("a", "2")}},
		{[]api.File{f("a/b", "1"), f("a", "2"), f("a/c", "3")}, "a", []api.Entry{file("b", "1"), file("c", "3")}},
		{[]api.File{f("a/b", "1"), f("c", "2"), f("a/b", "3"), f("a/a", "4")}, "", []api.Entry{dir("a", file("a", "4"), file("b", "1")), file("c", "2")}},
		{[]api.File{f("", "1")}, "", []api.Entry{file("", "1")}},
		{[]api.File{f("/", "1")}, "", []api.Entry{dir("")}},
		{[]api.File{f("/a", "1")}, "", []api.Entry{dir("", file("a", "1"))}},
		{[]api.File{f("//a", "1")}, "", []api.Entry{dir("", dir("", file("a", "1")))}},
		{[]api.File{f("/a", "1"), f("", "2")}, "", []api.Entry{file("", "2")}},
		{[]api.File{f("a/", "1")}, "", []api.Entry{dir("a")}},
		{[]api.File{f("a/", "1")}, "a", nil},
		{[]api.File{f("a//b", "1")}, "", []api.Entry{dir("a", dir("", file("b", "1")))}},
		{[]api.File{f("a//b", "1")}, "a", []api.Entry{dir("", file("b", "1"))}},
		{[]api.File{f("a//b", "1")}, "a/", []api.Entry{file("b", "1")}},
		{[]api.File{f("../.", "1")}, "", []api.Entry{dir("..", file(".", "1"))}},
		{[]api.File{f(strings.Repeat("n", 100), strings.Repeat("d", 3000))}, "", []api.Entry{file(strings.Repeat("n", 100), strings.Repeat("d", 3000))}},
	} {
		if got := tree.Dir(c.files, c.path); !slices.Equal(got, c.want) {
			t.Errorf("%d: %v, want %v", i, got, c.want)
		}
	}
	if got := tree.Dir(numbered(40), ""); len(got) != 40 {
		t.Errorf("40 files: %d", len(got))
	}
}

// P4.1: digests that another program told.
func TestDigest(t *testing.T) {
	var many []api.File
	for i := range 32 {
		many = append(many, api.File{Path: "x" + string([]byte{byte('0' + i/10), byte('0' + i%10)}) + "/y", Data: strings.Repeat("d", i)})
	}
	for _, c := range []struct {
		files []api.File
		want  string
	}{
		{nil, "69217a3079908094e11121d042354a7c1f55b6482ca1a51e1b250dfd1ed0eef9"},
		{[]api.File{{Path: "a"}}, "b32a400f19144529c5d38821a619b984b6142895b3bb4bf179a5f662318c21c4"},
		{[]api.File{{Path: "a", Data: "x"}}, "9ed9d1a75952b7520e36bf14d347260833997a7a21aaf7fc76e53158678beb49"},
		{[]api.File{{Path: "a-", Data: "1"}, {Path: "a/b", Data: "2"}, {Path: "a/c/d", Data: "3"}, {Path: "e", Data: "4"}}, "7638bb9454367a06ae090da783759b0bd76de23b9573b7f5bcbdb30a8e1be9fd"},
		{many, "60fadb87ed4b4e0094ddcf70ab99ba7d26f1a3c0b47b1b1171e1c2e80acd1716"},
		{[]api.File{{Path: strings.Repeat("p/", 23) + "p", Data: "deep"}}, "a2acfedadc3f0d86b46e05f42211f55358f7827de2be09d3b4d5a0e3742f46e0"},
		{[]api.File{{Path: strings.Repeat("n", 48), Data: strings.Repeat("z", 2048)}}, "42ddb0ddd91f33784c5a47d1f7700b060a98264fad752e03403e3b1d0a33926d"},
		// Not valid: it is not in order, and e is there twice.
		{[]api.File{{Path: "e", Data: "4"}, {Path: "a/b", Data: "2"}, {Path: "e", Data: "5"}}, "38060d1fe270d5b07f50ed2bb977df9fae5e366291a27294f121966b2008c445"},
	} {
		if got := hex.EncodeToString([]byte(tree.Digest(c.files...))); got != c.want {
			t.Errorf("%.100v: %s, want %s", c.files, got, c.want)
		}
	}
}

// mixedPaths are some that a valid list may have, and some that none may have.
var mixedPaths = []string{"a", "a-", "a/b", "a/b-/c", "a/b/c", "", "/", "/a", "a/", "a//b", "//", "b/a"}

// mixedLists are all lists of up to some files with mixed Paths.
func mixedLists(most int) [][]api.File {
	var lists [][]api.File
	for _, s := range samples.Strings("abcdefghijkl", most) {
		var files []api.File
		for i := range s {
			// With the same data of files that stand two apart, blobs come more than once.
			files = append(files, api.File{Path: mixedPaths[s[i]-'a'], Data: "x:y"[i%2:]})
		}
		lists = append(lists, files)
	}
	return lists
}

// P4.1, P4.3: Dir, Digest and Blobs against a second reading of the words.
func TestListsAgainstWords(t *testing.T) {
	for _, files := range mixedLists(3) {
		root := wantDir(files, "")
		if got := tree.Dir(files, ""); !slices.Equal(got, root) {
			t.Fatalf("Dir(%q): %v, want %v", files, got, root)
		}
		for _, path := range append([]string{"a/b", "a/b-", "b"}, mixedPaths...) {
			if want := wantDir(files, path+"/"); path != "" && !slices.Equal(tree.Dir(files, path), want) {
				t.Fatalf("Dir(%q, %q): %v, want %v", files, path, tree.Dir(files, path), want)
			}
		}
		if tree.Digest(files...) != blake.Sum(wantBytes(root)) {
			t.Fatalf("Digest(%q)", files)
		}
		if got, want := tree.Blobs(files...), wantBlobs(files); !slices.Equal(got, want) {
			t.Fatalf("Blobs(%q): %q, want %q", files, got, want)
		}
	}
}
