package tree_test

import (
	"math/rand/v2"
	"slices"
	"strconv"
	"strings"
	"testing"

	"trestle/api"
	"trestle/blake"
	"trestle/paths"
	"trestle/tree"
)

// P4.3: the blobs of files: each once, and in order.
func TestBlobs(t *testing.T) {
	a := wantBytes([]api.Entry{file("b", "x"), file("c", "9")})
	root := wantBytes([]api.Entry{dir("a", file("b", "x"), file("c", "9")), dir("e", file("b", "x"), file("c", "9")), file("z", "x")})
	files := []api.File{{Path: "a/b", Data: "x"}, {Path: "a/c", Data: "9"}, {Path: "e/b", Data: "x"}, {Path: "e/c", Data: "9"}, {Path: "z", Data: "x"}}
	for i, c := range []struct {
		files []api.File
		want  []string
	}{
		{nil, []string{""}},
		{files, []string{root, a, "9", "x"}},
		{[]api.File{{Path: "f", Data: a}, {Path: "g/b", Data: "x"}, {Path: "g/c", Data: "9"}}, []string{wantBytes([]api.Entry{file("f", a), dir("g", file("b", "x"), file("c", "9"))}), a, "9", "x"}},
		{[]api.File{{Path: "a"}}, []string{"", wantBytes([]api.Entry{file("a", "")})}},
		// Not valid: the data of all files is there, and the entries that have bytes.
		{[]api.File{{Path: "a", Data: "1"}, {Path: "a/b", Data: "2"}, {Path: "a", Data: "3"}}, []string{"1", "2", "3", wantBytes([]api.Entry{file("a", "1")})}},
		{[]api.File{{Path: "/a", Data: "1"}}, []string{"1", wantBytes([]api.Entry{file("a", "1")})}},
		{[]api.File{{Path: "../a", Data: "1"}, {Path: "x/y", Data: "2"}}, []string{"1", "2", wantBytes([]api.Entry{file("a", "1")}), wantBytes([]api.Entry{file("y", "2")})}},
		{[]api.File{{Path: "", Data: "1"}}, []string{"1"}},
		{[]api.File{{Path: "a/", Data: "1"}}, []string{"", "1", wantBytes([]api.Entry{dir("a")})}},
		{[]api.File{{Path: "x/y/" + strings.Repeat("n", 49), Data: "1"}}, []string{"1", wantBytes([]api.Entry{dir("x", dir("y", file(strings.Repeat("n", 49), "1")))}), wantBytes([]api.Entry{dir("y", file(strings.Repeat("n", 49), "1"))})}},
	} {
		slices.Sort(c.want)
		if got := tree.Blobs(c.files...); !slices.Equal(got, c.want) {
			t.Errorf("%d: %q, want %q", i, got, c.want)
		}
	}
}

// store is blobs, and what makes more of them.
type store struct {
	blobs []string
}

// put puts blobs, and is the digest of the last.
func (s *store) put(blobs ...string) string {
	s.blobs = append(s.blobs, blobs...)
	return blake.Sum(blobs[len(blobs)-1])
}

// file is an entry whose blob is there.
func (s *store) file(name, data string) api.Entry {
	return api.Entry{Name: name, Digest: s.put(data)}
}

// dir is an entry of a directory whose blob is there.
func (s *store) dir(name string, entries ...api.Entry) api.Entry {
	return api.Entry{Name: name, Dir: true, Digest: s.put(wantBytes(entries))}
}

// wantFiles holds Files of a directory with these entries against what is wanted.
func (s *store) wantFiles(t *testing.T, what string, entries []api.Entry, want []api.File, wantErr api.Errno) {
	t.Helper()
	got, e := tree.Files(s.put(wantBytes(entries)), s.blobs...)
	if e != wantErr || !slices.Equal(got, want) || e != api.OK && got != nil {
		t.Errorf("%s: %.300v, %v, want %.300v, %v", what, got, e, want, wantErr)
	}
}

func missing(name string) api.Entry    { return file(name, "missing") }
func missingDir(name string) api.Entry { return dir(name, file("missing", "")) }

// P4.3: files in the order of their Paths.
func TestFiles(t *testing.T) {
	s := &store{}
	s.wantFiles(t, "nothing", nil, nil, api.OK)
	s.wantFiles(t, "a file", []api.Entry{s.file("a", "1")}, []api.File{{Path: "a", Data: "1"}}, api.OK)
	s.wantFiles(t, "an empty file", []api.Entry{s.file("a", "")}, []api.File{{Path: "a"}}, api.OK)
	s.wantFiles(t, "the same file twice", []api.Entry{s.file("a", "1"), s.file("b", "1")}, []api.File{{Path: "a", Data: "1"}, {Path: "b", Data: "1"}}, api.OK)
	s.wantFiles(t, "directories", []api.Entry{s.dir("a", s.file("b", "1"), s.dir("c", s.file("d", "2")), s.file("e", "3")), s.file("a-", "4"), s.dir("b")},
		[]api.File{{Path: "a-", Data: "4"}, {Path: "a/b", Data: "1"}, {Path: "a/c/d", Data: "2"}, {Path: "a/e", Data: "3"}}, api.OK)
	s.wantFiles(t, "the same directory twice", []api.Entry{s.dir("a", s.file("x", "1")), s.dir("b", s.file("x", "1"))}, []api.File{{Path: "a/x", Data: "1"}, {Path: "b/x", Data: "1"}}, api.OK)
	in := s.dir("x", s.file("y", "1"))
	s.wantFiles(t, "a directory's bytes as a file", []api.Entry{in, {Name: "z", Digest: in.Digest}}, []api.File{{Path: "x/y", Data: "1"}, {Path: "z", Data: wantBytes([]api.Entry{s.file("y", "1")})}}, api.OK)
	s.wantFiles(t, "an empty file's bytes as a directory", []api.Entry{s.file("a", ""), s.dir("b")}, []api.File{{Path: "a"}}, api.OK)
	s.wantFiles(t, "the longest path and data", []api.Entry{s.dir("a", s.file(strings.Repeat("n", 46), strings.Repeat("d", 2048)))}, []api.File{{Path: "a/" + strings.Repeat("n", 46), Data: strings.Repeat("d", 2048)}}, api.OK)
}

// P4.3: no blob has the digest, or its blob has no entries.
func TestFilesOfNoDirectory(t *testing.T) {
	for i, c := range []struct {
		root  string
		blobs []string
		want  api.Errno
	}{
		{"", nil, api.ErrNone}, {"", []string{""}, api.ErrNone}, {blake.Sum(""), nil, api.ErrNone}, {blake.Sum("x"), []string{"", "y"}, api.ErrNone},
		{"x", []string{"x"}, api.ErrNone}, {blake.Sum("")[:31], []string{""}, api.ErrNone}, {blake.Sum("") + "x", []string{""}, api.ErrNone}, {strings.ToUpper(blake.Words(blake.Sum(""))), []string{""}, api.ErrNone},
		{blake.Sum("x"), []string{"", "x"}, api.ErrBytes}, {blake.Sum("0:,"), []string{"0:,"}, api.ErrBytes},
		{blake.Sum(wantBytes([]api.Entry{file("..", "")})), []string{"", wantBytes([]api.Entry{file("..", "")})}, api.ErrBytes},
	} {
		if got, e := tree.Files(c.root, c.blobs...); got != nil || e != c.want {
			t.Errorf("%d: %v, %v, want %v", i, got, e, c.want)
		}
	}
}

// P4.3: faults are told entry by entry, those within a directory where it stands.
func TestFilesTellsTheFirstFault(t *testing.T) {
	s := &store{}
	junk := api.Entry{Name: "j", Dir: true, Digest: s.put("junk")}
	long := strings.Repeat("n", 48)
	for what, c := range map[string]struct {
		entries []api.Entry
		want    api.Errno
	}{
		"no file":                            {[]api.Entry{missing("a")}, api.ErrNone},
		"no file behind one":                 {[]api.Entry{s.file("a", ""), missing("b")}, api.ErrNone},
		"no directory":                       {[]api.Entry{missingDir("a")}, api.ErrNone},
		"no file within":                     {[]api.Entry{s.dir("a", s.dir("b", missing("c")))}, api.ErrNone},
		"no entries":                         {[]api.Entry{junk}, api.ErrBytes},
		"no entries within":                  {[]api.Entry{s.dir("a", s.dir("b", junk))}, api.ErrBytes},
		"no file, no entries":                {[]api.Entry{missing("a"), junk}, api.ErrNone},
		"no entries, no file":                {[]api.Entry{junk, missing("k")}, api.ErrBytes},
		"no entries within, no file":         {[]api.Entry{s.dir("a", junk), missing("b")}, api.ErrBytes},
		"no file ahead of a directory":       {[]api.Entry{missing("a"), s.dir("b", junk)}, api.ErrNone},
		"no directory, no entries":           {[]api.Entry{missingDir("a"), junk}, api.ErrNone},
		"a long path":                        {[]api.Entry{s.dir("a", s.file(long, ""))}, api.ErrPath},
		"a path of 49 bytes":                 {[]api.Entry{s.dir("a", s.file(long[1:], ""))}, api.ErrPath},
		"a big file":                         {[]api.Entry{s.file("a", strings.Repeat("d", 2049))}, api.ErrBig},
		"a long path, no file":               {[]api.Entry{s.dir("a", s.file(long, "")), missing("b")}, api.ErrNone},
		"a big file, no entries":             {[]api.Entry{s.file("a", strings.Repeat("d", 2049)), junk}, api.ErrBytes},
		"a long path, a big file":            {[]api.Entry{s.dir("a", s.file(long, "")), s.file("b", strings.Repeat("d", 2049))}, api.ErrPath},
		"a big file, a long path":            {[]api.Entry{s.file("a", strings.Repeat("d", 2049)), s.dir("b", s.file(long, ""))}, api.ErrBig},
		"a big file of the first Path":       {[]api.Entry{s.dir("a", s.file(long, "")), s.file("a-", strings.Repeat("d", 2049))}, api.ErrBig},
		"a long path that is the first":      {[]api.Entry{s.dir("a", s.file("x", strings.Repeat("d", 2049))), s.dir("a-", s.file(long, ""))}, api.ErrPath},
		"a long path of a directory alone":   {[]api.Entry{s.dir("a", s.dir(long, s.dir(long)))}, api.OK},
		"a directory of a file's bytes":      {[]api.Entry{s.file("a", "not entries"), {Name: "b", Dir: true, Digest: blake.Sum("not entries")}}, api.ErrBytes},
		"a file of a missing directory":      {[]api.Entry{missingDir("a"), s.file("b", "")}, api.ErrNone},
		"a directory that is in itself, not": {[]api.Entry{s.dir("a", s.dir("a", s.dir("a")))}, api.OK},
	} {
		s.wantFiles(t, what, c.entries, nil, c.want)
	}
}

// files is as many entries of files.
func (s *store) files(n int) []api.Entry {
	var entries []api.Entry
	for _, f := range numbered(n) {
		entries = append(entries, s.file(f.Path, f.Data))
	}
	return entries
}

// P4.3: 32 files and no more; that a file is missing is told first.
func TestFilesTakesSoManyFiles(t *testing.T) {
	s := &store{}
	junk := api.Entry{Name: "z", Dir: true, Digest: s.put("junk")}
	with := func(n int, more ...api.Entry) []api.Entry { return append(s.files(n), more...) }
	s.wantFiles(t, "31 files", with(31), numbered(31), api.OK)
	s.wantFiles(t, "32 files", with(32), numbered(32), api.OK)
	s.wantFiles(t, "33 files", with(33), nil, api.ErrBig)
	s.wantFiles(t, "60 files", with(60), nil, api.ErrBig)
	s.wantFiles(t, "32 files and a missing one", with(32, missing("z")), nil, api.ErrNone)
	s.wantFiles(t, "33 files and a missing one", with(33, missing("z")), nil, api.ErrBig)
	s.wantFiles(t, "32 files and no entries", with(32, junk), nil, api.ErrBytes)
	s.wantFiles(t, "33 files and no entries", with(33, junk), nil, api.ErrBig)
	s.wantFiles(t, "32 files and directories", with(32, s.dir("x", s.dir("y"))), numbered(32), api.OK)
	s.wantFiles(t, "32 files and one within", with(32, s.dir("x", s.file("y", ""))), nil, api.ErrBig)
	s.wantFiles(t, "32 files within and one", []api.Entry{s.dir("a", s.files(20)...), s.dir("b", s.files(12)...), s.file("c", "")}, nil, api.ErrBig)
	s.wantFiles(t, "a big one and 32", append([]api.Entry{s.file("a", strings.Repeat("d", 2049))}, s.files(32)...), nil, api.ErrBig)
	in, _ := paths.Into(numbered(20), "a")
	in2, _ := paths.Into(numbered(12), "b")
	s.wantFiles(t, "32 files within", []api.Entry{s.dir("a", s.files(20)...), s.dir("b", s.files(12)...)}, append(in, in2...), api.OK)
}

// dirs is as many entries of a directory.
func dirs(n int, d api.Entry) []api.Entry {
	var entries []api.Entry
	for i := range n {
		d.Name = "d" + strconv.Itoa(10000+i)
		entries = append(entries, d)
	}
	return entries
}

// nest is a directory within so many others.
func (s *store) nest(n int, entries ...api.Entry) api.Entry {
	d := s.dir("x", entries...)
	for range n {
		d = s.dir("x", d)
	}
	return d
}

// P4.3: 1000 directories and no more, the root counted and each time that it is reached.
func TestFilesTakesSoManyDirectories(t *testing.T) {
	s := &store{}
	junk := api.Entry{Dir: true, Digest: s.put("junk")}
	empty, pair := s.dir(""), s.dir("", s.dir("a"), s.dir("b"))
	f := []api.File{{Path: "f", Data: "1"}}
	with := func(entries []api.Entry, more ...api.Entry) []api.Entry { return append(entries, more...) }
	s.wantFiles(t, "1000 beside one another", dirs(999, empty), nil, api.OK)
	s.wantFiles(t, "1001 beside one another", dirs(1000, empty), nil, api.ErrBig)
	s.wantFiles(t, "1000 and a file", with(dirs(999, empty), s.file("f", "1")), f, api.OK)
	s.wantFiles(t, "1000 in threes", dirs(333, pair), nil, api.OK)
	s.wantFiles(t, "1001 in threes", with(dirs(333, pair), s.dir("e")), nil, api.ErrBig)
	s.wantFiles(t, "1000 within one another", []api.Entry{s.nest(998)}, nil, api.OK)
	s.wantFiles(t, "1001 within one another", []api.Entry{s.nest(999)}, nil, api.ErrBig)
	s.wantFiles(t, "1000 within one another and a file", []api.Entry{s.nest(998, s.file("f", "1"))}, nil, api.ErrPath)
	s.wantFiles(t, "1000 and a missing file", with(dirs(999, empty), missing("f")), nil, api.ErrNone)
	s.wantFiles(t, "1001 and a missing file", with(dirs(1000, empty), missing("f")), nil, api.ErrBig)
	s.wantFiles(t, "a missing file and 1001", with([]api.Entry{missing("a")}, dirs(1000, empty)...), nil, api.ErrNone)
	s.wantFiles(t, "999 and a missing one", with(dirs(998, empty), missingDir("e")), nil, api.ErrNone)
	// Once it is reached, it is too much, whether its blob is there or not.
	s.wantFiles(t, "1000 and a missing one", with(dirs(999, empty), missingDir("e")), nil, api.ErrBig)
	s.wantFiles(t, "1000 and one without entries", with(dirs(999, empty), dirs(1000, junk)[999]), nil, api.ErrBig)
	for range 40 {
		pair = s.dir("", dirs(2, pair)...)
	}
	s.wantFiles(t, "ever more", dirs(1, pair), nil, api.ErrBig)
}

// validLists are all the mixed lists that are valid.
func validLists(most int) [][]api.File {
	var lists [][]api.File
	for _, files := range mixedLists(most) {
		if paths.Check(files...) == api.OK {
			lists = append(lists, files)
		}
	}
	lists = append(lists, numbered(32), []api.File{{Path: strings.Repeat("p/", 23) + "p", Data: strings.Repeat("d", 2048)}}, []api.File{{Path: strings.Repeat("n", 48)}})
	for _, files := range slices.Clone(lists) {
		for i := range files {
			other := slices.Clone(files)
			other[i].Data += "z"
			if paths.Check(other...) == api.OK {
				lists = append(lists, other)
			}
		}
	}
	return lists
}

// P4.4: files come back, whatever the order of the blobs, and with others among them; without one of the blobs they don't.
func TestFilesComeBack(t *testing.T) {
	r := rand.New(rand.NewPCG(4, 4))
	for _, files := range validLists(4) {
		root, blobs := tree.Digest(files...), tree.Blobs(files...)
		if got, e := tree.Files(root, blobs...); e != api.OK || !slices.Equal(got, files) {
			t.Fatalf("%q: %q, %v", files, got, e)
		}
		more := append(slices.Clone(blobs), "", "junk", wantBytes([]api.Entry{missing("a")}), blobs[0])
		r.Shuffle(len(more), func(i, j int) { more[i], more[j] = more[j], more[i] })
		if got, e := tree.Files(root, more...); e != api.OK || !slices.Equal(got, files) {
			t.Fatalf("%q with more: %q, %v", files, got, e)
		}
		for i := range blobs {
			if got, e := tree.Files(root, slices.Delete(slices.Clone(blobs), i, i+1)...); e != api.ErrNone || got != nil {
				t.Fatalf("%q without %q: %q, %v", files, blobs[i], got, e)
			}
		}
	}
}

// P4.4: different valid lists have different digests.
func TestDigestsDiffer(t *testing.T) {
	seen := map[string][]api.File{}
	for _, files := range validLists(4) {
		d := tree.Digest(files...)
		if other, is := seen[d]; is && !slices.Equal(files, other) {
			t.Fatalf("%q and %q", files, other)
		}
		seen[d] = files
	}
	if len(seen) < 50 {
		t.Errorf("%d lists", len(seen))
	}
}

// R2: no call changes its arguments, not even behind their end, and no result shares memory with them.
func TestArgumentsStay(t *testing.T) {
	files := at("e", "a/c", "a/b", "a/b", "behind")
	entries := []api.Entry{file("a", "1"), file("b", "2"), file("behind", "")}
	blobs := tree.Blobs(at("a/b", "c")...)
	slices.Reverse(blobs)
	blobs = append(blobs, "behind")
	files2, entries2, blobs2 := slices.Clone(files), slices.Clone(entries), slices.Clone(blobs)

	clearAll(tree.Dir(files[:4], ""))
	clearAll(tree.Dir(files[:4], "a"))
	tree.Digest(files[:4]...)
	clearAll(tree.Blobs(files[:4]...))
	clearAll(tree.Blobs(files[:1]...))
	tree.Encode(entries[:2]...)
	got, e := tree.Files(tree.Digest(at("a/b", "c")...), blobs[:len(blobs)-1]...)
	if e != api.OK || !slices.Equal(got, at("a/b", "c")) {
		t.Errorf("%v, %v", got, e)
	}
	clearAll(got)
	if !slices.Equal(files, files2) || !slices.Equal(entries, entries2) || !slices.Equal(blobs, blobs2) {
		t.Error(files, entries, blobs)
	}
}

// clearAll overwrites all the memory of a result.
func clearAll[T any](l []T) {
	clear(l[:cap(l)])
}

// R1: every call ends without a panic for all arguments, with nothing beside an error.
func TestAnyArguments(t *testing.T) {
	r := rand.New(rand.NewPCG(4, 1))
	text := func() string {
		b := make([]byte, r.IntN(7))
		for i := range b {
			b[i] = "a./\x00\xff-"[r.IntN(6)]
		}
		return string(b)
	}
	for range 20000 {
		files := make([]api.File, r.IntN(40)/(1+r.IntN(10)))
		for i := range files {
			files[i] = api.File{Path: text(), Data: text()}
		}
		tree.Dir(files, text())
		blobs := tree.Blobs(files...)
		if got, e := tree.Files(tree.Digest(files...), blobs...); e != api.OK && got != nil || e == api.OK && paths.Check(got...) != api.OK {
			t.Fatalf("%q: %q, %v", files, got, e)
		}
		tree.Files(text(), blobs...)
		var entries []api.Entry
		for range r.IntN(4) {
			entries = append(entries, api.Entry{Name: text(), Dir: r.IntN(2) == 0, Digest: strings.Repeat("x", 31+r.IntN(3))})
		}
		wantEncoded(t, entries...)
		wantRead(t, text())
	}
}

// R1: the calls also end with paths of very many parts, and with very many files.
func TestManyPartsAndFiles(t *testing.T) {
	deep := []api.File{{Path: strings.Repeat("a/", 1<<16) + "b", Data: "1"}, {Path: strings.Repeat("/", 1<<16), Data: "2"}}
	if got := len(tree.Blobs(deep...)); got < 1<<16 {
		t.Errorf("%d blobs", got)
	}
	if got := len(tree.Dir(deep, strings.Repeat("a/", 1<<16-1)+"a")); got != 1 {
		t.Errorf("%d entries", got)
	}
	var wide []api.File
	for i := range 50000 {
		wide = append(wide, api.File{Path: "d" + strconv.Itoa(i) + "/f"})
	}
	if got := len(tree.Dir(wide, "")); got != 50000 {
		t.Errorf("%d entries", got)
	}
	root, blobs := tree.Digest(wide...), tree.Blobs(wide...)
	if got, e := tree.Files(root, blobs...); got != nil || e != api.ErrBig {
		t.Errorf("%v, %v", got, e)
	}
}
