package paths_test

import (
	"regexp"
	"strings"
	"testing"

	"trestle/api"
	"trestle/paths"
	"trestle/samples"
)

func wantErr(t *testing.T, what string, got, want api.Errno) {
	t.Helper()
	if got != want {
		t.Errorf("%s: %v, want %v", what, got, want)
	}
}

// P3.1: what Path takes and what it does not.
func TestPath(t *testing.T) {
	for _, s := range []string{
		"a", "a/b", "a/b/c", "A/Z", "...", "..a", "a..", ".a", "a.", "a/.b", "a/...", "-", "~", "!", "!/~", "\\", "*?",
		strings.Repeat("x", 47), strings.Repeat("x", 48), strings.Repeat("x/", 23) + "x", strings.Repeat("x/", 23) + "xx",
	} {
		wantErr(t, s, paths.Path(s), api.OK)
	}
	for _, s := range []string{
		"", "/", "//", "/a", "a/", "a//b", "a/b/", ".", "..", "./a", "../a", "a/.", "a/..", "a/./b", "a/../b",
		" ", "a b", "a ", " a", "a\n", "a\x00", "\x00", "\x1f", "\x7f", "a/\x7f", "\x80", "\xff", "é", "a/é/b",
		strings.Repeat("x", 49), strings.Repeat("x/", 24), strings.Repeat("x/", 24) + "x", strings.Repeat("x", 1<<20), strings.Repeat("/", 1<<20),
	} {
		wantErr(t, s[:min(len(s), 60)], paths.Path(s), api.ErrPath)
	}
}

// P3.1: every byte, by itself and within a part: 33 to 126 other than `/`; `.` is none by itself.
func TestPathBytes(t *testing.T) {
	for c := range 256 {
		b := string([]byte{byte(c)})
		may := c >= 33 && c <= 126 && c != '/'
		for _, s := range []string{b, b + "x", "x" + b, "d/" + b, b + "/d", "d/x" + b + "x/d"} {
			want := api.ErrPath
			if may && (c != '.' || strings.Contains(s, "x")) || b == "/" && s == "d/x/x/d" {
				want = api.OK
			}
			wantErr(t, s, paths.Path(s), want)
		}
	}
}

// P3.1: all short strings, against another way to say what a path is.
func TestShortPaths(t *testing.T) {
	part := `(?:[!-\-0-~]|\.[!-\-0-~]|\.\.[!-.0-~]|[!-\-0-~][!-.0-~]+|\.[!-\-0-~][!-.0-~]+|\.\.[!-.0-~]+)`
	form := regexp.MustCompile(`^` + part + `(?:/` + part + `)*$`)
	for _, s := range samples.Strings("a./ \x7f", 6) {
		want := api.ErrPath
		if form.MatchString(s) {
			want = api.OK
		}
		if got := paths.Path(s); got != want {
			t.Fatalf("%q: %v, want %v", s, got, want)
		}
	}
}

// P3.1: what Name takes and what it does not.
func TestName(t *testing.T) {
	for _, s := range []string{"a", "z", "0", "9", "-", "_", "a-0_z9", "--", strings.Repeat("x", 15), strings.Repeat("x", 16)} {
		wantErr(t, s, paths.Name(s), api.OK)
	}
	for _, s := range []string{"", "A", "a/b", "a.b", "a b", " a", "a\n", "aA", "Aa", "é", strings.Repeat("x", 17), strings.Repeat("x", 1<<20)} {
		wantErr(t, s[:min(len(s), 60)], paths.Name(s), api.ErrName)
	}
}

// P3.1: every byte of a name, by itself, at its end and at its beginning.
func TestNameBytes(t *testing.T) {
	for c := range 256 {
		b := string([]byte{byte(c)})
		want := api.ErrName
		if c < 128 && strings.Contains("abcdefghijklmnopqrstuvwxyz0123456789-_", b) {
			want = api.OK
		}
		for _, s := range []string{b, "x" + b, b + "x", "xxxxxxx" + b + "xxxxxxxx"} {
			wantErr(t, s, paths.Name(s), want)
		}
	}
}
