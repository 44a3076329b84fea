package tree_test

import (
	"math/rand/v2"
	"slices"
	"strings"
	"testing"

	"trestle/api"
	"trestle/samples"
	"trestle/tree"
)

var sum = strings.Repeat("s", 32)

// P4.2: the bytes of entries.
func TestEncode(t *testing.T) {
	for _, c := range []struct {
		entries []api.Entry
		want    string
	}{
		{nil, ""},
		{[]api.Entry{{Name: "a", Digest: sum}}, "44:1:a,1:f,32:" + sum + ",,"},
		{[]api.Entry{{Name: "a", Dir: true, Digest: sum}}, "44:1:a,1:d,32:" + sum + ",,"},
		{[]api.Entry{{Name: "A-", Dir: true, Digest: sum}, {Name: "a", Digest: sum[:31] + ","}}, "45:2:A-,1:d,32:" + sum + ",,44:1:a,1:f,32:" + sum[:31] + ",,,"},
		{[]api.Entry{{Name: strings.Repeat("n", 48), Digest: sum}}, "92:48:" + strings.Repeat("n", 48) + ",1:f,32:" + sum + ",,"},
	} {
		if got, e := tree.Encode(c.entries...); got != c.want || e != api.OK {
			t.Errorf("%v: %q, %v", c.entries, got, e)
		}
		if got, e := tree.Decode(c.want); !slices.Equal(got, c.entries) || e != api.OK {
			t.Errorf("%q: %v, %v", c.want, got, e)
		}
	}
}

// wantEncoded holds Encode of entries, and Decode of their bytes, against the words.
func wantEncoded(t *testing.T, entries ...api.Entry) {
	t.Helper()
	data := wantBytes(entries)
	got, e := tree.Encode(entries...)
	back, e2 := tree.Decode(data)
	if isEncoded(entries) {
		if got != data || e != api.OK || !slices.Equal(back, entries) || e2 != api.OK {
			t.Fatalf("%v: %q, %v; %v, %v", entries, got, e, back, e2)
		}
	} else if got != "" || e != api.ErrBytes || back != nil || e2 != api.ErrBytes {
		t.Fatalf("%v: %q, %v; %v, %v", entries, got, e, back, e2)
	}
}

// P4.2: names that are a path with a single part, and others.
func TestEncodeNames(t *testing.T) {
	for _, name := range samples.Strings("a./~ ", 4) {
		wantEncoded(t, api.Entry{Name: name, Digest: sum})
		wantEncoded(t, api.Entry{Name: name, Dir: true, Digest: sum}, api.Entry{Name: "a0", Digest: sum})
		wantEncoded(t, api.Entry{Name: "!", Digest: sum}, api.Entry{Name: name, Digest: sum})
	}
	for c := range 256 {
		wantEncoded(t, api.Entry{Name: string([]byte{byte(c)}), Digest: sum})
		wantEncoded(t, api.Entry{Name: string([]byte{'a', byte(c), 'b'}), Digest: sum})
	}
	for _, n := range []int{1, 2, 9, 10, 47, 48, 49, 50, 100, 3000} {
		wantEncoded(t, api.Entry{Name: strings.Repeat("n", n), Digest: sum})
	}
	for _, name := range []string{"a/b", "a/", "/a", "/", "..", ".", "", strings.Repeat("n", 49)} {
		if got, e := tree.Encode(api.Entry{Name: name, Digest: sum}); got != "" || e != api.ErrBytes {
			t.Errorf("%q: %q, %v", name, got, e)
		}
	}
}

// P4.2: digests of 32 bytes, and others.
func TestEncodeDigests(t *testing.T) {
	for _, n := range []int{0, 1, 30, 31, 32, 33, 64, 320} {
		d := strings.Repeat("\xff", n)
		wantEncoded(t, api.Entry{Name: "a", Digest: d})
		wantEncoded(t, api.Entry{Name: "a", Digest: sum}, api.Entry{Name: "b", Dir: true, Digest: d}, api.Entry{Name: "c", Digest: sum})
		if _, e := tree.Encode(api.Entry{Name: "a", Digest: d}); (e == api.OK) != (n == 32) {
			t.Errorf("%d bytes: %v", n, e)
		}
	}
}

// P4.2: names in strictly increasing order, and others.
func TestEncodeOrder(t *testing.T) {
	names := []string{"A", "a", "a!", "aa", "b"}
	for _, s := range samples.Strings("01234", 4) {
		var entries []api.Entry
		up := true
		for i := range s {
			entries = append(entries, api.Entry{Name: names[s[i]-'0'], Dir: i == 1, Digest: sum})
			up = up && (i == 0 || s[i-1] < s[i])
		}
		wantEncoded(t, entries...)
		if _, e := tree.Encode(entries...); (e == api.OK) != up {
			t.Fatalf("%v: %v", entries, e)
		}
	}
}

// P4.2: bytes that Encode doesn't write.
func TestDecodeTellsFaults(t *testing.T) {
	entry := "44:1:a,1:f,32:" + sum + ",,"
	for i, data := range []string{
		"x", ",", ":", "0", "0:,", "0:", "4:1:a,,", "8:1:a,1:f,,", entry + entry, entry + "x", entry + "0:,", "0:," + entry, entry[1:], entry[:len(entry)-1], "0" + entry, " " + entry,
		"44:1:a,1:g,32:" + sum + ",,", "44:1:a,1:D,32:" + sum + ",,", "43:1:a,0:,32:" + sum + ",,", "45:1:a,2:ff,32:" + sum + ",,", "45:1:a,2:dd,32:" + sum + ",,", "40:1:a,32:" + sum + ",,",
		"47:1:a,1:f,32:" + sum + ",0:,,", "48:1:a,1:f,32:" + sum + ",1:x,,", "43:1:a,1:f,31:" + sum[1:] + ",,", "45:1:a,1:f,33:" + sum + "s,,", "44:1:a,1:f,32:" + sum + ";,", "44:1:a,1:f,32:" + sum + ",;",
		"45:01:a,1:f,32:" + sum + ",,", "44:1:/,1:d,32:" + sum + ",,", "44:1:.,1:d,32:" + sum + ",,", "43:0:,1:d,32:" + sum + ",,", "46:3:a/b,1:f,32:" + sum + ",,",
		"44:1:b,1:d,32:" + sum + ",," + entry, "99999999:1:a,1:f,32:" + sum + ",,", "44:1:f,1:a,32:" + sum + ",,",
	} {
		if got, e := tree.Decode(data); got != nil || e != api.ErrBytes {
			t.Errorf("%d: %q: %v, %v", i, data, got, e)
		}
	}
}

// wantRead holds Decode against the second reading.
func wantRead(t *testing.T, data string) {
	t.Helper()
	want, is := wantDecoded(data)
	got, e := tree.Decode(data)
	if is && (e != api.OK || !slices.Equal(got, want)) || !is && (e != api.ErrBytes || got != nil) {
		t.Fatalf("%q: %v, %v, want %v, %v", data, got, e, want, is)
	}
}

// P4.2: Decode of bytes that differ a little from those of entries.
func TestDecodeNearlyEntries(t *testing.T) {
	data, e := tree.Encode(api.Entry{Name: "a", Digest: sum}, api.Entry{Name: "b,", Dir: true, Digest: "12:" + sum[3:]}, api.Entry{Name: "c", Digest: "," + sum[1:]})
	if e != api.OK {
		t.Fatal(e)
	}
	wantRead(t, data)
	for i := range len(data) {
		wantRead(t, data[:i])
		wantRead(t, data[i:])
		wantRead(t, data[:i]+data[i+1:])
		for c := range 256 {
			wantRead(t, data[:i]+string([]byte{byte(c)})+data[i+1:])
			wantRead(t, data[:i]+string([]byte{byte(c)})+data[i:])
		}
	}
}

// P4.2: Decode of short bytes, and of pieces of entries put together by chance.
func TestDecodeAgainstWords(t *testing.T) {
	for _, data := range samples.Strings("01:,", 7) {
		wantRead(t, data)
	}
	r := rand.New(rand.NewPCG(4, 2))
	pieces := []string{"44:", "45:", "1:a,", "1:b,", "2:bb,", "1:d,", "1:f,", "32:" + sum + ",", ",", "44:1:a,1:f,32:" + sum + ",,", "44:1:b,1:d,32:" + sum + ",,"}
	for range 100000 {
		data := ""
		for range r.IntN(12) {
			data += pieces[r.IntN(len(pieces))]
		}
		wantRead(t, data)
	}
}
