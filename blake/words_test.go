package blake_test

import (
	"strings"
	"testing"

	"trestle/blake"
)

// P2.2: the chapter's example, and the ends of the letters.
func TestWordsExamples(t *testing.T) {
	for s, want := range map[string]string{
		"":             "",
		"\x00\x1f":     "aabp",
		"\xf0\xff":     "papp",
		"\x0f":         "ap",
		"\x10":         "ba",
		"abc":          "gbgcgd",
		"é":            "mdkj",
		"\xff\xfe\x80": "pppoia",
	} {
		if got := blake.Words(s); got != want {
			t.Errorf("Words(%q) = %q, want %q", s, got, want)
		}
	}
}

// P2.2: each byte has its own two letters, wherever it stands.
func TestWordsOfAllBytes(t *testing.T) {
	const letters = "abcdefghijklmnop"
	var s, want strings.Builder
	for _, high := range letters {
		for _, low := range letters {
			s.WriteByte(byte(s.Len()))
			want.WriteString(string(high) + string(low))
		}
	}
	if got := blake.Words(s.String()); got != want.String() {
		t.Errorf("Words of all bytes = %q", got)
	}
}

// P2.3: different strings have different letters: they are read back.
func TestWordsReadBack(t *testing.T) {
	for n := range 1000 {
		s := sample(n)
		w := blake.Words(s)
		if len(w) != 2*n {
			t.Fatalf("%d bytes have %d letters", n, len(w))
		}
		for i := range n {
			if w[2*i] < 'a' || w[2*i] > 'p' || w[2*i+1] < 'a' || w[2*i+1] > 'p' || (w[2*i]-'a')<<4|(w[2*i+1]-'a') != s[i] {
				t.Fatalf("byte %d of %d: %q", i, n, w[2*i:2*i+2])
			}
		}
	}
}

// P2.3: all strings of up to two bytes.
func TestWordsDiffer(t *testing.T) {
	seen := map[string]bool{}
	look := func(s string) {
		if w := blake.Words(s); seen[w] {
			t.Fatalf("Words(%q) = %q is told of another string", s, w)
		} else {
			seen[w] = true
		}
	}
	look("")
	for i := range 1 << 8 {
		look(string([]byte{byte(i)}))
	}
	for i := range 1 << 16 {
		look(string([]byte{byte(i >> 8), byte(i)}))
	}
}
