package pack_test

import (
	"fmt"
	"math"
	"slices"
	"strings"
	"testing"

	"trestle/pack"
)

// allBytes has every byte once, so also bytes that are no UTF-8, and the marks `:` and `,`.
func allBytes() string {
	var b []byte
	for i := range 256 {
		b = append(b, byte(i))
	}
	return string(b)
}

// P1.1: Text.
func TestTextIsPacked(t *testing.T) {
	for _, c := range []struct{ s, want string }{
		{"", "0:,"},
		{"abc", "3:abc,"},
		{"a,b:", "4:a,b:,"},
		{"3:abc,", "6:3:abc,,"},
		{"\x00", "1:\x00,"},
		{"é", "2:é,"}, // bytes count, not letters
		{"\xff\xfe", "2:\xff\xfe,"},
		{strings.Repeat("x", 9), "9:xxxxxxxxx,"},
		{strings.Repeat("x", 10), "10:xxxxxxxxxx,"},
		{allBytes(), "256:" + allBytes() + ","},
	} {
		if got := pack.Text(c.s); got != c.want {
			t.Errorf("Text(%q) = %q, want %q", c.s, got, c.want)
		}
	}
}

// P1.1: a string that is too long to be read back is packed all the same.
func TestTextOfEightDigitsIsPacked(t *testing.T) {
	for _, n := range []int{9999999, 10000000} {
		s := strings.Repeat("x", n)
		if got := pack.Text(s); got != fmt.Sprintf("%d:%s,", n, s) {
			t.Errorf("Text of %d bytes begins with %.12q and has %d bytes", n, got, len(got))
		}
	}
}

// P1.1: Num.
func TestNumIsPacked(t *testing.T) {
	for _, c := range []struct {
		n    int
		want string
	}{
		{0, "1:0,"},
		{1, "1:1,"},
		{-1, "2:-1,"},
		{-7, "2:-7,"},
		{10, "2:10,"},
		{120, "3:120,"},
		{-9999999, "8:-9999999,"},
		{1234567890, "10:1234567890,"},
		{math.MaxInt64, "19:9223372036854775807,"},
		{math.MinInt64, "20:-9223372036854775808,"},
	} {
		if got := pack.Num(c.n); got != c.want {
			t.Errorf("Num(%d) = %q, want %q", c.n, got, c.want)
		}
	}
}

// P1.1: List, also a list within a list.
func TestListIsPacked(t *testing.T) {
	for _, c := range []struct {
		l    []string
		want string
	}{
		{nil, "0:,"},
		{[]string{}, "0:,"},
		{[]string{""}, "3:0:,,"},
		{[]string{"a"}, "4:1:a,,"},
		{[]string{"a", ""}, "7:1:a,0:,,"},
		{[]string{"", "a"}, "7:0:,1:a,,"},
		{[]string{"b", "a", "b"}, "12:1:b,1:a,1:b,,"},
		{[]string{"a,", "1:b,"}, "12:2:a,,4:1:b,,,"},
		{[]string{pack.List("a"), pack.Num(-7)}, "18:7:4:1:a,,,5:2:-7,,,"},
	} {
		if got := pack.List(c.l...); got != c.want {
			t.Errorf("List(%q) = %q, want %q", c.l, got, c.want)
		}
	}
	if got := pack.List("a", ""); got != "7:1:a,0:,," {
		t.Errorf("List of two arguments = %q", got)
	}
}

// R2: the arguments of List stay as they are, also behind their end.
func TestListLeavesItsArguments(t *testing.T) {
	all := []string{"a", "b", "c", "d"}
	pack.List(all[:2]...)
	if !slices.Equal(all, []string{"a", "b", "c", "d"}) {
		t.Errorf("List changed its arguments to %q", all)
	}
}

// R3: the same arguments give the same bytes.
func TestWritingRepeats(t *testing.T) {
	for range 3 {
		if pack.Text("a")+pack.Num(5)+pack.List("b", "c") != "1:a,1:5,8:1:b,1:c,," {
			t.Error(pack.Text("a"), pack.Num(5), pack.List("b", "c"))
		}
	}
}
