package pack_test

import (
	"math"
	"slices"
	"strings"
	"testing"

	"trestle/api"
	"trestle/pack"
)

// checkFailed tells what of a reader is not as it must be after an error.
func checkFailed(t *testing.T, data string, r *pack.Reader, want api.Errno) {
	t.Helper()
	for range 2 {
		if e := r.End(); e != want {
			t.Errorf("%.40q: End = %v, want %v", data, e, want)
		}
		if n := r.Left(); n != 0 {
			t.Errorf("%.40q: Left = %d after an error", data, n)
		}
		if s := r.Text(); s != "" {
			t.Errorf("%.40q: Text = %q after an error", data, s)
		}
		if n := r.Num(); n != 0 {
			t.Errorf("%.40q: Num = %d after an error", data, n)
		}
		if l := r.List(); l != nil {
			t.Errorf("%.40q: List = %q after an error", data, l)
		}
	}
}

// wrongStrings are bytes at which Text fails, each with its error.
func wrongStrings() map[string]api.Errno {
	return map[string]api.Errno{
		"":                  api.ErrEnd,
		"3":                 api.ErrEnd,
		"03":                api.ErrEnd, // the end is found ahead of the leading zero
		"1234567":           api.ErrEnd,
		"0000000":           api.ErrEnd,
		"12345678":          api.ErrBytes,
		"12345678:":         api.ErrBytes,
		"00000001:a,":       api.ErrBytes,
		":":                 api.ErrBytes,
		":,":                api.ErrBytes,
		",":                 api.ErrBytes,
		"a":                 api.ErrBytes,
		"-1:,":              api.ErrBytes,
		"+1:a,":             api.ErrBytes,
		" 1:a,":             api.ErrBytes,
		"1 :a,":             api.ErrBytes,
		"1;a,":              api.ErrBytes,
		"1,a,":              api.ErrBytes,
		"0x1:a,":            api.ErrBytes,
		"/:a,":              api.ErrBytes, // the byte ahead of `0`
		"1/a,":              api.ErrBytes,
		"00:,":              api.ErrBytes,
		"01:a,":             api.ErrBytes,
		"03:ab":             api.ErrBytes, // the leading zero is found ahead of the cut
		"0000003:abc,":      api.ErrBytes,
		"\xd9\xa1:a,":       api.ErrBytes, // a digit of another script
		"0:":                api.ErrEnd,
		"3:":                api.ErrEnd,
		"3:ab":              api.ErrEnd,
		"3:abc":             api.ErrEnd,
		"1:,":               api.ErrEnd,
		"1234567:":          api.ErrEnd,
		"9999999:abc,":      api.ErrEnd,
		"0:;":               api.ErrBytes,
		"0:a,":              api.ErrBytes,
		"1:a;":              api.ErrBytes,
		"1:a:":              api.ErrBytes,
		"3:abcd,":           api.ErrBytes,
		"3:abc\x00":         api.ErrBytes,
		"3:abc 3:abc,":      api.ErrBytes,
		"10:abcdefghi,":     api.ErrEnd,
		"10:abcdefghij;abc": api.ErrBytes,
	}
}

// P1.2: what is packed rightly.
func TestTextIsRead(t *testing.T) {
	for _, c := range []struct {
		data, want string
		left       int
	}{
		{"0:,", "", 0},
		{"3:abc,", "abc", 0},
		{"3:abc,x", "abc", 1},
		{"3:a,:,", "a,:", 0},
		{"2:é,", "é", 0},
		{"6:3:abc,,", "3:abc,", 0},
		{"1:\x00,,", "\x00", 1},
		{"256:" + allBytes() + ",", allBytes(), 0},
		{"10:0123456789,0:,", "0123456789", 3},
		{"1000000:" + strings.Repeat("x", 1000000) + ",", strings.Repeat("x", 1000000), 0},
		{"9999999:" + strings.Repeat("x", 9999999) + ",y", strings.Repeat("x", 9999999), 1},
	} {
		r := pack.Read(c.data)
		if got := r.Text(); got != c.want || r.Left() != c.left {
			t.Errorf("Text of %.40q = %.40q with %d left, want %.40q with %d", c.data, got, r.Left(), c.want, c.left)
		}
	}
}

// P1.2: strings one after the other; Read begins at the start each time.
func TestTextReadsOnward(t *testing.T) {
	data := "1:a,0:,2:bc,"
	for range 2 {
		r := pack.Read(data)
		for _, want := range []string{"a", "", "bc"} {
			if got := r.Text(); got != want {
				t.Errorf("Text = %q, want %q", got, want)
			}
		}
		if e := r.End(); e != api.OK {
			t.Errorf("End = %v", e)
		}
		r.Text()
		checkFailed(t, data, r, api.ErrEnd)
	}
}

// P1.2: two readers of the same data know nothing of one another.
func TestReadersAreApart(t *testing.T) {
	a, b := pack.Read("1:a,1:b,"), pack.Read("1:a,1:b,")
	a.Text()
	a.Num()
	if s := b.Text(); s != "a" || b.Left() != 4 || b.End() != api.ErrMore {
		t.Errorf("%q, %d left, %v", s, b.Left(), b.End())
	}
	checkFailed(t, "1:a,1:b,", a, api.ErrBytes)
}

// P1.2: the errors of Text; the errors of Num and List are the same ones (P1.3).
func TestWrongStrings(t *testing.T) {
	for data, want := range wrongStrings() {
		for _, ahead := range []string{"", "1:5,", "3:abc,"} {
			r := pack.Read(ahead + data)
			if ahead != "" {
				r.Text()
			}
			if s := r.Text(); s != "" {
				t.Errorf("Text of %q = %q", data, s)
			}
			checkFailed(t, data, r, want)
		}
		r := pack.Read(data)
		if n := r.Num(); n != 0 {
			t.Errorf("Num of %q = %d", data, n)
		}
		checkFailed(t, data, r, want)
		r = pack.Read(data)
		if l := r.List(); l != nil {
			t.Errorf("List of %q = %q", data, l)
		}
		checkFailed(t, data, r, want)
	}
}

// P1.2: eight digits are too many, whatever stands behind them.
func TestEightDigits(t *testing.T) {
	data := "10000000:" + strings.Repeat("x", 10000000) + ","
	r := pack.Read(data)
	if s := r.Text(); s != "" {
		t.Errorf("Text has %d bytes", len(s))
	}
	checkFailed(t, data, r, api.ErrBytes)
}

// P1.2: the first error stays, though the next bytes, read anew, would have another one, or none.
func TestFirstErrorStays(t *testing.T) {
	for _, c := range []struct {
		data string
		read func(r *pack.Reader)
		want api.Errno
	}{
		{"1:a;1:b,", func(r *pack.Reader) { r.Text() }, api.ErrBytes},
		{"1:a,1:b,", func(r *pack.Reader) { r.Num() }, api.ErrBytes},
		{"1:a,1:b,", func(r *pack.Reader) { r.List() }, api.ErrBytes},
		{"1:a,9:b,", func(r *pack.Reader) { r.Num(); r.Text() }, api.ErrBytes},
		{"9:a,1:b,", func(r *pack.Reader) { r.Text(); r.List() }, api.ErrEnd},
		{"1:a,", func(r *pack.Reader) { r.List(); r.Text() }, api.ErrBytes},
		{"1:1,", func(r *pack.Reader) { r.Num(); r.Num(); r.List() }, api.ErrEnd},
	} {
		r := pack.Read(c.data)
		c.read(r)
		checkFailed(t, c.data, r, c.want)
	}
}

// P1.3: numbers.
func TestNumIsRead(t *testing.T) {
	for _, n := range []int{0, 1, -1, 9, 10, -7, -10, 120, 1000000007, math.MaxInt32 + 1, math.MinInt32 - 1, math.MaxInt64 - 1, math.MaxInt64, math.MinInt64 + 1, math.MinInt64} {
		r := pack.Read(pack.Num(n) + "x")
		if got := r.Num(); got != n || r.Left() != 1 || r.End() != api.ErrMore {
			t.Errorf("Num of %d = %d with %d left, End %v", n, got, r.Left(), r.End())
		}
	}
	r := pack.Read("19:9223372036854775807,20:-9223372036854775808,")
	if a, b := r.Num(), r.Num(); a != math.MaxInt64 || b != math.MinInt64 || r.End() != api.OK {
		t.Error(a, b, r.End())
	}
}

// P1.3: strings that are not the digits of a number; Text takes each of them.
func TestWrongNumbers(t *testing.T) {
	for _, s := range []string{
		"", "-", "+", "a", "-a", "1a", "a1", " 1", "1 ", "1\n", "\x00", "1\x00", "1_000", "1,000", "1.0", "1e3", "0x10", "0b1", "0o7",
		"-0", "+0", "+1", "--1", "-+1", "00", "01", "-01", "007", "0000000000000000000001", "١",
		"9223372036854775808", "-9223372036854775809", "9223372036854775817", "10000000000000000000",
		"18446744073709551615", "18446744073709551616", "-18446744073709551615", "-10000000000000000000", strings.Repeat("9", 1000),
		"1:5,", "1:5", "5,",
	} {
		data := pack.Text(s) + "1:1,"
		r := pack.Read(data)
		if n := r.Num(); n != 0 {
			t.Errorf("Num of %.30q = %d", s, n)
		}
		checkFailed(t, data, r, api.ErrBytes)
		r = pack.Read(data)
		if got, n := r.Text(), r.Num(); got != s || n != 1 || r.End() != api.OK {
			t.Errorf("Text of %.30q = %.30q, then %d, End %v", s, got, n, r.End())
		}
	}
}

// P1.3: lists.
func TestListIsRead(t *testing.T) {
	for _, l := range [][]string{{}, {""}, {"", ""}, {"a"}, {"a", ""}, {"b", "a", "b"}, {"1:a,", ",", ":", "0"}, {allBytes(), "", allBytes()}, {pack.Num(5), pack.List("x", "y")}} {
		r := pack.Read(pack.List(l...) + "x")
		if got := r.List(); !slices.Equal(got, l) || r.Left() != 1 || r.End() != api.ErrMore {
			t.Errorf("List of %q = %q with %d left, End %v", l, got, r.Left(), r.End())
		}
	}
}

// P1.3: a list within a list.
func TestListWithinList(t *testing.T) {
	r := pack.Read(pack.List(pack.List("a", "b"), pack.List(), pack.Num(3)))
	l := r.List()
	if len(l) != 3 || r.End() != api.OK {
		t.Fatalf("List = %q, End %v", l, r.End())
	}
	if in := pack.Read(l[0]); !slices.Equal(in.List(), []string{"a", "b"}) || in.End() != api.OK {
		t.Errorf("the first one is %q", l[0])
	}
	if in := pack.Read(l[1]); len(in.List()) != 0 || in.End() != api.OK {
		t.Errorf("the second one is %q", l[1])
	}
	if in := pack.Read(l[2]); in.Num() != 3 || in.End() != api.OK {
		t.Errorf("the third one is %q", l[2])
	}
}

// P1.3: the strings that a list consists of must be right, up to its end; what is wrong in it is ErrBytes, not its own error.
func TestWrongLists(t *testing.T) {
	var wrong []string
	for s := range wrongStrings() {
		if s != "" { // as a list that is the one without strings
			wrong = append(wrong, s, "1:a,"+s)
		}
	}
	wrong = append(wrong, "1:a,x", "1:a,,", "3:1:a,;")
	for _, s := range wrong {
		data := pack.Text(s) + "0:,"
		r := pack.Read(data)
		if l := r.List(); l != nil {
			t.Errorf("List of %q = %q", s, l)
		}
		checkFailed(t, data, r, api.ErrBytes)
	}
}

// R2, P1.3: a list belongs to the caller: what is done to it is not seen in another one.
func TestListsAreNew(t *testing.T) {
	data := pack.List("a", "b") + pack.List("c", "d")
	r := pack.Read(data)
	first := r.List()
	first[0], first = "x", append(first, "y")
	if second := r.List(); !slices.Equal(second, []string{"c", "d"}) {
		t.Errorf("%q", second)
	}
	if again := pack.Read(data).List(); !slices.Equal(again, []string{"a", "b"}) {
		t.Errorf("%q after %q", again, first)
	}
}

// P1.4: Left and End.
func TestLeftAndEnd(t *testing.T) {
	r := pack.Read("1:a,1:5,7:1:b,0:,,?")
	step := func(what string, left int) {
		t.Helper()
		for range 2 { // asking changes nothing
			if r.Left() != left || r.End() != api.ErrMore {
				t.Errorf("%s: %d left, End %v", what, r.Left(), r.End())
			}
		}
	}
	step("at first", 19)
	r.Text()
	step("behind the string", 15)
	r.Num()
	step("behind the number", 11)
	r.List()
	step("behind the list", 1)
	r.Text()
	checkFailed(t, "?", r, api.ErrBytes)
}

// P1.4: without bytes nothing is wrong till one is read.
func TestEndOfNothing(t *testing.T) {
	r := pack.Read("")
	if r.Left() != 0 || r.End() != api.OK {
		t.Errorf("%d left, End %v", r.Left(), r.End())
	}
	r.List()
	checkFailed(t, "", r, api.ErrEnd)
}

// P1.4: a nil reader.
func TestNilReader(t *testing.T) {
	var r *pack.Reader
	checkFailed(t, "(nil)", r, api.ErrNil)
}
