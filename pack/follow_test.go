package pack_test

import (
	"regexp"
	"slices"
	"strconv"
	"strings"
	"testing"

	"trestle/api"
	"trestle/pack"
	"trestle/samples"
)

// P1.5: what was packed is read back by the calls of the same kinds.
func TestPackedIsReadBack(t *testing.T) {
	strs := []string{"", "a", ",", ":", "0:,", "3:abc,", "-1", "é", allBytes(), strings.Repeat("ab", 5000)}
	var data string
	for i, s := range strs {
		data += pack.Text(s) + pack.Num(i*i*i-100) + pack.List(strs[:i]...)
	}
	r := pack.Read(data)
	for i, s := range strs {
		if got := r.Text(); got != s {
			t.Errorf("%d: Text = %.40q, want %.40q", i, got, s)
		}
		if got := r.Num(); got != i*i*i-100 {
			t.Errorf("%d: Num = %d", i, got)
		}
		if got := r.List(); !slices.Equal(got, strs[:i]) {
			t.Errorf("%d: List = %.200q", i, got)
		}
	}
	if e := r.End(); e != api.OK {
		t.Errorf("End = %v", e)
	}
}

// P1.5: up to the greatest length.
func TestLongestIsReadBack(t *testing.T) {
	s := strings.Repeat("y", 9999999)
	r := pack.Read(pack.Text(s) + pack.Num(1))
	if got := r.Text(); got != s || r.Num() != 1 || r.End() != api.OK {
		t.Errorf("%d bytes, End %v", len(got), r.End())
	}
	// With `9999990:` ahead and `,` behind, the list has 9999999 bytes.
	in := s[:9999990]
	r = pack.Read(pack.List(in))
	if got := r.List(); len(got) != 1 || got[0] != in || r.End() != api.OK {
		t.Errorf("%d strings, End %v", len(got), r.End())
	}
}

// P1.5: a packed string tells its own end, so it does not begin another one.
func TestNoPackedStringBeginsAnother(t *testing.T) {
	var packed []string
	for _, s := range append(samples.Strings("01,:", 4), strings.Repeat("1", 11), strings.Repeat(",", 12), strings.Repeat("0", 101)) {
		packed = append(packed, pack.Text(s))
	}
	for _, n := range []int{0, 1, -1, 10, 100, 1234567890} {
		packed = append(packed, pack.Num(n))
	}
	slices.Sort(packed)
	packed = slices.Compact(packed)
	// In this order a string stands directly ahead of one that it begins, if there is one.
	for i := range len(packed) - 1 {
		if strings.HasPrefix(packed[i+1], packed[i]) {
			t.Errorf("%q begins %q", packed[i], packed[i+1])
		}
	}
	for _, p := range packed {
		for n := range len(p) {
			if r := pack.Read(p[:n]); r.Text() != "" || r.End() == api.OK {
				t.Errorf("%q is read to its end, though it is cut off", p[:n])
			}
		}
	}
}

// A read is what one call comes to: the result, packed, the bytes behind it, and the error.
type read struct {
	got  string
	rest string
	err  api.Errno
}

var (
	digitsAhead = regexp.MustCompile(`^[0-9]{0,7}`)
	numberOnly  = regexp.MustCompile(`^(0|-?[1-9][0-9]*)$`)
)

// wantText says the words of P1.2, one after the other.
func wantText(data string) read {
	digits := digitsAhead.FindString(data)
	data = data[len(digits):]
	if data == "" {
		return read{err: api.ErrEnd}
	}
	if data[0] != ':' || digits == "" || len(digits) > 1 && strings.HasPrefix(digits, "0") {
		return read{err: api.ErrBytes}
	}
	data = data[1:]
	n, _ := strconv.Atoi(digits)
	if len(data) < n+1 {
		return read{err: api.ErrEnd}
	}
	if data[n] != ',' {
		return read{err: api.ErrBytes}
	}
	return read{got: data[:n], rest: data[n+1:]}
}

// wantNum says those of P1.3 of numbers.
func wantNum(data string) read {
	w := wantText(data)
	if w.err == api.OK && !numberOnly.MatchString(w.got) {
		return read{err: api.ErrBytes}
	}
	return w
}

// wantList says those of P1.3 of lists.
func wantList(data string) read {
	w := wantText(data)
	if w.err != api.OK {
		return w
	}
	var l []string
	for in := w.got; in != ""; {
		x := wantText(in)
		if x.err != api.OK {
			return read{err: api.ErrBytes}
		}
		l = append(l, x.got)
		in = x.rest
	}
	return read{got: strings.Join(l, "|"), rest: w.rest}
}

// checkRead holds a call on a new reader against what the words say.
func checkRead(t *testing.T, data, call string, want read, f func(r *pack.Reader) string) {
	t.Helper()
	r := pack.Read(data)
	got, end := f(r), want.err
	if end == api.OK && want.rest != "" {
		end = api.ErrMore
	}
	if got != want.got || r.Left() != len(want.rest) || r.End() != end {
		t.Fatalf("%s of %q = %q with %d left, End %v; want %q with %q left, End %v", call, data, got, r.Left(), r.End(), want.got, want.rest, end)
	}
}

// checkCalls holds each call against what the words say, and each twice (R3).
func checkCalls(t *testing.T, data string) {
	t.Helper()
	for range 2 {
		checkRead(t, data, "Text", wantText(data), (*pack.Reader).Text)
		w := wantNum(data)
		if w.err != api.OK {
			w.got = "0"
		}
		checkRead(t, data, "Num", w, func(r *pack.Reader) string { return strconv.Itoa(r.Num()) })
		checkRead(t, data, "List", wantList(data), func(r *pack.Reader) string { return strings.Join(r.List(), "|") })
	}
}

// P1.2, P1.3, P1.4: all short inputs over the bytes that matter, alone and packed once more, so that Num and List meet what Text takes.
func TestAllShortInputs(t *testing.T) {
	for _, s := range samples.Strings("012:,-a", 5) {
		checkCalls(t, s)
		checkCalls(t, pack.Text(s)+"1")
	}
	for _, s := range samples.Strings("01:,", 7) {
		checkCalls(t, s)
	}
}

// P1.2: every byte where a digit, the `:` or the `,` may stand.
func TestEveryByteInEveryPlace(t *testing.T) {
	for i := range 256 {
		b := string([]byte{byte(i)})
		for _, s := range []string{b, b + ":", b + ":a,", "1" + b, "1" + b + "a,", "1" + b + ":a,", "1:" + b, "1:" + b + ",", "1:a" + b, "123456" + b + ":", "1234567" + b, "1:" + b + "," + b} {
			checkCalls(t, s)
			checkCalls(t, pack.Text(s))
		}
	}
}

// R1: no bytes make a call panic, or go on without end.
func FuzzRead(f *testing.F) {
	for data := range wrongStrings() {
		f.Add(data)
	}
	f.Add(pack.Text("a") + pack.Num(-7) + pack.List("b", "", pack.List("c")))
	f.Fuzz(func(t *testing.T, data string) {
		if w := wantNum(data); w.err == api.OK && len(w.got) > 18 { // the range is not what this is after
			return
		}
		checkCalls(t, data)
	})
}
