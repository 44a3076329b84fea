// Package pack is layer 1: strings, numbers and lists as netstrings, written and read back. See shared/doc/01-pack.md.
package pack

import (
	"strconv"
	"strings"

	"trestle/api"
)

// maxDigits bounds how long a string can be that is read back.
const maxDigits = 7

// Text is a string, packed.
func Text(s string) string {
	return strconv.Itoa(len(s)) + ":" + s + ","
}

// Num is a number, packed.
func Num(n int) string {
	return Text(strconv.Itoa(n))
}

// List is strings, packed together.
func List(l ...string) string {
	var b strings.Builder
	for _, s := range l {
		b.WriteString(Text(s))
	}
	return Text(b.String())
}

// Reader reads packed strings, numbers and lists, one after the other, up to the first error.
type Reader struct {
	rest string // empty once there is an error
	err  api.Errno
}

// Read is a reader at the start of data.
func Read(data string) *Reader {
	return &Reader{rest: data}
}

// Text is the next string.
func (r *Reader) Text() string {
	s, _ := r.next()
	return s
}

// Num is the next number.
func (r *Reader) Num() int {
	s, ok := r.next()
	if !ok {
		return 0
	}
	n, err := strconv.Atoi(s)
	// Atoi also takes a plus sign, leading zeros and -0, which are no digits of a number here.
	if err != nil || strconv.Itoa(n) != s {
		r.fail(api.ErrBytes)
		return 0
	}
	return n
}

// List is the next list.
func (r *Reader) List() []string {
	s, ok := r.next()
	if !ok {
		return nil
	}
	in := Read(s)
	var l []string
	for in.Left() > 0 {
		l = append(l, in.Text())
	}
	if in.End() != api.OK {
		r.fail(api.ErrBytes)
		return nil
	}
	return l
}

// Left is how many bytes are left.
func (r *Reader) Left() int {
	if r == nil {
		return 0
	}
	return len(r.rest)
}

// End is the first error, or whether bytes are left.
func (r *Reader) End() api.Errno {
	if r == nil {
		return api.ErrNil
	}
	if r.err != api.OK {
		return r.err
	}
	if r.rest != "" {
		return api.ErrMore
	}
	return api.OK
}

// next takes the next packed string, and tells whether there was one.
func (r *Reader) next() (string, bool) {
	if r == nil || r.err != api.OK {
		return "", false
	}
	s, rest, err := cut(r.rest)
	if err != api.OK {
		r.fail(err)
		return "", false
	}
	r.rest = rest
	return s, true
}

// fail ends the reading; it is called at most once, so the error that is kept is the first one.
func (r *Reader) fail(e api.Errno) {
	r.rest, r.err = "", e
}

// cut splits data behind its first packed string, and unpacks that.
func cut(data string) (string, string, api.Errno) {
	size, digits := length(data)
	if digits == len(data) {
		return "", "", api.ErrEnd
	}
	if data[digits] != ':' || digits == 0 || digits > 1 && data[0] == '0' {
		return "", "", api.ErrBytes
	}
	rest := data[digits+1:]
	if len(rest) < size+1 {
		return "", "", api.ErrEnd
	}
	if rest[size] != ',' {
		return "", "", api.ErrBytes
	}
	return rest[:size], rest[size+1:], api.OK
}

// length is the number at the start of data, and how many digits it has, as far as they count.
func length(data string) (int, int) {
	n, digits := 0, 0
	for digits < maxDigits && digits < len(data) && '0' <= data[digits] && data[digits] <= '9' {
		n = n*10 + int(data[digits]-'0')
		digits++
	}
	return n, digits
}
