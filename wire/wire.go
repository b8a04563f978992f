// Package wire is layer 1: canonical binary encoding of integers, strings and booleans. It is specified in shared/doc/01-wire.md.
package wire

import "workflow/api"

// maxGroups is the number of groups of seven bits that the longest encoding of an integer has.
const maxGroups = 10

// Reader reads encoded values from bytes and keeps its first error.
type Reader struct {
	// self is the pointer that Open returned; it tells that Reader from a zero one and from a copy.
	self *Reader
	left []byte
	err  api.Errno
}

// PutInt appends the encoding of an integer.
func PutInt(b []byte, n int) []byte {
	out := clone(b, maxGroups)
	u := fold(n)
	for u >= 128 {
		out = append(out, byte(u)|128)
		u >>= 7
	}
	return append(out, byte(u))
}

// PutText appends the encoding of a string.
func PutText(b []byte, s string) []byte {
	size := PutInt(nil, len(s))
	out := clone(b, len(size)+len(s))
	out = append(out, size...)
	return append(out, s...)
}

// PutBool appends the encoding of a boolean.
func PutBool(b []byte, yes bool) []byte {
	out := clone(b, 1)
	if yes {
		return append(out, 1)
	}
	return append(out, 0)
}

// Open returns a reader at the start of b.
func Open(b []byte) *Reader {
	r := &Reader{left: clone(b, 0)}
	r.self = r
	return r
}

// Int reads an integer from low to high.
func (r *Reader) Int(low, high int) int {
	if r.Err() != api.OK {
		return 0
	}
	n, size, e := first(r.left)
	if e == api.OK && (n < low || n > high) {
		e = api.ErrRange
	}
	if e != api.OK {
		r.Fail(e)
		return 0
	}
	r.left = r.left[size:]
	return n
}

// Text reads a string of at most most bytes.
func (r *Reader) Text(most int) string {
	size := r.Int(0, most)
	if r.Err() != api.OK {
		return ""
	}
	if size > len(r.left) {
		r.Fail(api.ErrShort)
		return ""
	}
	s := string(r.left[:size])
	r.left = r.left[size:]
	return s
}

// Bool reads a boolean.
func (r *Reader) Bool() bool {
	if r.Err() != api.OK {
		return false
	}
	if len(r.left) == 0 {
		r.Fail(api.ErrShort)
		return false
	}
	if r.left[0] > 1 {
		r.Fail(api.ErrForm)
		return false
	}
	yes := r.left[0] == 1
	r.left = r.left[1:]
	return yes
}

// Fail sets the error if there is none yet.
func (r *Reader) Fail(e api.Errno) {
	if r.Err() != api.OK || e == api.OK {
		return
	}
	r.err = e
	r.left = nil
}

// Err returns the first error.
func (r *Reader) Err() api.Errno {
	if !r.opened() {
		return api.ErrNil
	}
	return r.err
}

// End returns the first error, or ErrForm if bytes remain.
func (r *Reader) End() api.Errno {
	if e := r.Err(); e != api.OK {
		return e
	}
	if len(r.left) > 0 {
		return api.ErrForm
	}
	return api.OK
}

// Left returns the number of bytes that remain, or 0 after an error.
func (r *Reader) Left() int {
	if !r.opened() {
		return 0
	}
	return len(r.left)
}

// opened reports whether Open returned r.
func (r *Reader) opened() bool {
	return r != nil && r.self == r
}

// clone returns a copy of b with room for more bytes. Appending to b itself could write into the memory of the caller.
func clone(b []byte, more int) []byte {
	out := make([]byte, len(b), len(b)+more)
	copy(out, b)
	return out
}

// fold maps an integer to the unsigned number that is written for it.
func fold(n int) uint64 {
	// -2n - 1 is the complement of 2n; computed this way, it does not overflow for the least integer.
	if n < 0 {
		return ^(uint64(n) << 1)
	}
	return uint64(n) << 1
}

// unfold is the inverse of fold.
func unfold(u uint64) int {
	if u&1 == 1 {
		return int(^(u >> 1))
	}
	return int(u >> 1)
}

// first returns the integer whose encoding b begins with, and the number of bytes of that encoding.
func first(b []byte) (int, int, api.Errno) {
	var u uint64
	for i, c := range b {
		if i == maxGroups {
			break
		}
		u |= uint64(c&127) << (7 * i)
		if c >= 128 {
			continue
		}
		if !canonical(c, i+1) {
			return 0, 0, api.ErrForm
		}
		return unfold(u), i + 1, api.OK
	}
	if len(b) >= maxGroups {
		return 0, 0, api.ErrForm
	}
	return 0, 0, api.ErrShort
}

// canonical reports whether last can end an encoding of size bytes: a zero group would be superfluous, and the tenth group
// has room for the highest bit of 64 only.
func canonical(last byte, size int) bool {
	if size == maxGroups {
		return last == 1
	}
	return size == 1 || last != 0
}
