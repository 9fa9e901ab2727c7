// Package wire encodes numbers, booleans and strings as bytes, and decodes them (shared/doc/01-wire.md).
package wire

import (
	"berthage/api"
)

// more marks a byte that further bytes of its number follow.
const more = 1 << 7

// Put appends a number from 0 on; a negative one has no encoding, and nothing is appended.
func Put(b []byte, v int64) []byte {
	if v < 0 {
		return b
	}
	return put(b, uint64(v))
}

// Sign appends any number.
func Sign(b []byte, v int64) []byte {
	return put(b, fold(v))
}

// All appends numbers, each as Sign does.
func All(b []byte, l ...int64) []byte {
	for _, v := range l {
		b = Sign(b, v)
	}
	return b
}

// Bool appends a boolean.
func Bool(b []byte, is bool) []byte {
	if is {
		return append(b, 1)
	}
	return append(b, 0)
}

// Text appends a string behind its length.
func Text(b []byte, s string) []byte {
	return append(put(b, uint64(len(s))), s...)
}

func put(b []byte, v uint64) []byte {
	for ; v >= more; v >>= 7 {
		b = append(b, byte(v)|more)
	}
	return append(b, byte(v))
}

// fold maps 0, -1, 1, -2 .. to 0, 1, 2, 3 .., so that numbers near 0 are short whatever their sign.
func fold(v int64) uint64 {
	if v < 0 {
		return ^(uint64(v) << 1)
	}
	return uint64(v) << 1
}

func unfold(u uint64) int64 {
	if u&1 != 0 {
		return int64(^(u >> 1))
	}
	return int64(u >> 1)
}

// Reader decodes what was encoded, from the beginning on, and keeps the first error.
// A nil Reader is as one that has found no byte: it keeps ErrShort.
type Reader struct {
	rest string // what is not read yet; empty after an error, so that nothing is read any more
	err  api.Errno
}

// Read returns a Reader at the beginning of b. It reads a copy, as b stays the caller's.
func Read(b []byte) *Reader {
	return &Reader{rest: string(b)}
}

// Fail makes e the first error if there is none yet.
func (r *Reader) Fail(e api.Errno) {
	if r == nil || e == api.OK || r.err != api.OK {
		return
	}
	r.rest, r.err = "", e
}

// Err returns the first error, or OK.
func (r *Reader) Err() api.Errno {
	if r == nil {
		return api.ErrShort
	}
	return r.err
}

// Left returns the number of bytes that are left, 0 after an error.
func (r *Reader) Left() int {
	if r == nil {
		return 0
	}
	return len(r.rest)
}

// Byte reads the next byte.
func (r *Reader) Byte() byte {
	if r.Left() == 0 {
		r.Fail(api.ErrShort)
		return 0
	}
	c := r.rest[0]
	r.rest = r.rest[1:]
	return c
}

// Num reads the next number that Put has encoded.
func (r *Reader) Num() int64 {
	return int64(r.number(63))
}

// Sign reads the next number that Sign has encoded.
func (r *Reader) Sign() int64 {
	return unfold(r.number(64))
}

// number reads a number of at most so many bits, 63 or 64.
func (r *Reader) number(bits int) uint64 {
	v := uint64(0)
	for shift := 0; ; shift += 7 {
		c := r.Byte()
		if r.Err() != api.OK {
			return 0
		}
		// A last byte of 0 could have been left out. A byte that announces another one where no bit is left
		// is refused at once: whatever follows, it is too many bits, or a last byte of 0.
		if c>>(bits-shift) != 0 || c == 0 && shift > 0 {
			r.Fail(api.ErrForm)
			return 0
		}
		v |= uint64(c&^more) << shift
		if c < more {
			return v
		}
	}
}

// Bool reads the next boolean.
func (r *Reader) Bool() bool {
	c := r.Byte()
	if c > 1 {
		r.Fail(api.ErrForm)
	}
	return c == 1
}

// Text reads the next string, which has at most so many bytes.
func (r *Reader) Text(most int) string {
	n := r.Num()
	if n > int64(most) {
		r.Fail(api.ErrLong)
	} else if n > int64(r.Left()) {
		r.Fail(api.ErrShort)
	}
	if r.Err() != api.OK {
		return ""
	}
	s := r.rest[:n]
	r.rest = r.rest[n:]
	return s
}

// End makes ErrLong the first error if there is none yet and bytes are left, and returns the first error.
func (r *Reader) End() api.Errno {
	if r.Left() > 0 {
		r.Fail(api.ErrLong)
	}
	return r.Err()
}
