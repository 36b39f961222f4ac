// Package octet is layer 1: numbers and texts as bytes.
package octet

import (
	"strings"

	"logjam/api"
)

// A number of 64 bits has at most so many bytes, seven bits each; of the last of them just one bit is left.
const (
	numBytes = 10
	lastMost = 1
)

// Out is bytes that are put.
type Out struct{ bytes []byte }

// Byte puts one.
func (o *Out) Byte(n int) {
	if o != nil {
		o.bytes = append(o.bytes, byte(n))
	}
}

// Num puts a number.
func (o *Out) Num(n uint64) {
	for n > 0x7f {
		o.Byte(int(n&0x7f | 0x80))
		n >>= 7
	}
	o.Byte(int(n))
}

// Int puts a number with a sign.
func (o *Out) Int(n int) {
	if n < 0 {
		// ^n is -n - 1, so this is -2n - 1, and the least int is met without going past it.
		o.Num(uint64(^n)<<1 | 1)
		return
	}
	o.Num(uint64(n) << 1)
}

// Text puts a text.
func (o *Out) Text(s string) {
	o.Num(uint64(len(s)))
	if o != nil {
		o.bytes = append(o.bytes, s...)
	}
}

// Done is all that was put.
func (o *Out) Done() string {
	if o == nil {
		return ""
	}
	return string(o.bytes)
}

// In is bytes that are read: those that are left, and the first error.
type In struct {
	rest string
	err  api.Errno
}

// Open reads a text.
func Open(s string) *In { return &In{rest: s} }

// Byte reads one.
func (i *In) Byte() int {
	return int(i.next())
}

// Num reads a number.
func (i *In) Num() uint64 {
	n := uint64(0)
	for k := range numBytes {
		b := i.next()
		if i.Err() != api.OK {
			return 0
		}
		if k == numBytes-1 && b > lastMost || k > 0 && b == 0 {
			i.fail(api.ErrForm)
			return 0
		}
		n |= uint64(b&0x7f) << (7 * k)
		if b < 0x80 {
			break
		}
	}
	return n
}

// Int reads a number with a sign.
func (i *In) Int() int {
	n := i.Num()
	if n&1 == 1 {
		return ^int(n >> 1)
	}
	return int(n >> 1)
}

// Text reads a text.
func (i *In) Text() string {
	n := i.Num()
	if n > uint64(i.Left()) {
		i.fail(api.ErrEnd)
		return ""
	}
	return i.take(int(n))
}

// Left is how many bytes are left.
func (i *In) Left() int {
	if i == nil {
		return 0
	}
	return len(i.rest)
}

// Err is the first error.
func (i *In) Err() api.Errno {
	if i == nil {
		return api.ErrState
	}
	return i.err
}

// next is the next byte; 0, if there is none.
func (i *In) next() byte {
	if i.Left() == 0 {
		i.fail(api.ErrEnd)
		return 0
	}
	b := i.rest[0]
	i.rest = i.rest[1:]
	return b
}

// take is the next n bytes, which must be there, apart from the bytes that are read.
func (i *In) take(n int) string {
	if n == 0 {
		return ""
	}
	s := strings.Clone(i.rest[:n])
	i.rest = i.rest[n:]
	return s
}

// fail keeps the first error, and leaves nothing to be read: so all that is read later is zero.
func (i *In) fail(e api.Errno) {
	if i == nil || i.err != api.OK {
		return
	}
	i.err = e
	i.rest = ""
}
