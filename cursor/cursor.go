// Package cursor is layer 1: see shared/doc/01-cursor.md.
package cursor

import (
	"bytes"

	"sindri/api"
)

const widest = 8 // bytes of the widest number

// Cursor reads bytes from the front.
type Cursor struct {
	data    []byte
	at      int
	refusal api.Errno
	made    bool // a cursor over no bytes looks else like one that no call made
}

// New makes a cursor.
func New(b []byte) *Cursor {
	return &Cursor{data: bytes.Clone(b), made: true}
}

// refused makes a cursor over no bytes that has refused with e.
func refused(e api.Errno) *Cursor {
	return &Cursor{refusal: e, made: true}
}

// U8 reads one byte.
func (c *Cursor) U8() uint64 { return c.Uint(1) }

// U16 reads two.
func (c *Cursor) U16() uint64 { return c.Uint(2) }

// U32 reads four.
func (c *Cursor) U32() uint64 { return c.Uint(4) }

// U64 reads eight.
func (c *Cursor) U64() uint64 { return c.Uint(8) }

// Uint reads a number of some bytes.
func (c *Cursor) Uint(size int) uint64 {
	var n uint64
	for i, v := range c.next(uint64(clamp(size))) {
		n |= uint64(v) << (8 * i)
	}
	return n
}

// Bytes reads bytes.
func (c *Cursor) Bytes(n uint64) []byte {
	return bytes.Clone(c.next(n))
}

// Sub is a cursor over the next bytes.
func (c *Cursor) Sub(n uint64) *Cursor {
	part := c.next(n)
	if e := c.Err(); e != api.OK {
		return refused(e)
	}
	return New(part)
}

// Seek goes somewhere.
func (c *Cursor) Seek(at uint64) {
	if c.Err() != api.OK {
		return
	}
	if !Within(at, 0, uint64(len(c.data))) {
		c.Fail(api.ErrShort)
		return
	}
	c.at = int(at)
}

// Fail refuses.
func (c *Cursor) Fail(e api.Errno) {
	if c.Err() == api.OK {
		c.refusal = e
	}
}

// At tells where it stands.
func (c *Cursor) At() int {
	if c == nil {
		return 0
	}
	return c.at
}

// Left tells how many bytes are left.
func (c *Cursor) Left() int {
	if c.Err() != api.OK {
		return 0
	}
	return len(c.data) - c.at
}

// Err tells the refusal.
func (c *Cursor) Err() api.Errno {
	if c == nil || !c.made {
		return api.ErrNil
	}
	return c.refusal
}

// End tells the refusal, or that bytes are left.
func (c *Cursor) End() api.Errno {
	if c.Left() > 0 {
		return api.ErrArg
	}
	return c.Err()
}

// next goes behind the next n bytes and tells them, or refuses. They share the
// cursor's memory: whoever hands them out copies them. No room is left behind
// them, so that nothing put there can reach the bytes that follow.
func (c *Cursor) next(n uint64) []byte {
	if c.Err() != api.OK {
		return nil
	}
	if n > uint64(c.Left()) {
		c.Fail(api.ErrShort)
		return nil
	}
	from, to := c.at, c.at+int(n)
	c.at = to
	return c.data[from:to:to]
}

// clamp tells how many bytes a number of some size has.
func clamp(size int) int { return min(max(size, 0), widest) }

// Put puts a number.
func Put(b []byte, n uint64, size int) []byte {
	for i := range clamp(size) {
		b = append(b, byte(n>>(8*i)))
	}
	return b
}

// Sum adds, if the sum is not too great.
func Sum(a, b uint64) (uint64, bool) {
	n := a + b
	if n < a { // it wrapped round
		return 0, false
	}
	return n, true
}

// Within tells whether items lie within others.
func Within(at, n, size uint64) bool {
	end, ok := Sum(at, n)
	return ok && end <= size
}
