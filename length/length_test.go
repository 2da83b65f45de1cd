package length_test

import (
	"bytes"
	"math"
	"testing"

	"sindri/api"
	"sindri/cursor"
	"sindri/length"
)

const (
	top      = math.MaxUint64
	greatest = 4294967279 // the greatest length that is not wide
)

// number is n in size bytes, the lowest first, with others behind it.
func number(n uint64, size int, behind ...byte) []byte {
	var b []byte
	for range size {
		b = append(b, byte(n))
		n >>= 8
	}
	return append(b, behind...)
}

// wide is a wide length with others behind it.
func wide(n uint64, behind ...byte) []byte {
	return append([]byte{255, 255, 255, 255}, number(n, 8, behind...)...)
}

// run makes n bytes that are not alike.
func run(n int) []byte {
	b := make([]byte, n)
	for i := range b {
		b[i] = byte(i*7 + i/256 + 1)
	}
	return b
}

// behind makes a cursor over b that stands behind some bytes ahead of it.
func behind(t *testing.T, ahead int, b []byte) *cursor.Cursor {
	t.Helper()
	c := cursor.New(append(run(ahead), b...))
	c.Seek(uint64(ahead))
	wantCursor(t, "ahead", c, ahead, len(b), api.OK)
	return c
}

func wantCursor(t *testing.T, what string, c *cursor.Cursor, at, left int, e api.Errno) {
	t.Helper()
	if c.At() != at || c.Left() != left || c.Err() != e {
		t.Errorf("%s: cursor at %d, left %d, error %d; want %d, %d, %d", what, c.At(), c.Left(), c.Err(), at, left, e)
	}
}

func wantTake(t *testing.T, c *cursor.Cursor, n uint64, isWide bool) {
	t.Helper()
	if got, w := length.Take(c); got != n || w != isWide {
		t.Errorf("Take = %d, %v, want %d, %v", got, w, n, isWide)
	}
}

// wantBody looks that a body of those bytes is read, and nothing else of it.
func wantBody(t *testing.T, c *cursor.Cursor, want []byte, isWide bool) {
	t.Helper()
	body, w := length.Body(c)
	if w != isWide {
		t.Errorf("Body is wide: %v, want %v", w, isWide)
	}
	wantCursor(t, "body", body, 0, len(want), api.OK)
	if got := body.Bytes(uint64(len(want))); !bytes.Equal(got, want) {
		t.Errorf("body = %.40x, want %.40x", got, want)
	}
	wantCursor(t, "body that was read", body, len(want), 0, api.OK)
	if e := body.End(); e != api.OK {
		t.Errorf("End of the body = %d", e)
	}
	if n := body.U8(); n != 0 || body.Err() != api.ErrShort {
		t.Errorf("behind the body: %d, %d", n, body.Err())
	}
}

// wantNoBody looks that a body is refused, and with what.
func wantNoBody(t *testing.T, c *cursor.Cursor, want api.Errno) {
	t.Helper()
	body, w := length.Body(c)
	if w {
		t.Error("Body of a refusal is wide")
	}
	if body == nil {
		t.Error("Body of a refusal is nil")
	}
	wantCursor(t, "body of a refusal", body, 0, 0, want)
	if b := body.Bytes(0); len(b) != 0 || body.End() != want {
		t.Errorf("body of a refusal tells %x, %d", b, body.End())
	}
}

// narrows are lengths that need not be wide, wides some that have to be.
func narrows() []uint64 {
	ns := []uint64{0, 1, 2, 100, 0x01020304, 0xfffffeff, greatest - 1, greatest}
	for i := range 32 {
		ns = append(ns, 1<<i-1, 1<<i, 1<<i+1)
	}
	return ns
}

func wides() []uint64 {
	ns := []uint64{greatest + 1, greatest + 2, math.MaxUint32 - 1, math.MaxUint32, 0x0102030405060708, 0xfffffff000000000, 0xffffffff00000000, top - 1, top}
	for i := 32; i < 64; i++ {
		ns = append(ns, 1<<i, 1<<i+1)
	}
	return ns
}

// P5.1

func TestTake(t *testing.T) {
	for _, ahead := range []int{0, 1, 300} {
		for _, rest := range [][]byte{nil, {7}, run(8), run(300)} {
			for _, n := range narrows() {
				c := behind(t, ahead, number(n, 4, rest...))
				wantTake(t, c, n, false)
				wantCursor(t, "behind a length", c, ahead+4, len(rest), api.OK)
			}
			for _, n := range append(narrows(), wides()...) {
				c := behind(t, ahead, wide(n, rest...))
				wantTake(t, c, n, true)
				wantCursor(t, "behind a wide length", c, ahead+12, len(rest), api.OK)
			}
		}
	}
}

func TestTakeTheLowestByteFirst(t *testing.T) {
	wantTake(t, cursor.New([]byte{1, 2, 3, 4, 5, 6, 7, 8}), 0x04030201, false)
	wantTake(t, cursor.New([]byte{0xef, 0xff, 0xff, 0xff}), 4294967279, false)
	wantTake(t, cursor.New([]byte{0xff, 0xff, 0xff, 0xf0}), 0xf0ffffff, false)
	wantTake(t, cursor.New([]byte{0xff, 0xff, 0xff, 0xff, 1, 2, 3, 4, 5, 6, 7, 8}), 0x0807060504030201, true)
}

func TestTakeRefusesWhatIsReserved(t *testing.T) {
	for n := uint64(4294967280); n < 4294967295; n++ {
		for _, rest := range [][]byte{nil, {1}, make([]byte, 8), run(20)} {
			for _, ahead := range []int{0, 5} {
				c := behind(t, ahead, number(n, 4, rest...))
				wantTake(t, c, 0, false)
				wantCursor(t, "a reserved length", c, ahead+4, 0, api.ErrLength)
			}
		}
	}
}

func TestTakeRefusesTooFewBytes(t *testing.T) {
	for _, ahead := range []int{0, 1, 5} {
		for _, full := range [][]byte{{1, 0, 0, 0}, {255, 255, 255, 255}, {240, 255, 255, 255}, {0, 0, 0, 0}} {
			for size := range 4 {
				c := behind(t, ahead, full[:size])
				wantTake(t, c, 0, false)
				wantCursor(t, "too few bytes", c, ahead, 0, api.ErrShort)
			}
		}
		for size := range 8 {
			for _, n := range []uint64{0, 1, 0x0102030405060708, top} {
				c := behind(t, ahead, wide(n)[:4+size])
				wantTake(t, c, 0, false)
				wantCursor(t, "too few bytes of a wide length", c, ahead+4, 0, api.ErrShort)
			}
		}
	}
}

func TestTakeOneBehindTheOther(t *testing.T) {
	b := append(number(5, 4), wide(6)...)
	b = append(b, number(greatest, 4)...)
	b = append(b, wide(top)...)
	b = append(b, number(4294967280, 4, 1, 0, 0, 0)...)
	c := cursor.New(b)
	wantTake(t, c, 5, false)
	wantTake(t, c, 6, true)
	wantTake(t, c, greatest, false)
	wantTake(t, c, top, true)
	wantCursor(t, "four lengths", c, 32, 8, api.OK)
	for range 3 {
		wantTake(t, c, 0, false)
		wantCursor(t, "behind a refusal", c, 36, 0, api.ErrLength)
	}
}

func TestTakeOfRefusedCursors(t *testing.T) {
	for _, e := range []api.Errno{api.ErrNil, api.ErrArg, api.ErrShort, api.ErrLength, api.ErrUnit, -1} {
		for _, b := range [][]byte{number(1, 4, 9, 9), wide(1, 9, 9), number(4294967280, 4), {255}, nil} {
			c := behind(t, 2, b)
			c.Fail(e)
			wantTake(t, c, 0, false)
			wantCursor(t, "Take of one that has refused", c, 2, 0, e)
			wantNoBody(t, c, e)
			wantCursor(t, "Body of one that has refused", c, 2, 0, e)
		}
	}
	for _, c := range []*cursor.Cursor{nil, new(cursor.Cursor)} {
		wantTake(t, c, 0, false)
		wantNoBody(t, c, api.ErrNil)
		wantCursor(t, "nobody", c, 0, 0, api.ErrNil)
	}
}

// P5.2

func TestBody(t *testing.T) {
	for _, ahead := range []int{0, 1, 300} {
		for _, size := range []int{0, 1, 2, 8, 255, 256, 65535, 65536, 70000} {
			for _, rest := range [][]byte{nil, {7}, run(300)} {
				body := run(size)
				tail := append(bytes.Clone(body), rest...)

				c := behind(t, ahead, number(uint64(size), 4, tail...))
				wantBody(t, c, body, false)
				wantCursor(t, "behind a body", c, ahead+4+size, len(rest), api.OK)
				if got := c.Bytes(uint64(len(rest))); !bytes.Equal(got, rest) || c.End() != api.OK {
					t.Errorf("behind a body: %.20x, %d", got, c.End())
				}

				c = behind(t, ahead, wide(uint64(size), tail...))
				wantBody(t, c, body, true)
				wantCursor(t, "behind a wide body", c, ahead+12+size, len(rest), api.OK)
			}
		}
	}
}

func TestBodyRefusesTooFewBytes(t *testing.T) {
	for _, ahead := range []int{0, 3} {
		for _, size := range []int{1, 2, 8, 256, 65536} {
			rest := run(size - 1)
			for _, n := range []uint64{uint64(size), uint64(size) + 1, greatest} {
				c := behind(t, ahead, number(n, 4, rest...))
				wantNoBody(t, c, api.ErrShort)
				wantCursor(t, "a body of too few bytes", c, ahead+4, 0, api.ErrShort)
			}
			for _, n := range []uint64{uint64(size), uint64(size) + 1, 1 << 31, 1 << 32, 1 << 33, 1<<63 - 1, 1 << 63, top - 11, top - 3, top - 1, top} {
				c := behind(t, ahead, wide(n, rest...))
				wantNoBody(t, c, api.ErrShort)
				wantCursor(t, "a wide body of too few bytes", c, ahead+12, 0, api.ErrShort)
			}
		}
		for _, n := range []uint64{1, greatest} {
			c := behind(t, ahead, number(n, 4))
			wantNoBody(t, c, api.ErrShort)
			wantCursor(t, "a body of no bytes", c, ahead+4, 0, api.ErrShort)
		}
	}
}

func TestBodyRefusesWhatTakeRefuses(t *testing.T) {
	for _, x := range []struct {
		b    []byte
		at   int
		want api.Errno
	}{
		{nil, 0, api.ErrShort}, {[]byte{1, 0, 0}, 0, api.ErrShort}, {[]byte{255, 255, 255}, 0, api.ErrShort},
		{number(4294967280, 4), 4, api.ErrLength}, {number(4294967280, 4, 1, 0, 0, 0, 0, 0, 0, 0, 9), 4, api.ErrLength},
		{number(4294967294, 4), 4, api.ErrLength}, {number(4294967294, 4, 1, 0, 0, 0, 0, 0, 0, 0, 9), 4, api.ErrLength},
		{number(4294967295, 4), 4, api.ErrShort}, {wide(0)[:11], 4, api.ErrShort}, {wide(top)[:11], 4, api.ErrShort},
	} {
		for _, ahead := range []int{0, 2} {
			c := behind(t, ahead, x.b)
			wantNoBody(t, c, x.want)
			wantCursor(t, "Body of a refusal", c, ahead+x.at, 0, x.want)
			c.Fail(api.ErrUnit)
			wantNoBody(t, c, x.want) // the first refusal is kept
		}
	}
}

// What is done with a body is nothing to what it was read from.
func TestBodyIsOfItsOwn(t *testing.T) {
	c := cursor.New(number(3, 4, 1, 2, 3, 4, 5))
	body, _ := length.Body(c)
	body.U8()
	wantCursor(t, "what a body was read from", c, 7, 2, api.OK)
	c.U8()
	wantCursor(t, "the body", body, 1, 2, api.OK)
	body.U32()
	wantCursor(t, "the body refuses", body, 1, 0, api.ErrShort)
	wantCursor(t, "what it was read from does not", c, 8, 1, api.OK)

	c = cursor.New(number(3, 4, 1, 2, 3, 4, 5))
	body, _ = length.Body(c)
	c.Fail(api.ErrUnit)
	wantCursor(t, "a body whose source refuses", body, 0, 3, api.OK)
}

// P5.3

func TestOff(t *testing.T) {
	if n := length.Off(false); n != 4 {
		t.Errorf("Off(not wide) = %d", n)
	}
	if n := length.Off(true); n != 8 {
		t.Errorf("Off(wide) = %d", n)
	}
}

func wantPut(t *testing.T, b []byte, n uint64, isWide bool, want []byte, e api.Errno) {
	t.Helper()
	held := bytes.Clone(b)
	got, err := length.Put(b, n, isWide)
	if !bytes.Equal(got, append(bytes.Clone(b), want...)) || err != e {
		t.Errorf("Put(%x, %d, %v) = %x, %d, want %x behind it, %d", b, n, isWide, got, err, want, e)
	}
	if !bytes.Equal(b, held) {
		t.Errorf("Put changed %x to %x", held, b)
	}
}

func TestPut(t *testing.T) {
	for _, b := range [][]byte{nil, {}, {9}, run(300), run(300)[:7]} {
		for _, n := range narrows() {
			wantPut(t, b, n, false, number(n, 4), api.OK)
			wantPut(t, b, n, true, wide(n), api.OK)
		}
		for _, n := range wides() {
			wantPut(t, b, n, false, nil, api.ErrLength)
			wantPut(t, b, n, true, wide(n), api.OK)
		}
		for n := uint64(4294967280); n <= 4294967296; n++ {
			wantPut(t, b, n, false, nil, api.ErrLength)
			wantPut(t, b, n, true, wide(n), api.OK)
		}
	}
}

func TestPutRefusedPutsNothing(t *testing.T) {
	room := bytes.Repeat([]byte{0xaa}, 40)
	b, e := length.Put(room[:2:30], greatest+1, false)
	if len(b) != 2 || e != api.ErrLength {
		t.Errorf("Put = %x, %d", b, e)
	}
	if !bytes.Equal(room, bytes.Repeat([]byte{0xaa}, 40)) {
		t.Errorf("Put that refuses left %x", room)
	}
}

// wantRoom looks that what stands behind a list's room is left.
func wantRoom(t *testing.T, what string, put func(b []byte) ([]byte, api.Errno)) {
	t.Helper()
	want, _ := put([]byte{0xaa, 0xaa})
	for size := 2; size < 40; size++ {
		room := bytes.Repeat([]byte{0xaa}, 40)
		got, e := put(room[:2:size])
		if !bytes.Equal(got, want) || e != api.OK {
			t.Errorf("%s with room for %d = %x, %d", what, size, got, e)
		}
		if !bytes.Equal(room[size:], bytes.Repeat([]byte{0xaa}, 40-size)) || room[0] != 0xaa || room[1] != 0xaa {
			t.Errorf("%s with room for %d left %x", what, size, room)
		}
	}
}

func TestPutIntoRoom(t *testing.T) {
	for _, w := range []bool{false, true} {
		wantRoom(t, "Put", func(b []byte) ([]byte, api.Errno) { return length.Put(b, 0x01020304, w) })
		wantRoom(t, "Wrap", func(b []byte) ([]byte, api.Errno) { return length.Wrap(b, w, []byte{7, 8, 9}) })
	}
}

func wantWrap(t *testing.T, b []byte, isWide bool, body, want []byte) {
	t.Helper()
	held, part := bytes.Clone(b), bytes.Clone(body)
	got, e := length.Wrap(b, isWide, body)
	if !bytes.Equal(got, append(bytes.Clone(held), want...)) || e != api.OK {
		t.Errorf("Wrap(%.20x, %v, %.20x) = %.60x, %d, want %.60x behind it", held, isWide, part, got, e, want)
	}
	if !bytes.Equal(b, held) || !bytes.Equal(body, part) {
		t.Errorf("Wrap(%.20x, %v, %.20x) changed what was handed in", held, isWide, part)
	}
	for i := range body {
		body[i]++
	}
	if !bytes.Equal(got, append(bytes.Clone(held), want...)) {
		t.Errorf("Wrap(%.20x, %v, %.20x) keeps the body", held, isWide, part)
	}
}

func TestWrap(t *testing.T) {
	wantWrap(t, nil, false, nil, []byte{0, 0, 0, 0})
	wantWrap(t, nil, true, nil, []byte{255, 255, 255, 255, 0, 0, 0, 0, 0, 0, 0, 0})
	wantWrap(t, []byte{1, 2}, false, []byte{}, []byte{0, 0, 0, 0})
	for _, b := range [][]byte{nil, {}, {9}, run(300), run(300)[:7]} {
		for _, size := range []int{0, 1, 2, 239, 240, 255, 256, 257, 65535, 65536, 65537, 1 << 20} {
			n := uint64(size)
			wantWrap(t, b, false, run(size), number(n, 4, run(size)...))
			wantWrap(t, b, true, run(size), wide(n, run(size)...))
		}
	}
}

// A body counts as far as its length says, whatever room it has.
func TestWrapReadsNothingBehindTheBody(t *testing.T) {
	room := run(20)
	wantWrap(t, nil, false, room[3:5], number(2, 4, run(20)[3:5]...))
	wantWrap(t, nil, true, room[7:7], wide(0))
}

func TestWrapOfWhatStandsInTheRoom(t *testing.T) {
	for _, w := range []bool{false, true} {
		for from := range 20 {
			for to := from; to <= 20; to++ {
				room := make([]byte, 20, 60)
				copy(room, run(20))
				want, _ := length.Wrap(nil, w, run(20)[from:to])
				got, e := length.Wrap(room[:0], w, room[from:to])
				if !bytes.Equal(got, want) || e != api.OK {
					t.Errorf("Wrap of a body in the room = %x, %d, want %x", got, e, want)
				}
			}
		}
	}
}

func TestExample1(t *testing.T) {
	wantWrap(t, nil, false, []byte{7, 8}, []byte{0x02, 0, 0, 0, 7, 8})
	wantWrap(t, nil, true, []byte{7, 8}, []byte{0xff, 0xff, 0xff, 0xff, 0x02, 0, 0, 0, 0, 0, 0, 0, 7, 8})
}

// P5.4

// forms are the forms of three things, one in the other.
func forms() [][3]bool {
	var all [][3]bool
	for i := range 8 {
		all = append(all, [3]bool{i&1 > 0, i&2 > 0, i&4 > 0})
	}
	return all
}

func mustWrap(t *testing.T, b []byte, w bool, body []byte) []byte {
	t.Helper()
	b, e := length.Wrap(b, w, body)
	if e != api.OK {
		t.Fatalf("Wrap = %d", e)
	}
	return b
}

func TestWhatIsWrappedIsTaken(t *testing.T) {
	for _, w := range []bool{false, true} {
		for _, size := range []int{0, 1, 2, 3, 4, 7, 8, 12, 255, 256, 65535, 65536, 70000} {
			for _, rest := range [][]byte{nil, {0}, {255, 255, 255, 255}, run(40)} {
				b := append(mustWrap(t, nil, w, run(size)), rest...)
				c := cursor.New(b)
				wantTake(t, c, uint64(size), w)
				wantCursor(t, "behind its length", c, len(b)-size-len(rest), size+len(rest), api.OK)
				c = cursor.New(b)
				wantBody(t, c, run(size), w)
				wantCursor(t, "behind it", c, len(b)-len(rest), len(rest), api.OK)
				if got := c.Bytes(uint64(len(rest))); !bytes.Equal(got, rest) {
					t.Errorf("behind it: %x, want %x", got, rest)
				}
			}
		}
	}
}

func TestWhatIsWrappedInWhatIsWrapped(t *testing.T) {
	for _, w := range forms() {
		for _, size := range []int{0, 1, 255, 300} {
			inner := mustWrap(t, []byte{1}, w[0], run(size))
			middle := mustWrap(t, []byte{2, 3}, w[1], append(inner, 4))
			outer := mustWrap(t, nil, w[2], append(middle, 5, 6))

			o := cursor.New(append(outer, 7))
			m, is := length.Body(o)
			if is != w[2] || m.U16() != 0x0302 {
				t.Errorf("%v: outer", w)
			}
			i, is := length.Body(m)
			if is != w[1] || i.U8() != 1 {
				t.Errorf("%v: middle", w)
			}
			wantBody(t, i, run(size), w[0])
			for _, c := range []struct {
				c    *cursor.Cursor
				size int
				rest uint64
			}{{i, 1, 4}, {m, 2, 0x0605}, {o, 1, 7}} {
				if n := c.c.Uint(c.size); n != c.rest || c.c.End() != api.OK {
					t.Errorf("%v: %x stands behind it, %d", w, n, c.c.End())
				}
			}
		}
	}
}

func TestWhatIsPutIsTaken(t *testing.T) {
	for _, rest := range [][]byte{nil, {1}, run(20)} {
		for _, n := range append(narrows(), wides()...) {
			b, e := length.Put([]byte{9}, n, true)
			c := behind(t, 0, append(b, rest...))
			c.U8()
			wantTake(t, c, n, true)
			wantCursor(t, "a wide length that was put", c, 13, len(rest), e)
		}
		for _, n := range narrows() {
			b, e := length.Put([]byte{9}, n, false)
			c := behind(t, 0, append(b, rest...))
			c.U8()
			wantTake(t, c, n, false)
			wantCursor(t, "a length that was put", c, 5, len(rest), e)
		}
	}
}
