package cursor_test

import (
	"bytes"
	"math"
	"testing"

	"sindri/api"
	"sindri/cursor"
)

const top = math.MaxUint64

// state is what can be told of a cursor without moving it.
type state struct {
	at, left int
	err, end api.Errno
}

func look(c *cursor.Cursor) state {
	return state{c.At(), c.Left(), c.Err(), c.End()}
}

func wantState(t *testing.T, what string, c *cursor.Cursor, want state) {
	t.Helper()
	if got := look(c); got != want {
		t.Errorf("%s: state %+v, want %+v", what, got, want)
	}
}

func wantNumber(t *testing.T, what string, got, want uint64) {
	t.Helper()
	if got != want {
		t.Errorf("%s = %#x, want %#x", what, got, want)
	}
}

// counting makes bytes 1, 2, 3 and so on.
func counting(n int) []byte {
	b := make([]byte, n)
	for i := range b {
		b[i] = byte(i + 1)
	}
	return b
}

// P1.1

func TestNewStandsAtFront(t *testing.T) {
	wantState(t, "New of 3", cursor.New(counting(3)), state{0, 3, api.OK, api.ErrArg})
	wantState(t, "New of none", cursor.New([]byte{}), state{0, 0, api.OK, api.OK})
	wantState(t, "New of nil", cursor.New(nil), state{0, 0, api.OK, api.OK})
}

func TestNewCopies(t *testing.T) {
	room := counting(8)
	b := room[:3]
	c := cursor.New(b)
	b[0], b[2] = 99, 98
	wantNumber(t, "number", c.Uint(3), 0x030201)
	wantState(t, "what lies behind the list is not read", c, state{3, 0, api.OK, api.OK})
	if !bytes.Equal(room, []byte{99, 2, 98, 4, 5, 6, 7, 8}) {
		t.Errorf("the argument is now %v", room)
	}
}

// P1.2

func TestUintSizes(t *testing.T) {
	for _, x := range []struct {
		size, at int
		want     uint64
	}{
		{math.MinInt, 0, 0}, {-1, 0, 0}, {0, 0, 0},
		{1, 1, 0x81}, {2, 2, 0x8281}, {3, 3, 0x838281}, {4, 4, 0x84838281},
		{5, 5, 0x8584838281}, {6, 6, 0x868584838281}, {7, 7, 0x87868584838281},
		{8, 8, 0x8887868584838281}, {9, 8, 0x8887868584838281}, {math.MaxInt, 8, 0x8887868584838281},
	} {
		c := cursor.New([]byte{0x81, 0x82, 0x83, 0x84, 0x85, 0x86, 0x87, 0x88, 0x89})
		wantNumber(t, "Uint", c.Uint(x.size), x.want)
		wantState(t, "behind it", c, state{x.at, 9 - x.at, api.OK, api.ErrArg})
	}
}

func TestUintShort(t *testing.T) {
	for _, size := range []int{1, 2, 3, 4, 5, 6, 7, 8, 9, math.MaxInt} {
		held := min(size, 8)
		c := cursor.New(counting(held - 1))
		wantNumber(t, "Uint of too few", c.Uint(size), 0)
		wantState(t, "after too few", c, state{0, 0, api.ErrShort, api.ErrShort})

		d := cursor.New(counting(held))
		if d.Uint(size) == 0 {
			t.Errorf("Uint(%d) of just enough tells 0", size)
		}
		wantState(t, "after just enough", d, state{held, 0, api.OK, api.OK})
	}
}

func TestUintOfNoneAtTheEnd(t *testing.T) {
	for _, size := range []int{0, -1, math.MinInt} {
		c := cursor.New(nil)
		wantNumber(t, "Uint of none", c.Uint(size), 0)
		wantState(t, "after none", c, state{0, 0, api.OK, api.OK})
	}
}

// fixed are the calls for numbers of one size.
func fixed() map[int]func(*cursor.Cursor) uint64 {
	return map[int]func(*cursor.Cursor) uint64{
		1: (*cursor.Cursor).U8,
		2: (*cursor.Cursor).U16,
		4: (*cursor.Cursor).U32,
		8: (*cursor.Cursor).U64,
	}
}

func TestFixedSizesAreUint(t *testing.T) {
	for size, call := range fixed() {
		for _, held := range []int{0, size - 1, size, size + 1} {
			b := bytes.Repeat([]byte{0xf1, 0xe2}, 5)[:held]
			c, d := cursor.New(b), cursor.New(b)
			wantNumber(t, "of one size", call(c), d.Uint(size))
			wantState(t, "of one size", c, look(d))
		}
	}
}

// P1.3

func TestBytes(t *testing.T) {
	c := cursor.New(counting(5))
	if b := c.Bytes(0); len(b) != 0 {
		t.Errorf("Bytes(0) = %v", b)
	}
	if b := c.Bytes(2); !bytes.Equal(b, []byte{1, 2}) {
		t.Errorf("Bytes(2) = %v", b)
	}
	wantState(t, "behind 2", c, state{2, 3, api.OK, api.ErrArg})
	if b := c.Bytes(3); !bytes.Equal(b, []byte{3, 4, 5}) {
		t.Errorf("Bytes(3) = %v", b)
	}
	wantState(t, "behind all", c, state{5, 0, api.OK, api.OK})
	if b := c.Bytes(0); len(b) != 0 {
		t.Errorf("Bytes(0) = %v", b)
	}
	wantState(t, "none at the end", c, state{5, 0, api.OK, api.OK})
}

func TestBytesAreACopy(t *testing.T) {
	c := cursor.New(counting(4))
	b := c.Bytes(2)
	b[0], b[1] = 77, 78
	_ = append(b, 79, 80)
	c.Seek(0)
	wantNumber(t, "what was there", c.U32(), 0x04030201)
}

func TestTooManyBytes(t *testing.T) {
	for _, n := range []uint64{4, 5, 1 << 31, 1 << 32, 1<<63 - 1, 1 << 63, top - 1, top} {
		c := cursor.New(counting(4))
		c.U8()
		if b := c.Bytes(n); len(b) != 0 {
			t.Errorf("Bytes(%d) = %v", n, b)
		}
		wantState(t, "Bytes of too many", c, state{1, 0, api.ErrShort, api.ErrShort})

		d := cursor.New(counting(4))
		d.U8()
		wantState(t, "Sub of too many", d.Sub(n), state{0, 0, api.ErrShort, api.ErrShort})
		wantState(t, "after Sub of too many", d, state{1, 0, api.ErrShort, api.ErrShort})
	}
}

func TestSub(t *testing.T) {
	c := cursor.New(counting(6))
	c.U8()
	s := c.Sub(3)
	wantState(t, "Sub", s, state{0, 3, api.OK, api.ErrArg})
	wantState(t, "behind Sub", c, state{4, 2, api.OK, api.ErrArg})
	wantNumber(t, "in Sub", s.Uint(3), 0x040302)
	wantState(t, "Sub's end", s, state{3, 0, api.OK, api.OK})
	s.Seek(1)
	wantNumber(t, "in Sub from its own front", s.U8(), 3)

	s.Seek(3)
	wantNumber(t, "behind Sub's end", s.U8(), 0)
	wantState(t, "Sub refuses alone", s, state{3, 0, api.ErrShort, api.ErrShort})
	wantState(t, "Sub refuses alone", c, state{4, 2, api.OK, api.ErrArg})
	rest := c.Sub(2)
	c.Fail(api.ErrForm)
	wantState(t, "made ahead of a refusal", rest, state{0, 2, api.OK, api.ErrArg})
}

func TestSubOfNone(t *testing.T) {
	c := cursor.New(counting(1))
	wantState(t, "Sub(0)", c.Sub(0), state{0, 0, api.OK, api.OK})
	c.U8()
	wantState(t, "Sub(0) at the end", c.Sub(0), state{0, 0, api.OK, api.OK})
	wantState(t, "behind them", c, state{1, 0, api.OK, api.OK})
}

func TestSeek(t *testing.T) {
	c := cursor.New(counting(4))
	for _, at := range []int{3, 0, 4, 4, 1} {
		c.Seek(uint64(at))
		end := api.ErrArg
		if at == 4 {
			end = api.OK
		}
		wantState(t, "Seek", c, state{at, 4 - at, api.OK, end})
	}
	wantNumber(t, "from there", c.U16(), 0x0302)
}

func TestSeekTooFar(t *testing.T) {
	for _, at := range []uint64{5, 1 << 32, 1 << 63, 1<<63 + 2, top} {
		c := cursor.New(counting(4))
		c.U16()
		c.Seek(at)
		wantState(t, "Seek too far", c, state{2, 0, api.ErrShort, api.ErrShort})
		c.Seek(0)
		wantState(t, "Seek back", c, state{2, 0, api.ErrShort, api.ErrShort})
	}
}

// P1.4

// wantSilence looks whether a cursor that has refused, or that is nobody, tells nothing and stays as it is.
func wantSilence(t *testing.T, what string, c *cursor.Cursor, at int, e api.Errno) {
	t.Helper()
	want := state{at, 0, e, e}
	wantState(t, what, c, want)
	for size, call := range fixed() {
		wantNumber(t, what+": of one size", call(c), 0)
		wantNumber(t, what+": Uint", c.Uint(size), 0)
	}
	for _, size := range []int{math.MinInt, 0, 1, 8, math.MaxInt} {
		wantNumber(t, what+": Uint", c.Uint(size), 0)
	}
	for _, n := range []uint64{0, 1, top} {
		if b := c.Bytes(n); len(b) != 0 {
			t.Errorf("%s: Bytes(%d) = %v", what, n, b)
		}
		s := c.Sub(n)
		if s == nil {
			t.Errorf("%s: Sub(%d) is no cursor", what, n)
		}
		wantState(t, what+": Sub", s, state{0, 0, e, e})
		c.Seek(n)
	}
	for _, other := range []api.Errno{api.OK, api.ErrArg, api.ErrShort, api.ErrCheck, -1} {
		c.Fail(other)
	}
	wantState(t, what+": afterwards", c, want)
}

func TestRefusals(t *testing.T) {
	for _, x := range []struct {
		what   string
		at     int
		refuse func(*cursor.Cursor)
		want   api.Errno
	}{
		{"Uint", 2, func(c *cursor.Cursor) { c.Uint(8) }, api.ErrShort},
		{"U8 at the end", 4, func(c *cursor.Cursor) { c.Bytes(2); c.U8() }, api.ErrShort},
		{"U32", 2, func(c *cursor.Cursor) { c.U32() }, api.ErrShort},
		{"Bytes", 2, func(c *cursor.Cursor) { c.Bytes(3) }, api.ErrShort},
		{"Sub", 2, func(c *cursor.Cursor) { c.Sub(3) }, api.ErrShort},
		{"Seek", 2, func(c *cursor.Cursor) { c.Seek(5) }, api.ErrShort},
		{"Fail", 2, func(c *cursor.Cursor) { c.Fail(api.ErrForm) }, api.ErrForm},
		{"Fail with ErrNil", 2, func(c *cursor.Cursor) { c.Fail(api.ErrNil) }, api.ErrNil},
		{"Fail with no error of api", 2, func(c *cursor.Cursor) { c.Fail(math.MinInt) }, math.MinInt},
		{"Fail with OK first", 2, func(c *cursor.Cursor) { c.Fail(api.OK); c.Fail(api.ErrLeb) }, api.ErrLeb},
		{"Fail twice", 2, func(c *cursor.Cursor) { c.Fail(api.ErrLeb); c.Fail(api.ErrText) }, api.ErrLeb},
		{"Fail ahead of Bytes", 2, func(c *cursor.Cursor) { c.Fail(api.ErrLeb); c.Bytes(3) }, api.ErrLeb},
		{"Bytes ahead of Fail", 2, func(c *cursor.Cursor) { c.Bytes(3); c.Fail(api.ErrLeb) }, api.ErrShort},
	} {
		c := cursor.New(counting(4))
		c.Seek(2)
		x.refuse(c)
		wantSilence(t, x.what, c, x.at, x.want)

		// A part that is cut from one that has refused is as silent.
		wantSilence(t, "Sub of "+x.what, c.Sub(0), 0, x.want)
	}
}

func TestFailOKIsNothing(t *testing.T) {
	c := cursor.New(counting(2))
	c.Fail(api.OK)
	wantState(t, "Fail(OK)", c, state{0, 2, api.OK, api.ErrArg})
	wantNumber(t, "after Fail(OK)", c.U16(), 0x0201)
}

func TestFailAtTheEnd(t *testing.T) {
	c := cursor.New(counting(1))
	c.U8()
	c.Fail(api.ErrForm)
	wantSilence(t, "Fail at the end", c, 1, api.ErrForm)
}

func TestEndOnlyTells(t *testing.T) {
	c := cursor.New(counting(2))
	if e := c.End(); e != api.ErrArg {
		t.Errorf("End = %d", e)
	}
	wantState(t, "after End", c, state{0, 2, api.OK, api.ErrArg})
	wantNumber(t, "after End", c.U16(), 0x0201)
	wantState(t, "at the end", c, state{2, 0, api.OK, api.OK})
}

func TestExample1(t *testing.T) {
	c := cursor.New(counting(3))
	wantNumber(t, "U16", c.U16(), 513)
	wantNumber(t, "U16", c.U16(), 0)
	wantState(t, "then", c, state{2, 0, api.ErrShort, api.ErrShort})
}

// P1.5

func TestNobody(t *testing.T) {
	var zero cursor.Cursor
	wantSilence(t, "nil", nilCursor(), 0, api.ErrNil)
	wantSilence(t, "no call made it", &zero, 0, api.ErrNil)
	wantSilence(t, "new", new(cursor.Cursor), 0, api.ErrNil)
	wantSilence(t, "Sub of nil", nilCursor().Sub(0), 0, api.ErrNil)
	wantSilence(t, "Sub of no call's", zero.Sub(1), 0, api.ErrNil)
}

func nilCursor() *cursor.Cursor { return nil }

// P1.6

func TestPut(t *testing.T) {
	const n = 0x8877665544332211
	low := []byte{0x11, 0x22, 0x33, 0x44, 0x55, 0x66, 0x77, 0x88}
	for _, x := range []struct{ size, want int }{
		{math.MinInt, 0}, {-1, 0}, {0, 0}, {1, 1}, {2, 2}, {3, 3}, {4, 4}, {5, 5}, {6, 6}, {7, 7}, {8, 8}, {9, 8}, {math.MaxInt, 8},
	} {
		for _, ahead := range [][]byte{nil, {}, {9}, {9, 8, 7}} {
			got := cursor.Put(bytes.Clone(ahead), n, x.size)
			want := append(bytes.Clone(ahead), low[:x.want]...)
			if !bytes.Equal(got, want) {
				t.Errorf("Put(%v, n, %d) = %x, want %x", ahead, x.size, got, want)
			}
		}
	}
	if got := cursor.Put(nil, top, 8); !bytes.Equal(got, bytes.Repeat([]byte{0xff}, 8)) {
		t.Errorf("Put of the greatest = %x", got)
	}
}

func TestPutLeavesWhatIsAhead(t *testing.T) {
	room := counting(6)
	if got := cursor.Put(room[1:3], 0xeeff, 2); !bytes.Equal(got, []byte{2, 3, 0xff, 0xee}) {
		t.Errorf("Put = %v", got)
	}
	if !bytes.Equal(room[:3], []byte{1, 2, 3}) || room[5] != 6 {
		t.Errorf("what was handed in is now %v", room)
	}
}

func TestSum(t *testing.T) {
	for _, x := range []struct {
		a, b, want uint64
		ok         bool
	}{
		{0, 0, 0, true}, {2, 3, 5, true},
		{0, top, top, true}, {1, top - 1, top, true}, {1, top, 0, false}, {2, top, 0, false},
		{top, top, 0, false}, {1 << 63, 1<<63 - 1, top, true}, {1 << 63, 1 << 63, 0, false}, {1 << 63, 1<<63 + 5, 0, false},
	} {
		for _, y := range [][2]uint64{{x.a, x.b}, {x.b, x.a}} {
			if n, ok := cursor.Sum(y[0], y[1]); n != x.want || ok != x.ok {
				t.Errorf("Sum(%d, %d) = %d, %v, want %d, %v", y[0], y[1], n, ok, x.want, x.ok)
			}
		}
	}
}

func TestWithin(t *testing.T) {
	for _, x := range []struct {
		at, n, size uint64
		want        bool
	}{
		{0, 0, 0, true}, {0, 1, 0, false}, {1, 0, 0, false},
		{0, 5, 5, true}, {5, 0, 5, true}, {6, 0, 5, false}, {3, 2, 5, true}, {4, 2, 5, false}, {3, 1, 5, true},
		{top, 0, top, true}, {0, top, top, true}, {1, top - 1, top, true}, {1, top, top, false}, {top, 1, top, false},
		{top, top, top, false}, {1 << 63, 1 << 63, 5, false}, {1 << 63, 1 << 63, top, false}, {1 << 63, 1<<63 + 2, 5, false},
		{top, 1, 0, false}, {0, top, top - 1, false},
	} {
		if got := cursor.Within(x.at, x.n, x.size); got != x.want {
			t.Errorf("Within(%d, %d, %d) = %v", x.at, x.n, x.size, got)
		}
	}
}

// P1.7

func TestWhatIsPutIsRead(t *testing.T) {
	for _, n := range []uint64{0, 1, 0x7f, 0x80, 0xff, 0x100, 0x0123456789abcdef, 1 << 63, top} {
		for size := -1; size <= 9; size++ {
			b := cursor.Put([]byte{1}, n, size)
			c := cursor.New(cursor.Put(b, 2, 1))
			wantNumber(t, "ahead", c.U8(), 1)
			want := n
			if held := max(size, 0); held < 8 {
				want = n & (1<<(8*held) - 1)
			}
			wantNumber(t, "what was put", c.Uint(size), want)
			wantNumber(t, "behind", c.U8(), 2)
			wantState(t, "at the end", c, state{len(b) + 1, 0, api.OK, api.OK})
		}
	}
}

// TestWaysOfReading reads some bytes from somewhere one by one, at once, and by a cursor of their own.
func TestWaysOfReading(t *testing.T) {
	const held = 6
	for from := range held + 1 {
		for n := range held + 1 - from {
			one, all, own := cursor.New(counting(held)), cursor.New(counting(held)), cursor.New(counting(held))
			for _, c := range []*cursor.Cursor{one, all, own} {
				c.Seek(uint64(from))
			}
			var singly []byte
			for range n {
				singly = append(singly, byte(one.U8()))
			}
			atOnce := all.Bytes(uint64(n))
			part := own.Sub(uint64(n))
			apart := part.Bytes(uint64(n))
			want := counting(held)[from : from+n]
			if !bytes.Equal(singly, want) || !bytes.Equal(atOnce, want) || !bytes.Equal(apart, want) {
				t.Errorf("%d from %d: %v, %v, %v", n, from, singly, atOnce, apart)
			}
			wantState(t, "at once", all, look(one))
			wantState(t, "by a cursor of their own", own, look(one))
			wantState(t, "their own cursor", part, state{n, 0, api.OK, api.OK})
			part.Seek(0)
			one.Seek(uint64(from))
			wantNumber(t, "as a number", part.Uint(n), one.Uint(n))
		}
	}
}

// TestNextFollows reads on behind each way of reading.
func TestNextFollows(t *testing.T) {
	c := cursor.New(counting(9))
	c.Sub(2).Uint(1)
	c.Bytes(2)
	c.U16()
	wantNumber(t, "next", c.Uint(3), 0x090807)
}
