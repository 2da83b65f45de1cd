package leb_test

import (
	"bytes"
	"math"
	"math/big"
	"testing"

	"sindri/api"
	"sindri/cursor"
	"sindri/leb"
)

const top = math.MaxUint64

// wantCursor looks where a cursor stands, and what it has refused.
func wantCursor(t *testing.T, what string, c *cursor.Cursor, at int, e api.Errno) {
	t.Helper()
	if c.At() != at || c.Err() != e {
		t.Errorf("%s: at %d with error %d, want %d with %d", what, c.At(), c.Err(), at, e)
	}
}

// wantU reads bytes with others behind them.
func wantU(t *testing.T, b []byte, want uint64, at int, e api.Errno) {
	t.Helper()
	c := cursor.New(b)
	if n := leb.U(c); n != want {
		t.Errorf("U of %x = %d, want %d", b, n, want)
	}
	wantCursor(t, "U", c, at, e)
}

func wantS(t *testing.T, b []byte, want int64, at int, e api.Errno) {
	t.Helper()
	c := cursor.New(b)
	if n := leb.S(c); n != want {
		t.Errorf("S of %x = %d, want %d", b, n, want)
	}
	wantCursor(t, "S", c, at, e)
}

// times makes n bytes v and puts others behind them.
func times(n int, v byte, behind ...byte) []byte {
	return append(bytes.Repeat([]byte{v}, n), behind...)
}

// unsigned are numbers about each change of size, and some more.
func unsigned() []uint64 {
	ns := []uint64{0, 1, 2, 100, 624485, 0x0123456789abcdef, 0xfedcba9876543210, top - 1, top}
	for i := range 64 {
		ns = append(ns, 1<<i-1, 1<<i, 1<<i+1)
	}
	return ns
}

// signed are the same as numbers with a sign, and their opposites.
func signed() []int64 {
	var ns []int64
	for _, n := range unsigned() {
		ns = append(ns, int64(n), -int64(n), ^int64(n))
	}
	return ns
}

// P2.1

func TestUOfOneByte(t *testing.T) {
	for v := range 128 {
		wantU(t, []byte{byte(v)}, uint64(v), 1, api.OK)
		wantU(t, []byte{byte(v), 0xff, 1}, uint64(v), 1, api.OK)
	}
}

func TestULowestFirst(t *testing.T) {
	wantU(t, []byte{0xe5, 0x8e, 0x26}, 624485, 3, api.OK)
	wantU(t, []byte{0x80, 0x01}, 128, 2, api.OK)
	wantU(t, []byte{0x81, 0x82, 0x83, 0x04, 0x05}, 1+2<<7+3<<14+4<<21, 4, api.OK)
	wantU(t, []byte{0xff, 0x7f, 0x7f}, 1<<14-1, 2, api.OK)
	for i := range 9 {
		wantU(t, times(i, 0x80, 1, 0x55), 1<<(7*i), i+1, api.OK)
		wantU(t, times(i, 0xff, 0x7f, 0x55), 1<<(7*i+7)-1, i+1, api.OK)
	}
}

func TestUWithMoreBytesThanNeeded(t *testing.T) {
	for i := range 10 {
		wantU(t, times(i, 0x80, 0, 9), 0, i+1, api.OK)
	}
	wantU(t, []byte{0x83, 0x80, 0x00}, 3, 3, api.OK)
	wantU(t, append([]byte{0x85}, times(8, 0x80, 0)...), 5, 10, api.OK)
}

func TestUOfTenBytes(t *testing.T) {
	wantU(t, times(9, 0xff, 0x01), top, 10, api.OK)
	wantU(t, times(9, 0xff, 0x00), 1<<63-1, 10, api.OK)
	wantU(t, times(9, 0x80, 0x01, 0x80), 1<<63, 10, api.OK)
	wantU(t, times(9, 0x80, 0x00), 0, 10, api.OK)
}

func TestUTooGreat(t *testing.T) {
	for last := 2; last < 128; last++ {
		wantU(t, times(9, 0x80, byte(last)), 0, 10, api.ErrLeb)
		wantU(t, times(9, 0xff, byte(last), 1, 2), 0, 10, api.ErrLeb)
	}
}

func TestUWithoutItsLastByte(t *testing.T) {
	for last := 128; last < 256; last++ {
		wantU(t, times(9, 0x80, byte(last), 0), 0, 10, api.ErrLeb)
	}
	wantU(t, times(10, 0x80), 0, 10, api.ErrLeb)
	wantU(t, times(11, 0x80, 0), 0, 10, api.ErrLeb)
	wantU(t, times(40, 0xff), 0, 10, api.ErrLeb)
}

func TestUShort(t *testing.T) {
	for i := range 10 {
		wantU(t, times(i, 0x80), 0, i, api.ErrShort)
		wantU(t, times(i, 0xff), 0, i, api.ErrShort)
	}
}

func TestULeavesWhatFollows(t *testing.T) {
	c := cursor.New([]byte{0x80, 0x01, 0x7f, 0x05, 0x80})
	for _, want := range []uint64{128, 127, 5} {
		if n := leb.U(c); n != want {
			t.Errorf("U = %d, want %d", n, want)
		}
	}
	wantCursor(t, "ahead of the end", c, 4, api.OK)
	if n := leb.U(c); n != 0 {
		t.Errorf("U at the end = %d", n)
	}
	wantCursor(t, "at the end", c, 5, api.ErrShort)
}

// P2.2

func TestSOfOneByte(t *testing.T) {
	for v := range 64 {
		wantS(t, []byte{byte(v)}, int64(v), 1, api.OK)
		wantS(t, []byte{byte(v) + 64, 0xff}, int64(v)-64, 1, api.OK)
	}
}

func TestSLowestFirst(t *testing.T) {
	wantS(t, []byte{0x7e}, -2, 1, api.OK)
	wantS(t, []byte{0x80, 0x01}, 128, 2, api.OK)
	wantS(t, []byte{0x80, 0x7f}, -128, 2, api.OK)
	wantS(t, []byte{0xc0, 0x00}, 64, 2, api.OK)
	wantS(t, []byte{0xbf, 0x7f}, -65, 2, api.OK)
	wantS(t, []byte{0xe5, 0x8e, 0x26, 0x00}, 624485, 3, api.OK)
	wantS(t, []byte{0x9b, 0xf1, 0x59, 0x00}, -624485, 3, api.OK)
	for i := range 9 {
		wantS(t, times(i, 0x80, 0x40, 0x55), -(1 << (7*i + 6)), i+1, api.OK)
		wantS(t, times(i, 0xff, 0x3f, 0x55), 1<<(7*i+6)-1, i+1, api.OK)
	}
}

func TestSWithMoreBytesThanNeeded(t *testing.T) {
	for i := range 10 {
		wantS(t, times(i, 0x80, 0), 0, i+1, api.OK)
		wantS(t, times(i, 0xff, 0x7f, 0), -1, i+1, api.OK)
	}
	wantS(t, []byte{0x83, 0x80, 0x00}, 3, 3, api.OK)
	wantS(t, []byte{0xfe, 0xff, 0x7f}, -2, 3, api.OK)
	wantS(t, append([]byte{0x85}, times(8, 0x80, 0)...), 5, 10, api.OK)
	wantS(t, append([]byte{0xfb}, times(8, 0xff, 0x7f)...), -5, 10, api.OK)
}

func TestSOfTenBytes(t *testing.T) {
	wantS(t, times(9, 0x80, 0x7f), math.MinInt64, 10, api.OK)
	wantS(t, append([]byte{0x81}, times(8, 0x80, 0x7f)...), math.MinInt64+1, 10, api.OK)
	wantS(t, times(9, 0xff, 0x00, 0x7f), math.MaxInt64, 10, api.OK)
	wantS(t, append([]byte{0xfe}, times(8, 0xff, 0x00)...), math.MaxInt64-1, 10, api.OK)
}

func TestSTooGreatOrTooSmall(t *testing.T) {
	wantS(t, times(9, 0x80, 0x01), 0, 10, api.ErrLeb) // 2^63
	wantS(t, times(9, 0xff, 0x7e), 0, 10, api.ErrLeb) // -2^63 - 1
	for last := 1; last < 127; last++ {
		wantS(t, times(9, 0x80, byte(last)), 0, 10, api.ErrLeb)
		wantS(t, times(9, 0xff, byte(last), 1, 2), 0, 10, api.ErrLeb)
	}
}

func TestSWithoutItsLastByte(t *testing.T) {
	for last := 128; last < 256; last++ {
		wantS(t, times(9, 0x80, byte(last), 0), 0, 10, api.ErrLeb)
		wantS(t, times(9, 0xff, byte(last), 0x7f), 0, 10, api.ErrLeb)
	}
	wantS(t, times(10, 0x80), 0, 10, api.ErrLeb)
	wantS(t, times(11, 0xff, 0x7f), 0, 10, api.ErrLeb)
	wantS(t, times(40, 0x80), 0, 10, api.ErrLeb)
}

func TestSShort(t *testing.T) {
	for i := range 10 {
		wantS(t, times(i, 0x80), 0, i, api.ErrShort)
		wantS(t, times(i, 0xff), 0, i, api.ErrShort)
	}
}

func TestSLeavesWhatFollows(t *testing.T) {
	c := cursor.New([]byte{0x80, 0x7f, 0x7f, 0x05, 0xff})
	for _, want := range []int64{-128, -1, 5} {
		if n := leb.S(c); n != want {
			t.Errorf("S = %d, want %d", n, want)
		}
	}
	wantCursor(t, "ahead of the end", c, 4, api.OK)
	if n := leb.S(c); n != 0 {
		t.Errorf("S at the end = %d", n)
	}
	wantCursor(t, "at the end", c, 5, api.ErrShort)
}

// Cursors that have refused, or that are nobody, tell 0 and stay as they are (P2.1, P2.2).

func TestRefusedCursors(t *testing.T) {
	for _, e := range []api.Errno{api.ErrArg, api.ErrShort, api.ErrForm, -1} {
		c := cursor.New([]byte{5, 6, 7})
		c.U8()
		c.Fail(e)
		if u, s := leb.U(c), leb.S(c); u != 0 || s != 0 {
			t.Errorf("of one that has refused: %d, %d", u, s)
		}
		wantCursor(t, "refused", c, 1, e)
	}
	for _, c := range []*cursor.Cursor{nil, new(cursor.Cursor)} {
		if u, s := leb.U(c), leb.S(c); u != 0 || s != 0 {
			t.Errorf("of nobody: %d, %d", u, s)
		}
		wantCursor(t, "nobody", c, 0, api.ErrNil)
	}
}

func TestFirstRefusalIsKept(t *testing.T) {
	for _, read := range []func(*cursor.Cursor){
		func(c *cursor.Cursor) { leb.U(c) },
		func(c *cursor.Cursor) { leb.S(c) },
	} {
		c := cursor.New(times(12, 0x80, 1))
		read(c)
		wantCursor(t, "too long", c, 10, api.ErrLeb)
		read(c)
		c.U64()
		wantCursor(t, "afterwards", c, 10, api.ErrLeb)
	}
}

// value tells what bytes mean, by chapter 2's words alone.
func value(b []byte, sign bool) *big.Int {
	n := new(big.Int)
	for i, v := range b {
		n.Add(n, new(big.Int).Lsh(big.NewInt(int64(v&0x7f)), uint(7*i)))
	}
	if sign && b[len(b)-1]&0x40 != 0 {
		n.Sub(n, new(big.Int).Lsh(big.NewInt(1), uint(7*len(b))))
	}
	return n
}

// TestReadingByTheWords reads many numbers of all lengths (P2.1, P2.2).
func TestReadingByTheWords(t *testing.T) {
	state := uint64(1)
	next := func() byte { // a short rule that tells bytes of all kinds
		state = state*6364136223846793005 + 1442695040888963407
		return byte(state >> 56)
	}
	ends := []byte{0x00, 0x01, 0x02, 0x3f, 0x40, 0x41, 0x7e, 0x7f}
	for round := range 4000 {
		length := round%10 + 1
		b := make([]byte, length)
		for i := range b {
			b[i] = next() | 0x80
		}
		if b[length-1] = next() & 0x7f; round%3 == 0 {
			b[length-1] = ends[round/3%len(ends)]
		}
		with := append(bytes.Clone(b), next(), next())

		if n := value(b, false); n.IsUint64() {
			wantU(t, with, n.Uint64(), length, api.OK)
		} else {
			wantU(t, with, 0, length, api.ErrLeb)
		}
		if n := value(b, true); n.IsInt64() {
			wantS(t, with, n.Int64(), length, api.OK)
		} else {
			wantS(t, with, 0, length, api.ErrLeb)
		}
	}
}

// P2.3

func wantPut(t *testing.T, what string, got []byte, want ...byte) {
	t.Helper()
	if !bytes.Equal(got, want) {
		t.Errorf("%s = %x, want %x", what, got, want)
	}
}

func TestPutU(t *testing.T) {
	wantPut(t, "PutU(0)", leb.PutU(nil, 0), 0)
	wantPut(t, "PutU(1)", leb.PutU(nil, 1), 1)
	wantPut(t, "PutU(127)", leb.PutU(nil, 127), 0x7f)
	wantPut(t, "PutU(128)", leb.PutU(nil, 128), 0x80, 0x01)
	wantPut(t, "PutU(16383)", leb.PutU(nil, 16383), 0xff, 0x7f)
	wantPut(t, "PutU(16384)", leb.PutU(nil, 16384), 0x80, 0x80, 0x01)
	wantPut(t, "PutU(624485)", leb.PutU(nil, 624485), 0xe5, 0x8e, 0x26)
	wantPut(t, "PutU(2^63)", leb.PutU(nil, 1<<63), times(9, 0x80, 1)...)
	wantPut(t, "PutU(2^63 - 1)", leb.PutU(nil, 1<<63-1), times(8, 0xff, 0x7f)...)
	wantPut(t, "PutU of the greatest", leb.PutU(nil, top), times(9, 0xff, 1)...)
}

func TestPutS(t *testing.T) {
	wantPut(t, "PutS(0)", leb.PutS(nil, 0), 0)
	wantPut(t, "PutS(-1)", leb.PutS(nil, -1), 0x7f)
	wantPut(t, "PutS(-2)", leb.PutS(nil, -2), 0x7e)
	wantPut(t, "PutS(2)", leb.PutS(nil, 2), 0x02)
	wantPut(t, "PutS(63)", leb.PutS(nil, 63), 0x3f)
	wantPut(t, "PutS(64)", leb.PutS(nil, 64), 0xc0, 0x00)
	wantPut(t, "PutS(-64)", leb.PutS(nil, -64), 0x40)
	wantPut(t, "PutS(-65)", leb.PutS(nil, -65), 0xbf, 0x7f)
	wantPut(t, "PutS(127)", leb.PutS(nil, 127), 0xff, 0x00)
	wantPut(t, "PutS(-128)", leb.PutS(nil, -128), 0x80, 0x7f)
	wantPut(t, "PutS(8191)", leb.PutS(nil, 8191), 0xff, 0x3f)
	wantPut(t, "PutS(8192)", leb.PutS(nil, 8192), 0x80, 0xc0, 0x00)
	wantPut(t, "PutS(2^62 - 1)", leb.PutS(nil, 1<<62-1), times(8, 0xff, 0x3f)...)
	wantPut(t, "PutS(2^62)", leb.PutS(nil, 1<<62), times(8, 0x80, 0xc0, 0x00)...)
	wantPut(t, "PutS(-2^62)", leb.PutS(nil, -1<<62), times(8, 0x80, 0x40)...)
	wantPut(t, "PutS(-2^62 - 1)", leb.PutS(nil, -1<<62-1), times(8, 0xff, 0xbf, 0x7f)...)
	wantPut(t, "PutS of the greatest", leb.PutS(nil, math.MaxInt64), times(9, 0xff, 0)...)
	wantPut(t, "PutS of the least", leb.PutS(nil, math.MinInt64), times(9, 0x80, 0x7f)...)
}

func TestSizes(t *testing.T) {
	for _, n := range unsigned() {
		want := 1
		for n>>(7*want) != 0 {
			want++
		}
		if got := leb.SizeU(n); got != want || len(leb.PutU(nil, n)) != want {
			t.Errorf("SizeU(%d) = %d, put as %x, want %d", n, got, leb.PutU(nil, n), want)
		}
	}
	for _, n := range signed() {
		want := 1
		for want < 10 && (n < -(1<<(7*want-1)) || n > 1<<(7*want-1)-1) {
			want++
		}
		if got := leb.SizeS(n); got != want || len(leb.PutS(nil, n)) != want {
			t.Errorf("SizeS(%d) = %d, put as %x, want %d", n, got, leb.PutS(nil, n), want)
		}
	}
}

func TestPutGoesBehind(t *testing.T) {
	for _, ahead := range [][]byte{nil, {}, {9}, {0xff, 0x80, 0x7f}} {
		wantPut(t, "PutU", leb.PutU(bytes.Clone(ahead), 624485), append(bytes.Clone(ahead), 0xe5, 0x8e, 0x26)...)
		wantPut(t, "PutS", leb.PutS(bytes.Clone(ahead), -65), append(bytes.Clone(ahead), 0xbf, 0x7f)...)
		wantPut(t, "PutWide", leb.PutWide(bytes.Clone(ahead), 3, 2), append(bytes.Clone(ahead), 0x83, 0x00)...)
	}
}

func TestPutLeavesWhatIsThere(t *testing.T) {
	for _, put := range []func([]byte) []byte{
		func(b []byte) []byte { return leb.PutU(b, 300) },
		func(b []byte) []byte { return leb.PutS(b, -300) },
		func(b []byte) []byte { return leb.PutWide(b, 3, 2) },
	} {
		room := []byte{1, 2, 3, 4, 5, 6}
		got := put(room[1:3])
		if len(got) != 4 || got[0] != 2 || got[1] != 3 {
			t.Errorf("put = %v", got)
		}
		if !bytes.Equal(room[:3], []byte{1, 2, 3}) || room[5] != 6 {
			t.Errorf("what was handed in is now %v", room)
		}
	}
}

// P2.4

func TestPutWide(t *testing.T) {
	wantPut(t, "PutWide(3, 2)", leb.PutWide(nil, 3, 2), 0x83, 0x00)
	wantPut(t, "PutWide(0, 1)", leb.PutWide(nil, 0, 1), 0x00)
	wantPut(t, "PutWide(0, 4)", leb.PutWide(nil, 0, 4), 0x80, 0x80, 0x80, 0x00)
	wantPut(t, "PutWide(128, 3)", leb.PutWide(nil, 128, 3), 0x80, 0x81, 0x00)
	wantPut(t, "PutWide(1, 10)", leb.PutWide(nil, 1, 10), append([]byte{0x81}, times(8, 0x80, 0)...)...)
	wantPut(t, "PutWide of the greatest", leb.PutWide(nil, top, 10), times(9, 0xff, 1)...)
}

func TestPutWideSizes(t *testing.T) {
	// The sizes that would make far too many bytes come last.
	for _, size := range []int{1, 2, 3, 4, 5, 6, 7, 8, 9, 10, 11, 100, 0, -1, math.MinInt, math.MaxInt} {
		for _, n := range unsigned() {
			want := min(max(size, leb.SizeU(n)), 10)
			b := leb.PutWide(nil, n, size)
			if len(b) != want {
				t.Fatalf("PutWide(%d, %d) = %x, want %d bytes", n, size, b, want)
			}
			for i, v := range b {
				if last := i == want-1; last != (v < 128) {
					t.Errorf("PutWide(%d, %d) = %x", n, size, b)
				}
			}
			wantU(t, append(b, 0xff), n, want, api.OK)
		}
	}
}

func TestPutWideIsPutUWhereItNeedsNoMore(t *testing.T) {
	for _, n := range unsigned() {
		for _, size := range []int{leb.SizeU(n), 0, math.MinInt} {
			wantPut(t, "PutWide", leb.PutWide(nil, n, size), leb.PutU(nil, n)...)
		}
	}
}

// P2.5

// behind are bytes that may stand behind a number.
func behind() [][]byte {
	return [][]byte{nil, {0x00}, {0x7f}, {0x80}, {0xff}, times(12, 0x80), times(12, 0xff)}
}

func TestWhatIsPutIsRead(t *testing.T) {
	for _, after := range behind() {
		for _, n := range unsigned() {
			wantU(t, append(leb.PutU(nil, n), after...), n, leb.SizeU(n), api.OK)
		}
		for _, n := range signed() {
			wantS(t, append(leb.PutS(nil, n), after...), n, leb.SizeS(n), api.OK)
		}
	}
}

// TestWhatIsReadPutAnew puts again what was read from one byte up to three of all kinds, and from long ones.
func TestWhatIsReadPutAnew(t *testing.T) {
	var all [][]byte
	for v := range 1 << 14 {
		all = append(all, []byte{byte(v) &^ 0x80}, []byte{byte(v) | 0x80, byte(v>>7) & 0x7f}, []byte{byte(v) | 0x80, byte(v>>7) | 0x80, byte(v>>3) & 0x7f})
	}
	for size := 1; size <= 10; size++ {
		for _, n := range unsigned() {
			all = append(all, leb.PutWide(nil, n, size))
		}
	}
	for _, b := range all {
		c := cursor.New(b)
		if n := leb.U(c); c.Err() == api.OK && len(leb.PutU(nil, n)) > c.At() {
			t.Fatalf("%x is put anew as %x", b, leb.PutU(nil, n))
		}
		c = cursor.New(b)
		if n := leb.S(c); c.Err() == api.OK && len(leb.PutS(nil, n)) > c.At() {
			t.Fatalf("%x is put anew as %x", b, leb.PutS(nil, n))
		}
	}
}
