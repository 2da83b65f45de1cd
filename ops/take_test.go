package ops_test

import (
	"bytes"
	"fmt"
	"testing"

	"sindri/api"
)

// P18.2

func TestTakeNothing(t *testing.T) {
	wantTake(t, "nil", nil, nil)
	wantTake(t, "no byte", []byte{}, nil)
}

func TestTakeEachOperation(t *testing.T) {
	for _, p := range edges() {
		what := fmt.Sprintf("code %d, %d, %d, %d bytes", p.o.Code, p.o.A, p.o.B, len(p.o.Data))
		wantTake(t, what, p.b, list(p))
		wantTake(t, what+", between others", lay(nop(), p, data(2), p), list(nop(), p, data(2), p))
	}
}

func TestTakeNumbersAsTheyAreWritten(t *testing.T) {
	for _, c := range []struct {
		b []byte
		o api.Op
	}{
		{cat([]byte{16}, long(u(5), 3)), api.Op{Code: 16, A: 5}},
		{cat([]byte{147}, long(u(5), 10)), api.Op{Code: 147, A: 5}},
		{cat([]byte{17}, long(s(70), 7)), api.Op{Code: 17, A: 70}},
		{[]byte{112, 0xff, 0xff, 0x7f}, api.Op{Code: 112, A: top}},
		{[]byte{143, 0x80, 0xff, 0x7f}, api.Op{Code: 143, A: neg(128)}},
		{cat([]byte{146}, long(u(6), 9), []byte{0xfe, 0xff, 0xff, 0x7f}), api.Op{Code: 146, A: 6, B: neg(2)}},
		{cat([]byte{157}, long(u(300), 5), long(u(0), 10)), api.Op{Code: 157, A: 300}},
		{cat([]byte{158}, long(u(2), 10), []byte{7, 8}), api.Op{Code: 158, Data: []byte{7, 8}}},
		{cat([]byte{163}, long(u(0), 2)), api.Op{Code: 163}},
		{[]byte{9, 0x80}, api.Op{Code: 9, A: neg(128)}},
		{[]byte{11, 0, 0x80}, api.Op{Code: 11, A: neg(32768)}},
		{[]byte{13, 0, 0, 0, 0x80}, api.Op{Code: 13, A: neg(1 << 31)}},
		{[]byte{15, 0, 0, 0, 0, 0, 0, 0, 0x80}, api.Op{Code: 15, A: half}},
		{[]byte{8, 0x80}, api.Op{Code: 8, A: 128}},
		{[]byte{10, 0, 0x80}, api.Op{Code: 10, A: 32768}},
		{[]byte{12, 1, 2, 3, 0x84}, api.Op{Code: 12, A: 0x84030201}},
	} {
		wantTake(t, "alone", c.b, []api.Op{c.o})
		wantTake(t, "ahead of others", cat(c.b, lay(data(1), nop())), append([]api.Op{c.o}, list(data(1), nop())...))
	}
}

// An expression that ends within an operation is refused, and else it is a shorter one.
func TestTakeEndsTooSoon(t *testing.T) {
	for _, p := range append(edges(), piece{o: api.Op{Code: 47, A: 0}, b: jump(47, -3)}) {
		for n := 1; n < len(p.b); n++ {
			what := fmt.Sprintf("code %d, %d, %d, %d bytes of %d", p.o.Code, p.o.A, p.o.B, n, len(p.b))
			wantRefused(t, what, p.b[:n], api.ErrShort)
			if n < 12 {
				wantRefused(t, what+", behind others", cat(lay(data(3), nop()), p.b[:n]), api.ErrShort)
			}
		}
	}
}

func TestTakeHowMany(t *testing.T) {
	for _, count := range []int{1, most - 1, most} {
		wantTake(t, fmt.Sprint(count), lay(nops(count)...), list(nops(count)...))
	}
	full := lay(nops(most)...)
	for _, p := range edges() {
		if len(p.b) < 12 { // whatever would be wrong of the next one
			wantRefused(t, "one more", cat(full, p.b), api.ErrBig)
			wantRefused(t, "one more, that ends too soon", cat(full, p.b[:1]), api.ErrBig)
		}
	}
	for _, b := range [][]byte{{0}, {255}, {40}, {40, 0, 0}, cat([]byte{16}, tooLong()), full, make([]byte, 300)} {
		wantRefused(t, "more", cat(full, b), api.ErrBig)
	}
	wantRefused(t, "more, behind a jump to nowhere", cat(jump(40, 1000), full), api.ErrBig)
	wantRefused(t, "a last one that ends too soon", cat(full[1:], []byte{3, 1}), api.ErrShort)
	wantRefused(t, "a last one of shape 0", cat(full[1:], []byte{7}), api.ErrOp)
}

func TestTakeCodesOfNoShape(t *testing.T) {
	for code := range 256 {
		if shapeOf(code) > 0 {
			continue
		}
		b := []byte{byte(code)}
		wantRefused(t, fmt.Sprint("first, ", code), b, api.ErrOp)
		wantRefused(t, fmt.Sprint("first, with others behind, ", code), cat(b, lay(data(4), nop())), api.ErrOp)
		wantRefused(t, fmt.Sprint("later, ", code), cat(lay(nop(), data(4)), b), api.ErrOp)
		wantRefused(t, fmt.Sprint("ahead of what ends too soon, ", code), cat(b, []byte{3}), api.ErrOp)
		wantRefused(t, fmt.Sprint("behind what is too much, ", code), cat([]byte{158}, u(mostBytes+1), b), api.ErrBig)
		wantRefused(t, fmt.Sprint("behind a number that is too long, ", code), cat([]byte{16}, tooLong(), b), api.ErrLeb)
	}
}

func TestTakeDataOfManyBytes(t *testing.T) {
	for _, code := range []byte{158, 163} {
		for _, size := range []int{mostBytes - 1, mostBytes} {
			b := bytes.Repeat([]byte{code, 1, 2}, size)[:size]
			l := []api.Op{{Code: int(code), Data: b}}
			wantTake(t, "as much as may be", cat([]byte{code}, u(uint64(size)), b), l)
			wantTake(t, "as much as may be, and another one", cat([]byte{code}, u(uint64(size)), b, []byte{150}), append(l, api.Op{Code: 150}))
			wantRefused(t, "as much as may be, but for a byte", cat([]byte{code}, u(uint64(size)), b[1:]), api.ErrShort)
			wantRefused(t, "as much as may be, of which nothing is there", cat([]byte{code}, u(uint64(size))), api.ErrShort)
		}
		for _, size := range []uint64{mostBytes + 1, mostBytes + 2, 1<<31 - 1, 1 << 32, 1<<32 + 1, half - 1, half, top - 1, top} {
			b := cat([]byte{code}, u(size))
			wantRefused(t, "too much, of which nothing is there", b, api.ErrBig)
			wantRefused(t, "too much, of which something is there", cat(b, make([]byte, 100)), api.ErrBig)
		}
		b := cat([]byte{code}, u(mostBytes+1), make([]byte, mostBytes+1))
		wantRefused(t, "too much, and all of it is there", b, api.ErrBig)
		wantRefused(t, "a size with too many bytes", cat([]byte{code}, tooLong()), api.ErrLeb)
		wantRefused(t, "a size of 2 to the 64", cat([]byte{code}, bytes.Repeat([]byte{128}, 9), []byte{2}), api.ErrLeb)
		wantRefused(t, "a size that ends too soon", []byte{code, 255, 255}, api.ErrShort)
	}
	three := lay(data(mostBytes), data(mostBytes), data(mostBytes))
	wantTake(t, "much, thrice", three, list(data(mostBytes), data(mostBytes), data(mostBytes)))
}

// What chapter 2 refuses, of each operand that it reads.
func TestTakeNumbersThatAreTooLong(t *testing.T) {
	above := cat(bytes.Repeat([]byte{255}, 9), []byte{2})  // a U: 2 to the 64, and more
	beyond := cat(bytes.Repeat([]byte{128}, 9), []byte{1}) // an S: 2 to the 63
	under := cat(bytes.Repeat([]byte{255}, 9), []byte{0x7e})
	for _, c := range []struct {
		ahead []byte
		wrong [][]byte
	}{
		{[]byte{16}, [][]byte{tooLong(), above}},
		{[]byte{35}, [][]byte{tooLong(), above}},
		{[]byte{144}, [][]byte{tooLong(), above}},
		{[]byte{147}, [][]byte{tooLong(), above}},
		{[]byte{161}, [][]byte{tooLong(), above}},
		{[]byte{162}, [][]byte{tooLong(), above}},
		{[]byte{17}, [][]byte{tooLong(), beyond, under}},
		{[]byte{112}, [][]byte{tooLong(), beyond, under}},
		{[]byte{143}, [][]byte{tooLong(), beyond, under}},
		{[]byte{145}, [][]byte{tooLong(), beyond, under}},
		{[]byte{146}, [][]byte{tooLong(), above}},
		{[]byte{146, 5}, [][]byte{tooLong(), beyond, under}},
		{[]byte{157}, [][]byte{tooLong(), above}},
		{[]byte{157, 5}, [][]byte{tooLong(), above}},
	} {
		for _, wrong := range c.wrong {
			what := fmt.Sprintf("%x behind %d", wrong, c.ahead)
			wantRefused(t, what, cat(c.ahead, wrong), api.ErrLeb)
			wantRefused(t, what+", and others behind", cat(c.ahead, wrong, []byte{0, 3, 1}), api.ErrLeb)
			wantRefused(t, what+", behind others", cat(lay(nop(), data(9)), c.ahead, wrong), api.ErrLeb)
			wantRefused(t, what+", but for a byte", cat(c.ahead, wrong[:9]), api.ErrShort)
		}
	}
	wantRefused(t, "the first operand ahead of the second", cat([]byte{146}, tooLong(), []byte{128}), api.ErrLeb)
	wantRefused(t, "the second operand ends too soon", cat([]byte{157}, long(u(1), 10), []byte{128}), api.ErrShort)
}

func TestTakeJumps(t *testing.T) {
	for _, c := range []struct {
		what string
		b    []byte
		l    []api.Op
	}{
		{"to the place behind it, the end", jump(40, 0), []api.Op{{Code: 40, A: 1}}},
		{"to itself", jump(47, -3), []api.Op{{Code: 47}}},
		{"to the one behind it", cat(jump(40, 0), []byte{150}), []api.Op{{Code: 40, A: 1}, {Code: 150}}},
		{"to the end", cat(jump(40, 1), []byte{150}), []api.Op{{Code: 40, A: 2}, {Code: 150}}},
		{"to the first one", cat([]byte{150}, jump(40, -4)), []api.Op{{Code: 150}, {Code: 40}}},
		{"over bytes", cat(jump(40, 5), lay(data(3), nop())), []api.Op{{Code: 40, A: 2}, data(3).o, {Code: 150}}},
		{"back over bytes", cat(lay(nop(), data(3)), jump(47, -8)), []api.Op{{Code: 150}, data(3).o, {Code: 47, A: 1}}},
		{"over one another", cat(jump(40, 3), jump(47, -6), jump(40, -6)), []api.Op{{Code: 40, A: 2}, {Code: 47}, {Code: 40, A: 1}}},
		{"over a number that is longer than need be", cat(jump(40, 6), []byte{16}, long(u(1), 5), []byte{150}), []api.Op{{Code: 40, A: 2}, {Code: 16, A: 1}, {Code: 150}}},
		{"as far as may be", cat(jump(47, 32767), wide(32767).b), list(piece{o: api.Op{Code: 47, A: 2}}, wide(32767))},
		{"back as far as may be", cat(wide(32765).b, jump(40, -32768)), list(wide(32765), piece{o: api.Op{Code: 40}})},
	} {
		wantTake(t, c.what, c.b, c.l)
	}
	full := cat(lay(nops(most-1)...), jump(40, -most-2))
	wantTake(t, "back over all", full, append(list(nops(most-1)...), api.Op{Code: 40}))
}

func TestTakeJumpsToNowhere(t *testing.T) {
	for _, code := range []byte{40, 47} {
		for _, way := range []int{-32768, -1000, -4, -2, -1, 1, 2, 1000, 32767} {
			wantRefused(t, fmt.Sprint("alone, ", way), jump(code, way), api.ErrOp)
		}
		b := cat(lay(nop(), data(3)), []byte{10, 1, 2, 150}, jump(code, 0), []byte{150, 10, 150, 150, 150})
		begins := map[int]uint64{0: 0, 1: 1, 6: 2, 9: 3, 10: 4, 13: 5, 14: 6, 17: 7, 18: 8}
		for to := -20; to < 40; to++ {
			way := to - 13
			b[11], b[12] = byte(way), byte(way>>8)
			what := fmt.Sprint("to ", to)
			if place, ok := begins[to]; ok {
				want := list(nop(), data(3), piece{o: api.Op{Code: 10, A: 513}}, nop(), piece{o: api.Op{Code: int(code), A: place}}, nop(), piece{o: api.Op{Code: 10, A: 38550}}, nop())
				wantTake(t, what, b, want)
			} else {
				wantRefused(t, what, b, api.ErrOp)
			}
		}
	}
	wantRefused(t, "back, where 65536 bytes more would be the end", cat(jump(40, -1), wide(mostBytes-1).b), api.ErrOp)
	wantRefused(t, "the second one", cat(jump(40, 0), jump(40, 1)), api.ErrOp)
	wantRefused(t, "the first one of two", cat(jump(40, 1), jump(40, 0)), api.ErrOp)
}

// A jump's refusal is told behind all others, those of later operations, too.
func TestTakeRefusesAJumpLast(t *testing.T) {
	nowhere := jump(40, 99)
	for _, c := range []struct {
		b []byte
		e api.Errno
	}{
		{[]byte{3, 1}, api.ErrShort},
		{[]byte{40, 0}, api.ErrShort},
		{cat([]byte{16}, tooLong()), api.ErrLeb},
		{cat([]byte{158}, u(mostBytes+1)), api.ErrBig},
		{bytes.Repeat([]byte{150}, most), api.ErrBig},
		{[]byte{150, 0}, api.ErrOp},
	} {
		wantRefused(t, "behind a jump to nowhere", cat(nowhere, c.b), c.e)
		wantRefused(t, "behind two jumps to nowhere", cat(nowhere, nowhere, c.b), c.e)
	}
	wantRefused(t, "alone", nowhere, api.ErrOp)
}
