package ops_test

import (
	"bytes"
	"fmt"
	"math"
	"slices"
	"strconv"
	"strings"
	"testing"

	"sindri/api"
	"sindri/ops"
)

const (
	top       = 1<<64 - 1
	half      = 1 << 63
	most      = 60    // the most operations of an expression
	mostBytes = 65536 // the most bytes of Data
)

// rows are the chapter's: a shape's codes each.
var rows = []string{
	"6, 18 to 20, 22 to 34, 36 to 39, 41 to 46, 48 to 111, 150, 151, 155, 156, 159",
	"3",
	"8, 10, 12, 14",
	"9, 11, 13, 15",
	"16, 35, 144, 147, 161, 162",
	"17, 112 to 143, 145",
	"21, 148, 149",
	"40, 47",
	"146",
	"157",
	"158, 163",
}

// codes are those of a shape, rising.
func codes(shape int) []int {
	var l []int
	for part := range strings.SplitSeq(rows[shape-1], ", ") {
		first, last, run := strings.Cut(part, " to ")
		if !run {
			last = first
		}
		n, _ := strconv.Atoi(first)
		m, _ := strconv.Atoi(last)
		for ; n <= m; n++ {
			l = append(l, n)
		}
	}
	return l
}

// all are the codes of all shapes.
func all() []int {
	var l []int
	for i := range rows {
		l = append(l, codes(i+1)...)
	}
	return l
}

// shapes are the shapes by their codes.
var shapes = func() map[int]int {
	m := map[int]int{}
	for i := range rows {
		for _, code := range codes(i + 1) {
			m[code] = i + 1
		}
	}
	return m
}()

// shapeOf is a code's shape by the rows; 0 of one that stands in none.
func shapeOf(code int) int { return shapes[code] }

// sizeOf is how many bytes the number of a code has, of the shapes 2, 3, 4 and 7.
func sizeOf(code int) int {
	sizes := map[int]int{3: 8, 8: 1, 9: 1, 10: 2, 11: 2, 12: 4, 13: 4, 14: 8, 15: 8, 21: 1, 148: 1, 149: 1}
	return sizes[code]
}

// fixed is a number of so many bytes.
func fixed(n uint64, size int) []byte {
	b := make([]byte, size)
	for i := range b {
		b[i] = byte(n)
		n /= 256
	}
	return b
}

// u is a number of 7-bit bytes, the fewest.
func u(n uint64) []byte {
	var b []byte
	for ; n >= 128; n /= 128 {
		b = append(b, byte(n%128)+128)
	}
	return append(b, byte(n))
}

// s is a number of 7-bit bytes, the fewest, that may be below 0.
func s(n int64) []byte {
	var b []byte
	for ; n < -64 || n > 63; n >>= 7 {
		b = append(b, byte(n&127)+128)
	}
	return append(b, byte(n&127))
}

// long is a number's bytes with noughts above it, so many of them in all.
func long(b []byte, size int) []byte {
	b = bytes.Clone(b)
	for len(b) < size {
		b[len(b)-1] += 128
		b = append(b, 0)
	}
	return b
}

// tooLong is as many bytes as a number may have, none of which ends it.
func tooLong() []byte { return bytes.Repeat([]byte{128}, 10) }

// cat is parts one behind the other.
func cat(parts ...[]byte) []byte { return slices.Concat(parts...) }

// neg is a number below 0 as an operand.
func neg(n int64) uint64 { return uint64(-n) }

// jump is the bytes of a jump.
func jump(code byte, way int) []byte { return cat([]byte{code}, fixed(uint64(way), 2)) }

// piece is an operation, and its bytes.
type piece struct {
	o api.Op
	b []byte
}

// edges are operations of all codes but jumps, with their operands' edges.
func edges() []piece {
	var l []piece
	add := func(o api.Op, operands ...[]byte) {
		l = append(l, piece{o, cat([]byte{byte(o.Code)}, cat(operands...))})
	}
	unsigned := []uint64{0, 1, 127, 128, 255, 256, 624485, 1<<32 - 1, 1 << 32, half - 1, half, top}
	less := []int64{0, 1, -1, 63, 64, -64, -65, 127, -128, 8191, 8192, -8193, math.MaxInt64, math.MinInt64}
	for _, code := range all() {
		size := sizeOf(code)
		switch shapeOf(code) {
		case 1:
			add(api.Op{Code: code})
		case 2, 3, 7:
			last := uint64(top) >> (64 - 8*size)
			for _, n := range []uint64{0, 1, 127, 128, last / 2, last/2 + 1, last - 1, last, 0x0807060504030201 & last} {
				if n <= last {
					add(api.Op{Code: code, A: n}, fixed(n, size))
				}
			}
		case 4:
			last := int64(uint64(top) >> (65 - 8*size))
			for _, n := range []int64{0, 1, -1, 100, -100, last - 1, last, -last, -last - 1} {
				add(api.Op{Code: code, A: uint64(n)}, fixed(uint64(n), size))
			}
		case 5:
			for _, n := range unsigned {
				add(api.Op{Code: code, A: n}, u(n))
			}
		case 6:
			for _, n := range less {
				add(api.Op{Code: code, A: uint64(n)}, s(n))
			}
		case 9:
			for i, n := range less {
				m := unsigned[i%len(unsigned)]
				add(api.Op{Code: code, A: m, B: uint64(n)}, u(m), s(n))
			}
		case 10:
			for i, n := range unsigned {
				m := unsigned[(i+5)%len(unsigned)]
				add(api.Op{Code: code, A: n, B: m}, u(n), u(m))
			}
		case 11:
			for _, size := range []int{0, 1, 3, 127, 128, 300} {
				b := bytes.Repeat([]byte{150, 7}, size)[:size]
				add(api.Op{Code: code, Data: b}, u(uint64(size)), b)
			}
		}
	}
	return l
}

// list is the operations of pieces.
func list(l ...piece) []api.Op {
	var answer []api.Op
	for _, p := range l {
		answer = append(answer, p.o)
	}
	return answer
}

// lay is the bytes of pieces.
func lay(l ...piece) []byte {
	var b []byte
	for _, p := range l {
		b = append(b, p.b...)
	}
	return b
}

// nop is an operation without an operand; nops are so many of them.
func nop() piece { return piece{api.Op{Code: 150}, []byte{150}} }

func nops(count int) []piece { return slices.Repeat([]piece{nop()}, count) }

// data is an operation with so many bytes in Data.
func data(size int) piece {
	b := bytes.Repeat([]byte{9}, size)
	return piece{api.Op{Code: 158, Data: b}, cat([]byte{158}, u(uint64(size)), b)}
}

// wide is an operation of so many bytes.
func wide(size int) piece {
	for n := size; n >= 0; n-- {
		if p := data(n); len(p.b) == size {
			return p
		}
	}
	panic("no operation has so many bytes")
}

// goes is a jump to a place, the way of which is so many bytes.
func goes(place, way int) piece {
	return piece{api.Op{Code: 40, A: uint64(place)}, jump(40, way)}
}

// same tells whether operations are the same; Data of no byte may be nil or empty.
func same(a, b []api.Op) bool {
	return slices.EqualFunc(a, b, func(x, y api.Op) bool {
		return x.Code == y.Code && x.A == y.A && x.B == y.B && string(x.Data) == string(y.Data)
	})
}

// short tells so much of bytes as can be read.
func short(b []byte) string { return fmt.Sprintf("%.60x of %d", b, len(b)) }

// show tells so much of operations as can be read.
func show(l []api.Op) string {
	return fmt.Sprintf("%d of %.600s", len(l), fmt.Sprintf("%+v", l[:min(len(l), 6)]))
}

// room is a list with others in the room behind it.
func room[T any](l []T, others ...T) []T { return slices.Concat(l, others)[:len(l)] }

// whole is a copy of a list with its spare room.
func whole[T any](l []T) []T { return slices.Clone(l[:cap(l)]) }

// roomy is operations with others in the room behind them, and with bytes in that behind
// each Data.
func roomy(l []api.Op) []api.Op {
	l = room(slices.Clone(l), api.Op{Code: 150}, api.Op{Code: 161, A: 77})
	for i := range l {
		l[i].Data = room(l[i].Data, 1, 2, 3)
	}
	return l
}

// tell tells operations with their spare room, and with that of each Data.
func tell(l []api.Op) string {
	var b strings.Builder
	for _, o := range l[:cap(l)] {
		fmt.Fprintln(&b, o.Code, o.A, o.B, len(o.Data), string(o.Data[:cap(o.Data)]))
	}
	return b.String()
}

// wipe overwrites all of the memory of operations, their spare room, too.
func wipe(l []api.Op) {
	for _, o := range l {
		b := o.Data[:cap(o.Data)]
		for i := range b {
			b[i] = 0xbd
		}
	}
	l = l[:cap(l)]
	for i := range l {
		l[i] = api.Op{Code: -5, A: 5, B: 5, Data: []byte("bad")}
	}
}

// wipeEach overwrites operations one by one, and looks that those behind stay.
func wipeEach(t *testing.T, what string, l, want []api.Op) {
	t.Helper()
	for i := range l {
		wipe(l[i : i+1 : i+1])
		if n := min(i+2, len(l)); !same(l[i+1:n], want[i+1:n]) {
			t.Errorf("%s: operations %d and %d share memory", what, i, i+1)
		}
	}
	wipe(l)
}

// wantTake looks at which operations are taken, that what is handed in is left, and that
// what is answered is new memory.
func wantTake(t *testing.T, what string, b []byte, want []api.Op) {
	t.Helper()
	for _, b := range [][]byte{b, room(b, 150, 3, 0)} {
		was := whole(b)
		l, e := ops.Take(b)
		if !same(l, want) || e != api.OK {
			t.Errorf("%s: Take(%s) = %s, %d, want %s, 0", what, short(b), show(l), e, show(want))
			return
		}
		wipeEach(t, what, l, want)
		if !bytes.Equal(whole(b), was) {
			t.Errorf("%s: Take changes its bytes", what)
		}
		if l, e := ops.Take(b); !same(l, want) || e != api.OK {
			t.Errorf("%s: Take, once more, = %s, %d, want %s, 0", what, show(l), e, show(want))
		}
	}
}

// wantRefused looks at what bytes are refused with, and that they are left.
func wantRefused(t *testing.T, what string, b []byte, want api.Errno) {
	t.Helper()
	for _, b := range [][]byte{b, room(b, 0, 0, 150, 1, 1, 1, 1, 1, 1, 1, 1, 1)} {
		was := whole(b)
		if l, e := ops.Take(b); len(l) != 0 || e != want {
			t.Errorf("%s: Take(%s) = %s, %d, want none, %d", what, short(b), show(l), e, want)
		}
		if !bytes.Equal(whole(b), was) {
			t.Errorf("%s: Take changes its bytes", what)
		}
	}
}

// wantPut looks that operations may be, as what they are put, that they are left, and that
// the bytes are new memory.
func wantPut(t *testing.T, what string, l []api.Op, want []byte) {
	t.Helper()
	for _, l := range [][]api.Op{l, roomy(l)} {
		was := tell(l)
		b, e := ops.Put(l)
		if !bytes.Equal(b, want) || e != api.OK {
			t.Errorf("%s: Put(%s) = %s, %d, want %s, 0", what, show(l), short(b), e, short(want))
			return
		}
		if !ops.Right(l) {
			t.Errorf("%s: Right(%s) = false", what, show(l))
		}
		clear(b[:cap(b)])
		if tell(l) != was {
			t.Errorf("%s: what was handed in is changed", what)
		}
		if b, e := ops.Put(l); !bytes.Equal(b, want) || e != api.OK {
			t.Errorf("%s: Put, once more, = %s, %d, want %s, 0", what, short(b), e, short(want))
		}
	}
}

// wantWrong looks that operations may not be, and that they are left.
func wantWrong(t *testing.T, what string, l []api.Op) {
	t.Helper()
	for _, l := range [][]api.Op{l, roomy(l)} {
		was := tell(l)
		if b, e := ops.Put(l); len(b) != 0 || e != api.ErrArg {
			t.Errorf("%s: Put(%s) = %s, %d, want none, 2", what, show(l), short(b), e)
		}
		if ops.Right(l) {
			t.Errorf("%s: Right(%s) = true", what, show(l))
		}
		if tell(l) != was {
			t.Errorf("%s: what was handed in is changed", what)
		}
	}
}

// wantBoth looks that operations are put as bytes, and that those are taken as them.
func wantBoth(t *testing.T, what string, l []api.Op, b []byte) {
	t.Helper()
	wantPut(t, what, l, b)
	wantTake(t, what, b, l)
}

// P18.1

func TestShapeOfEachCode(t *testing.T) {
	for code := -300; code <= 1100; code++ {
		if got, want := ops.Shape(code), shapeOf(code); got != want {
			t.Errorf("Shape(%d) = %d, want %d", code, got, want)
		}
	}
	for _, code := range []int{math.MinInt, math.MinInt + 3, -1 << 32, 1 << 32, 1<<32 + 3, 1<<16 + 150, math.MaxInt - 1, math.MaxInt} {
		if got := ops.Shape(code); got != 0 {
			t.Errorf("Shape(%d) = %d, want 0", code, got)
		}
	}
}

// The rows themselves: so many codes, none of them twice.
func TestRows(t *testing.T) {
	l := all()
	slices.Sort(l)
	if n := len(slices.Compact(l)); n != 154 || len(l) != 154 || shapeOf(20) != 1 || shapeOf(21) != 7 || shapeOf(163) != 11 || shapeOf(5) != 0 {
		t.Errorf("the rows have %d codes: %v", n, l)
	}
}

func TestExample(t *testing.T) {
	l := []api.Op{{Code: 48}, {Code: 40, A: 2}, {Code: 150}}
	wantBoth(t, "the example", l, []byte{0x30, 0x28, 0, 0, 0x96})
}
