package ops_test

import (
	"bytes"
	"fmt"
	"math"
	"slices"
	"testing"

	"sindri/api"
	"sindri/ops"
)

// P18.3

func TestPutNothing(t *testing.T) {
	wantPut(t, "nil", nil, nil)
	wantPut(t, "no operation", []api.Op{}, nil)
}

func TestPutEachOperation(t *testing.T) {
	for _, p := range edges() {
		what := fmt.Sprintf("code %d, %d, %d, %d bytes", p.o.Code, p.o.A, p.o.B, len(p.o.Data))
		wantPut(t, what, list(p), p.b)
		wantPut(t, what+", between others", list(nop(), p, data(2), p), lay(nop(), p, data(2), p))
		p.o.Data = append([]byte{}, p.o.Data...)
		wantPut(t, what+", Data not nil", list(p), p.b)
	}
}

func TestPutHowMany(t *testing.T) {
	for _, count := range []int{1, 2, most - 1, most} {
		wantPut(t, fmt.Sprint(count), list(nops(count)...), lay(nops(count)...))
	}
	for _, count := range []int{most + 1, most + 2, 1000} {
		wantWrong(t, fmt.Sprint(count), list(nops(count)...))
	}
}

func TestPutCodesOfNoShape(t *testing.T) {
	for code := -300; code < 1100; code++ {
		if shapeOf(code) == 0 {
			wantWrong(t, fmt.Sprint("code ", code), []api.Op{{Code: code}})
		}
	}
	for _, code := range []int{math.MinInt, -256 + 150, 256 + 150, 1<<16 + 150, 1<<32 + 150, math.MaxInt} {
		wantWrong(t, fmt.Sprint("code ", code), []api.Op{{Code: code}})
	}
	for at := range 4 {
		l := list(nops(4)...)
		l[at].Code = 0
		wantWrong(t, fmt.Sprint("code 0 at ", at), l)
	}
}

// What an operation's shape does not have must be zero.
func TestPutWhatAShapeDoesNotHave(t *testing.T) {
	for _, p := range append(edges(), piece{api.Op{Code: 40}, jump(40, -3)}, piece{api.Op{Code: 47, A: 1}, jump(47, 0)}) {
		shape := shapeOf(p.o.Code)
		what := fmt.Sprintf("code %d, %d, %d", p.o.Code, p.o.A, p.o.B)
		for _, n := range []uint64{1, 255, 1 << 32, half, top} {
			x := p.o
			x.A = n
			if shape == 1 || shape == 11 {
				wantWrong(t, what+fmt.Sprint(" with A ", n), []api.Op{x})
				wantWrong(t, what+fmt.Sprint(" with A, behind others ", n), append(list(nop(), data(1)), x))
			}
			x = p.o
			x.B = n
			if shape != 9 && shape != 10 {
				wantWrong(t, what+fmt.Sprint(" with B ", n), []api.Op{x})
				wantWrong(t, what+fmt.Sprint(" with B, ahead of others ", n), append([]api.Op{x}, list(nop(), data(1))...))
			}
		}
		if shape != 11 {
			for _, size := range []int{1, 2, 300} {
				x := p.o
				x.Data = make([]byte, size)
				wantWrong(t, what+fmt.Sprint(" with Data of ", size), []api.Op{x})
			}
		}
	}
}

// Numbers one behind the last that fits its bytes, and such that would fit with less of
// them looked at.
func TestPutNumbersThatDoNotFit(t *testing.T) {
	for _, code := range all() {
		var wrong []uint64
		size := sizeOf(code)
		switch shapeOf(code) {
		case 3, 7:
			if size < 8 {
				last := uint64(1)<<(8*size) - 1
				wrong = []uint64{last + 1, last + 2, 1 << 32, 1<<32 + last, half, half - 1, top - 1, top, top - last, neg(1), neg(128), neg(129)}
			}
		case 4:
			if size < 8 {
				last := uint64(1)<<(8*size-1) - 1
				wrong = []uint64{last + 1, last + 2, 2*last + 1, 2*last + 2, 1 << 32, 1<<32 + last, half, half - 1, half + last, -last - 2, -last - 3, -(2 * last) - 2}
			}
		}
		for _, n := range wrong {
			what := fmt.Sprintf("code %d, %d", code, n)
			wantWrong(t, what, []api.Op{{Code: code, A: n}})
			wantWrong(t, what+", behind others", append(list(nop(), data(1)), api.Op{Code: code, A: n}))
		}
	}
}

func TestPutDataOfManyBytes(t *testing.T) {
	for _, code := range []int{158, 163} {
		for _, size := range []int{mostBytes - 1, mostBytes} {
			b := bytes.Repeat([]byte{1, 2, 3}, size)[:size]
			wantPut(t, fmt.Sprint(size), []api.Op{{Code: code, Data: b}}, cat([]byte{byte(code)}, u(uint64(size)), b))
		}
		for _, size := range []int{mostBytes + 1, mostBytes + 2, 2 * mostBytes, 1 << 20} {
			wantWrong(t, fmt.Sprint(size), []api.Op{{Code: code, Data: make([]byte, size)}})
			wantWrong(t, fmt.Sprint("behind others, ", size), append(list(nop(), data(1)), api.Op{Code: code, Data: make([]byte, size)}))
		}
	}
	full := slices.Repeat([]piece{data(mostBytes)}, most)
	wantPut(t, "as much as may be in all", list(full...), lay(full...))
}

func TestPutJumps(t *testing.T) {
	// Operations that begin at 0, 1, 6, 9, 12, and the end, 14.
	begins := []int{0, 1, 6, 9, 12, 14}
	for _, code := range []byte{40, 47} {
		for place, begin := range begins {
			l := []api.Op{{Code: 150}, data(3).o, {Code: 11, A: neg(2)}, {Code: int(code), A: uint64(place)}, {Code: 9, A: 7}}
			b := cat(lay(nop(), data(3)), []byte{11, 254, 255}, jump(code, begin-12), []byte{9, 7})
			wantPut(t, fmt.Sprint("to place ", place), l, b)
			wantTake(t, fmt.Sprint("to place ", place), b, l)
		}
		for _, place := range []uint64{6, 7, 60, 255, 256, 1 << 16, 1 << 32, 1<<32 + 1, half, half + 1, neg(3), neg(2), neg(1)} {
			l := []api.Op{{Code: 150}, data(3).o, {Code: 11, A: neg(2)}, {Code: int(code), A: place}, {Code: 9, A: 7}}
			wantWrong(t, fmt.Sprint("to place ", place), l)
		}
		wantPut(t, "alone, to itself", []api.Op{{Code: int(code)}}, jump(code, -3))
		wantPut(t, "alone, to the end", []api.Op{{Code: int(code), A: 1}}, jump(code, 0))
		wantWrong(t, "alone, to behind the end", []api.Op{{Code: int(code), A: 2}})
	}
	wantPut(t, "behind the first of many", append(list(goes(most, 2*(most-1))), list(slices.Repeat([]piece{{api.Op{Code: 9}, nil}}, most-1)...)...),
		cat(jump(40, 2*(most-1)), bytes.Repeat([]byte{9, 0}, most-1)))
}

// Ways at the edges of what two bytes have.
func TestPutJumpsThatAreTooFar(t *testing.T) {
	for _, way := range []int{0, 1, 2, 127, 128, 255, 256, 32766, 32767} {
		for _, parts := range [][]piece{{wide(max(way, 3))}, {nop(), wide(max(way-2, 3)), nop()}} {
			l := append([]piece{goes(len(parts)+1, len(lay(parts...)))}, parts...)
			if len(lay(parts...)) < 32768 {
				wantBoth(t, fmt.Sprint("on, ", way), list(l...), lay(l...))
				wantBoth(t, fmt.Sprint("on, with another one behind, ", way), list(append(l, nop())...), cat(lay(l...), []byte{150}))
			}
		}
	}
	for _, size := range []int{3, 5, 127, 128, 32764, 32765} {
		l := []piece{wide(size), goes(0, -size-3)}
		wantBoth(t, fmt.Sprint("back, ", size), list(l...), lay(l...))
		l = []piece{nop(), wide(size), goes(1, -size-3), nop()}
		wantBoth(t, fmt.Sprint("back, between others, ", size), list(l...), lay(l...))
	}
	for _, size := range []int{32768, 32769, 65535, 65536, 65539} {
		l := []piece{goes(2, 0), wide(size)}
		wantWrong(t, fmt.Sprint("on too far, ", size), list(l...))
		wantWrong(t, fmt.Sprint("on too far, and another one behind, ", size), append(list(l...), api.Op{Code: 150}))
		l = []piece{wide(size - 2), goes(0, 0)}
		wantWrong(t, fmt.Sprint("back too far, ", size), list(l...))
		l = []piece{nop(), wide(size - 2), nop(), goes(1, 0), nop()}
		wantWrong(t, fmt.Sprint("back too far, between others, ", size), list(l...))
	}
	l := []piece{goes(2, 0), data(mostBytes), data(mostBytes), nop()}
	wantWrong(t, "on, 65540 bytes", list(l...))
	l[0].o.A = 3
	wantWrong(t, "on, 131080 bytes", list(l...))
	l[0].o.A = 1
	l[0].b = jump(40, 0)
	wantBoth(t, "to the one behind it, with much behind that", list(l...), lay(l...))
}

// Right and Put look at all operations.
func TestPutOneWrongOfMany(t *testing.T) {
	wrong := []api.Op{{}, {Code: 7}, {Code: 150, A: 1}, {Code: 8, A: 256}, {Code: 9, A: 128}, {Code: 3, B: 1}, {Code: 40, A: 21}, {Code: 158, Data: make([]byte, mostBytes+1)}}
	for _, o := range wrong {
		for _, at := range []int{0, 1, 10, 19} {
			l := list(nops(20)...)
			l[at] = o
			wantWrong(t, fmt.Sprintf("code %d at %d", o.Code, at), l)
		}
	}
	if !ops.Right(list(nops(20)...)) {
		t.Error("the others may be")
	}
}
