package raw_test

import (
	"bytes"
	"fmt"
	"math"
	"strings"
	"testing"

	"sindri/api"
	"sindri/raw"
)

// P14.3

func TestPut(t *testing.T) {
	for _, w := range table() {
		for _, wide := range both {
			for _, x := range values(w, wide) {
				wantPut(t, fmt.Sprintf("form %d", w.form), x, wide, lay(w, x, wide))
			}
		}
	}
}

// parts are all that a value may have, with something in one of them.
func parts() map[string]api.Raw {
	return map[string]api.Raw{
		"a number":               {U: 1},
		"the greatest number":    {U: top},
		"a great number":         {U: 1 << 32},
		"a signed number":        {S: 1},
		"a number below 0":       {S: -1},
		"the greatest of signed": {S: most},
		"the least number":       {S: least},
		"a byte":                 {B: []byte{1}},
		"a byte 0":               {B: []byte{0}},
		"16 bytes":               {B: block(16)},
		"many bytes":             {B: block(mostBytes + 1)},
		"a text":                 {Text: "a"},
		"a text of a byte 0":     {Text: "\x00"},
		"a long text":            {Text: strings.Repeat("x", longest+1)},
	}
}

func TestPutOfWhatAFormDoesNotHave(t *testing.T) {
	for _, w := range table() {
		x := values(w, false)[0]
		for what, more := range parts() {
			y, has := x, false
			switch {
			case more.U != 0:
				has = x.U != 0 || w.what == number || w.what == numberU || w.what == numberO
				y.U = more.U
			case more.S != 0:
				has = w.what == signed || w.what == pair
				y.S = more.S
			case more.B != nil:
				has = w.what == sized || w.what == sizedU || w.what == plain
				y.B = more.B
			default:
				has = w.what == text
				y.Text = more.Text
			}
			if has {
				continue
			}
			for _, wide := range both {
				wantWrong(t, fmt.Sprintf("form %d with %s", w.form, what), y, wide)
			}
		}
	}
}

func TestPutOfNumbers(t *testing.T) {
	for _, w := range rows(number, numberO) {
		for _, wide := range both {
			size := w.bytes(wide)
			what := fmt.Sprintf("form %d, %d bytes", w.form, size)
			n := w.greatest(wide)
			wantPut(t, what+", the greatest", api.Raw{Form: w.form, U: n}, wide, bytes.Repeat([]byte{255}, size))
			wantPut(t, what+", 0", api.Raw{Form: w.form}, wide, make([]byte, size))
			for i := range size {
				want := make([]byte, size)
				want[i] = 0x81
				wantPut(t, what+", a byte", api.Raw{Form: w.form, U: 0x81 << (8 * i)}, wide, want)
			}
			if n == top {
				continue
			}
			for _, x := range []uint64{n + 1, n + 2, 2*n + 1, n << 8, 1 << 40, 1 << 63, 1<<63 + 1, top - 1, top} {
				wantWrong(t, fmt.Sprintf("%s, %d", what, x), api.Raw{Form: w.form, U: x}, wide)
			}
		}
	}
}

func TestPutOfOffsets(t *testing.T) {
	for _, form := range []int{14, 16, 23, 31} {
		what := fmt.Sprintf("form %d", form)
		wantPut(t, what, api.Raw{Form: form, U: 1<<32 - 1}, false, []byte{255, 255, 255, 255})
		wantPut(t, what, api.Raw{Form: form, U: 1<<32 - 1}, true, []byte{255, 255, 255, 255, 0, 0, 0, 0})
		wantWrong(t, what, api.Raw{Form: form, U: 1 << 32}, false)
		wantPut(t, what, api.Raw{Form: form, U: 1 << 32}, true, []byte{0, 0, 0, 0, 1, 0, 0, 0})
		wantWrong(t, what, api.Raw{Form: form, U: top}, false)
		wantPut(t, what, api.Raw{Form: form, U: top}, true, bytes.Repeat([]byte{255}, 8))
	}
}

func TestPutOfTruths(t *testing.T) {
	for _, wide := range both {
		wantPut(t, "form 25", api.Raw{Form: truth, U: 1}, wide, nil)
		for _, n := range []uint64{0, 2, 255, 256, 257, 1<<32 + 1, 1<<63 + 1, top} {
			wantWrong(t, fmt.Sprintf("form 25, %d", n), api.Raw{Form: truth, U: n}, wide)
		}
		for n := range 256 {
			wantPut(t, fmt.Sprintf("form 12, %d", n), api.Raw{Form: 12, U: uint64(n)}, wide, []byte{byte(n)})
		}
		for _, n := range []uint64{256, 257, 1 << 32, top} {
			wantWrong(t, fmt.Sprintf("form 12, %d", n), api.Raw{Form: 12, U: n}, wide)
		}
	}
}

func TestPutOfBytes(t *testing.T) {
	for _, w := range rows(sized, sizedU) {
		limit := int(min(w.greatest(false), mostBytes))
		for _, n := range []int{1, 15, 16, 17, 128, 255, 256, 16384, 65535, 65536} {
			what := fmt.Sprintf("form %d, %d bytes", w.form, n)
			x := api.Raw{Form: w.form, B: block(n)}
			for _, wide := range both {
				if n <= limit {
					wantPut(t, what, x, wide, cat(sizeOf(w, uint64(n)), block(n)))
				} else {
					wantWrong(t, what, x, wide)
				}
			}
		}
		for _, n := range []int{limit + 1, limit + 2, 2*limit + 2, mostBytes + 1, mostBytes + 2, 2 * mostBytes, 1 << 20} {
			wantWrong(t, fmt.Sprintf("form %d, %d bytes", w.form, n), api.Raw{Form: w.form, B: block(n)}, false)
			wantWrong(t, fmt.Sprintf("form %d, %d bytes", w.form, n), api.Raw{Form: w.form, B: block(n)}, true)
		}
	}
}

// Bytes that are nil are as good as empty ones.
func TestPutOfNoBytes(t *testing.T) {
	for _, w := range table() {
		for _, wide := range both {
			for _, none := range [][]byte{nil, {}, make([]byte, 0, 8), block(9)[:0], block(9)[9:]} {
				what := fmt.Sprintf("form %d, bytes %#v", w.form, none)
				x := values(w, wide)[0]
				x.B = none
				if w.what == plain {
					wantWrong(t, what, x, wide)
				} else {
					wantPut(t, what, x, wide, lay(w, x, wide))
				}
			}
		}
	}
}

func TestPutOfSixteenBytes(t *testing.T) {
	for _, wide := range both {
		wantPut(t, "16 bytes", api.Raw{Form: sixteen, B: block(16)}, wide, block(16))
		for _, n := range []int{0, 1, 15, 17, 32, 256 + 16, mostBytes, mostBytes + 16} {
			wantWrong(t, fmt.Sprintf("%d bytes of form 30", n), api.Raw{Form: sixteen, B: block(n)}, wide)
		}
	}
}

func TestPutOfTexts(t *testing.T) {
	x := strings.Repeat("x", longest)
	for _, wide := range both {
		for _, text := range []string{"", "a", " ", "\xff\xfe", "grün", x[1:], x} {
			wantPut(t, "a text", api.Raw{Form: 8, Text: text}, wide, cat([]byte(text), []byte{0}))
		}
		for _, text := range []string{"\x00", "a\x00", "\x00a", "a\x00b", x + "x", x[1:] + "\x00", x + "\x00", strings.Repeat(x, 400)} {
			wantWrong(t, "a text", api.Raw{Form: 8, Text: text}, wide)
		}
	}
}

func TestPutOfNoKind(t *testing.T) {
	for _, form := range append(others(), indirect, -1, -11, math.MinInt) {
		for _, wide := range both {
			what := fmt.Sprintf("form %d", form)
			wantWrong(t, what, api.Raw{Form: form}, wide)
			wantWrong(t, what, api.Raw{Form: form, B: []byte{}}, wide)
			wantWrong(t, what, api.Raw{Form: form, U: 1}, wide)
			for name, x := range parts() {
				x.Form = form
				wantWrong(t, what+" with "+name, x, wide)
			}
		}
	}
}

// What lies behind the bytes' length is neither looked at nor put.
func TestPutOfSpareRoom(t *testing.T) {
	for _, w := range rows(sized, sizedU, plain) {
		for _, x := range values(w, false) {
			wantPut(t, fmt.Sprintf("form %d", w.form), roomy(x), false, lay(w, x, false))
		}
		x := values(w, false)[0]
		x.B = block(mostBytes + 1)[:16]
		wantPut(t, fmt.Sprintf("form %d, much room", w.form), x, false, lay(w, x, false))
		x.B = block(mostBytes + 1)
		wantWrong(t, fmt.Sprintf("form %d, too many", w.form), roomy(x), false)
	}
}

// A value's bytes may lie in the room behind the bytes that it is put behind, or among
// these.
func TestPutOfBytesThatLieWhereTheyArePut(t *testing.T) {
	for _, w := range rows(sized, sizedU, plain) {
		for at := range 8 {
			for ahead := range 8 {
				room := block(64)
				x := api.Raw{Form: w.form, B: room[at : at+16 : at+16]}
				want := cat(block(64)[:ahead], lay(w, api.Raw{B: block(64)[at : at+16]}, false))
				if b, e := raw.Put(room[:ahead], x, false); !bytes.Equal(b, want) || e != api.OK {
					t.Errorf("form %d, bytes at %d put at %d: Put = %x, %d, want %x", w.form, at, ahead, b, e, want)
				}
			}
		}
	}
}

// What is put is changed with no value's bytes later.
func TestWhatIsPutSharesNoMemory(t *testing.T) {
	for _, w := range rows(sized, sizedU, plain) {
		x := api.Raw{Form: w.form, B: block(16)}
		want := lay(w, x, false)
		x.B = block(16)
		b, _ := raw.Put(nil, x, false)
		for i := range x.B {
			x.B[i] = 255
		}
		if !bytes.Equal(b, want) {
			t.Errorf("form %d: %x, once the value's bytes are changed, want %x", w.form, b, want)
		}
		x.B = block(16)
		b, _ = raw.Put(nil, x, false)
		for i := range b[:cap(b)] {
			b[:cap(b)][i] = 255
		}
		if !bytes.Equal(x.B, block(16)) {
			t.Errorf("form %d: the value's bytes are %x, once what was put is changed", w.form, x.B)
		}
	}
}
