package raw_test

import (
	"bytes"
	"fmt"
	"math"
	"slices"
	"strings"
	"testing"

	"sindri/api"
	"sindri/cursor"
	"sindri/raw"
)

const (
	top       = 1<<64 - 1
	most      = 1<<63 - 1 // the greatest of signed numbers
	least     = -1 << 63  // the least of them
	mostBytes = 65536     // the most bytes of a value
	longest   = 200       // the most bytes of a text
	indirect  = 22
	truth     = 25
	sixteen   = 30
	implicit  = 33
)

// What a form's bytes are.
const (
	number  = iota // a number of so many bytes
	numberU        // a number U
	numberO        // an offset
	sized          // a size of so many bytes, and as many bytes
	sizedU         // a size U, and as many bytes
	plain          // just so many bytes
	signed         // a number S
	text           // a text
	pair           // none: the pair has the number
	always         // none: it is 1
)

// row is a line of the chapter's table, of one form.
type row struct{ form, kind, what, size int }

// table is the chapter's.
func table() []row {
	return []row{
		{1, 1, number, 8},
		{3, 9, sized, 2}, {4, 9, sized, 4}, {9, 9, sizedU, 0}, {10, 9, sized, 1},
		{5, 2, number, 2}, {6, 2, number, 4}, {7, 2, number, 8}, {11, 2, number, 1}, {15, 2, numberU, 0},
		{8, 5, text, 0},
		{12, 4, number, 1}, {25, 4, always, 0},
		{13, 3, signed, 0}, {33, 3, pair, 0},
		{14, 6, numberO, 0}, {31, 7, numberO, 0},
		{16, 12, numberO, 0},
		{17, 11, number, 1}, {18, 11, number, 2}, {19, 11, number, 4}, {20, 11, number, 8}, {21, 11, numberU, 0},
		{23, 14, numberO, 0},
		{24, 10, sizedU, 0},
		{26, 8, numberU, 0}, {37, 8, number, 1}, {38, 8, number, 2}, {39, 8, number, 3}, {40, 8, number, 4},
		{27, 15, numberU, 0}, {41, 15, number, 1}, {42, 15, number, 2}, {43, 15, number, 3}, {44, 15, number, 4},
		{30, 9, plain, 16},
		{32, 13, number, 8},
		{34, 16, numberU, 0}, {35, 17, numberU, 0},
	}
}

// rows are the lines of the table with these bytes.
func rows(what ...int) []row {
	return slices.DeleteFunc(table(), func(w row) bool { return !slices.Contains(what, w.what) })
}

// bytes is how many bytes the number, or the size, of a row has.
func (w row) bytes(wide bool) int {
	if w.what == numberO {
		if wide {
			return 8
		}
		return 4
	}
	return w.size
}

// greatest is the greatest number, or size, that the row's bytes have.
func (w row) greatest(wide bool) uint64 {
	if size := w.bytes(wide); size > 0 && size < 8 {
		return 1<<(8*size) - 1
	}
	return top
}

// fixed is a number of so many bytes.
func fixed(n uint64, size int) []byte {
	b := make([]byte, size)
	for i := range b {
		b[i] = byte(n)
		n /= 256
	}
	return b
}

// u is a number of 7-bit bytes, the fewest.
func u(n uint64) []byte {
	var b []byte
	for ; n >= 128; n /= 128 {
		b = append(b, byte(n%128)+128)
	}
	return append(b, byte(n))
}

// s is a number of 7-bit bytes, the fewest, that may be below 0.
func s(n int64) []byte {
	var b []byte
	for ; n < -64 || n > 63; n >>= 7 {
		b = append(b, byte(n&127)+128)
	}
	return append(b, byte(n&127))
}

// long is a number's bytes with more of them, up to so many, which leave it as it is:
// of 0, or, of a number below 0, of 127.
func long(b []byte, size int, fill byte) []byte {
	b = bytes.Clone(b)
	for len(b) < size {
		b[len(b)-1] += 128
		b = append(b, fill)
	}
	return b
}

// tooLong is as many bytes as a number may have, none of which ends it.
func tooLong() []byte { return bytes.Repeat([]byte{128}, 10) }

// cat is parts one behind the other.
func cat(parts ...[]byte) []byte { return slices.Concat(parts...) }

// block is so many bytes, not all alike.
func block(size int) []byte {
	b := make([]byte, size)
	for i := range b {
		b[i] = byte(i%251 + 1)
	}
	return b
}

// lay is a value's bytes, by the chapter's words.
func lay(w row, x api.Raw, wide bool) []byte {
	switch w.what {
	case number, numberO:
		return fixed(x.U, w.bytes(wide))
	case numberU:
		return u(x.U)
	case sized:
		return cat(fixed(uint64(len(x.B)), w.size), x.B)
	case sizedU:
		return cat(u(uint64(len(x.B))), x.B)
	case plain:
		return x.B
	case signed:
		return s(x.S)
	case text:
		return cat([]byte(x.Text), []byte{0})
	}
	return nil
}

// values are some of a row that may be, wide or not.
func values(w row, wide bool) []api.Raw {
	var l []api.Raw
	switch w.what {
	case number, numberO, numberU:
		for _, n := range []uint64{0, 1, 2, 100, 127, 128, 255, 256, 300, 624485, 65535, 65536, 1<<24 - 1, 1 << 24, 0x04030201, 1<<32 - 1, 1 << 32, 0x0807060504030201, 1 << 63, top - 1, top} {
			if n <= w.greatest(wide) {
				l = append(l, api.Raw{Form: w.form, U: n})
			}
		}
	case sized, sizedU:
		for _, n := range []int{0, 1, 2, 127, 128, 254, 255, 256, 300, 16383, 16384, 65534, 65535, 65536} {
			if uint64(n) <= w.greatest(wide) {
				l = append(l, api.Raw{Form: w.form, B: block(n)})
			}
		}
	case plain:
		l = append(l, api.Raw{Form: w.form, B: block(16)}, api.Raw{Form: w.form, B: make([]byte, 16)}, api.Raw{Form: w.form, B: bytes.Repeat([]byte{255}, 16)})
	case signed, pair:
		for _, n := range []int64{0, 1, -1, 2, -2, 63, 64, -64, -65, 127, 128, -128, 300, -300, 1 << 32, -1 << 32, most - 1, most, least + 1, least} {
			l = append(l, api.Raw{Form: w.form, S: n})
		}
	case text:
		for _, x := range []string{"", "a", "ab c", "\xff\x01", "naïve", strings.Repeat("x", longest-1), strings.Repeat("y", longest)} {
			l = append(l, api.Raw{Form: w.form, Text: x})
		}
	case always:
		l = append(l, api.Raw{Form: w.form, U: 1})
	}
	return l
}

// of is the pair of a value.
func of(x api.Raw) api.Spec {
	p := api.Spec{At: 3, Form: x.Form}
	if x.Form == implicit {
		p.Implicit = x.S
	}
	return p
}

// same tells whether two values are the same; bytes of which there are none may be nil.
func same(a, b api.Raw) bool {
	return a.Form == b.Form && a.U == b.U && a.S == b.S && string(a.B) == string(b.B) && a.Text == b.Text
}

// zero tells whether a value is nothing at all.
func zero(x api.Raw) bool { return same(x, api.Raw{}) }

// show tells so much of a value as can be read.
func show(x api.Raw) string {
	return fmt.Sprintf("{form %d, %d, %d, %.20x of %d, %.20q of %d}", x.Form, x.U, x.S, x.B, len(x.B), x.Text, len(x.Text))
}

// both are the two ways.
var both = []bool{false, true}

// wantTake looks at what Take tells of a value with other bytes behind it, and
// where the cursor stands then.
func wantTake(t *testing.T, what string, b []byte, p api.Spec, wide bool, want api.Raw) {
	t.Helper()
	for _, behind := range [][]byte{nil, {0}, {0, 0, 0}, {1, 17}, {255}, bytes.Repeat([]byte{200}, 20)} {
		c := cursor.New(cat([]byte{7, 7, 7}, b, behind))
		c.Seek(3)
		x := raw.Take(c, p, wide)
		if !same(x, want) || c.Err() != api.OK {
			t.Errorf("%s, wide %v: Take = %s, %d, want %s, 0", what, wide, show(x), c.Err(), show(want))
			return
		}
		if c.At() != 3+len(b) || c.Left() != len(behind) || !bytes.Equal(c.Bytes(uint64(len(behind))), behind) || c.End() != api.OK {
			t.Errorf("%s, wide %v: with %x behind it the cursor stands at %d of %d, with %d", what, wide, behind, c.At(), 3+len(b), c.Err())
		}
	}
}

// wantRefused looks that Take refuses, and what the cursor tells then.
func wantRefused(t *testing.T, what string, b []byte, p api.Spec, wide bool, e api.Errno) {
	t.Helper()
	c := cursor.New(b)
	if x := raw.Take(c, p, wide); !zero(x) || c.Err() != e {
		t.Errorf("%s, wide %v: Take = %s, %d, want nothing, %d", what, wide, show(x), c.Err(), e)
	}
	if c.End() != e || c.Left() != 0 || c.U8() != 0 {
		t.Errorf("%s, wide %v: the cursor tells %d, with %d left, want %d", what, wide, c.End(), c.Left(), e)
	}
	at := c.At()
	c.Fail(api.ErrCheck)
	for _, q := range []api.Spec{p, {Form: truth}, {Form: implicit, Implicit: 5}, {Form: 11}, {Form: 8}, {}} {
		if x := raw.Take(c, q, wide); !zero(x) || c.Err() != e || c.At() != at {
			t.Errorf("%s, wide %v: Take, once more, = %s, %d at %d, want nothing, %d at %d", what, wide, show(x), c.Err(), c.At(), e, at)
		}
	}
}

// roomy is a value whose bytes have room behind them, with something in it.
func roomy(x api.Raw) api.Raw {
	b := append(make([]byte, 0, len(x.B)+3), x.B...)
	x.B = append(b, 91, 92, 93)[:len(b)]
	return x
}

// kept is a copy of all that a value's bytes have, their spare room too.
func kept(x api.Raw) []byte { return bytes.Clone(x.B[:cap(x.B)]) }

// wantPut looks at what Put puts of a value that may be, behind no bytes and behind
// some, and that it leaves what it is handed.
func wantPut(t *testing.T, what string, x api.Raw, wide bool, want []byte) {
	t.Helper()
	before := kept(x)
	if !raw.Right(x, wide) {
		t.Errorf("%s, wide %v: Right = false", what, wide)
	}
	for _, ahead := range [][]byte{nil, {}, {0}, {7, 8, 9}, make([]byte, 3, 400)} {
		first := bytes.Clone(ahead)
		b, e := raw.Put(ahead, x, wide)
		if e != api.OK || !bytes.Equal(b, cat(first, want)) {
			t.Errorf("%s, wide %v: Put behind %x = %.60x of %d, %d, want %.60x of %d, 0", what, wide, first, b, len(b), e, cat(first, want), len(first)+len(want))
		}
		if !bytes.Equal(ahead, first) {
			t.Errorf("%s, wide %v: Put made %x of the bytes ahead", what, wide, ahead)
		}
	}
	if !bytes.Equal(kept(x), before) {
		t.Errorf("%s, wide %v: the value's bytes are changed", what, wide)
	}
}

// wantWrong looks that Right and Put refuse a value, and leave what they are handed.
func wantWrong(t *testing.T, what string, x api.Raw, wide bool) {
	t.Helper()
	before := kept(x)
	if raw.Right(x, wide) {
		t.Errorf("%s, wide %v: Right(%s) = true", what, wide, show(x))
	}
	room := bytes.Repeat([]byte{99}, 300)
	for _, ahead := range [][]byte{nil, {1, 2, 3}, room[:0], room[:5]} {
		if b, e := raw.Put(ahead, x, wide); len(b) != 0 || e != api.ErrArg {
			t.Errorf("%s, wide %v: Put = %.60x of %d, %d, want none and %d", what, wide, b, len(b), e, api.ErrArg)
		}
	}
	if !bytes.Equal(room, bytes.Repeat([]byte{99}, 300)) {
		t.Errorf("%s, wide %v: Put wrote where it was handed room", what, wide)
	}
	if !bytes.Equal(kept(x), before) {
		t.Errorf("%s, wide %v: the value's bytes are changed", what, wide)
	}
}

// P14.1

func TestKind(t *testing.T) {
	met := map[int]bool{}
	for _, w := range table() {
		met[w.form] = true
		if got := raw.Kind(w.form); got != w.kind {
			t.Errorf("Kind(%d) = %d, want %d", w.form, got, w.kind)
		}
	}
	if len(met) != 39 {
		t.Errorf("the table has %d forms", len(met))
	}
	for form := -70000; form < 70000; form++ {
		if got := raw.Kind(form); !met[form] && got != raw.None {
			t.Errorf("Kind(%d) = %d", form, got)
		}
	}
}

func TestKindOfOthers(t *testing.T) {
	for _, form := range []int{0, 2, 22, 28, 29, 36, 45, 46, 47, 48, 64, -1, -8, 0x1f01, 0x1f02, 0x1f20, 0x1f21, 65535, 65536, math.MaxInt, math.MaxInt - 1, math.MinInt, math.MinInt + 1} {
		if got := raw.Kind(form); got != raw.None {
			t.Errorf("Kind(%d) = %d", form, got)
		}
	}
	for _, w := range table() {
		for _, add := range []int{1 << 6, 1 << 7, 1 << 8, 1 << 16, 1 << 31, 1 << 32, math.MinInt} {
			for _, form := range []int{w.form + add, -w.form, -w.form - add, ^w.form} {
				if got := raw.Kind(form); got != raw.None {
					t.Errorf("Kind(%d) = %d", form, got)
				}
			}
		}
	}
}

func TestKindsAreTheirNumbers(t *testing.T) {
	for want, got := range []int{raw.None, raw.Address, raw.Unsigned, raw.Signed, raw.Truth, raw.Inline, raw.Strp, raw.LineStrp, raw.Strx, raw.Bytes, raw.Exprloc, raw.UnitRef, raw.InfoRef, raw.Sig, raw.Offset, raw.Addrx, raw.Loclistx, raw.Rnglistx} {
		if got != want {
			t.Errorf("kind %d is %d", want, got)
		}
	}
}

// The chapter's examples.
func TestExamples(t *testing.T) {
	for _, x := range []struct {
		x api.Raw
		b []byte
	}{
		{api.Raw{Form: 15, U: 624485}, []byte{0xe5, 0x8e, 0x26}},
		{api.Raw{Form: 10, B: []byte{1, 2}}, []byte{2, 1, 2}},
	} {
		for _, wide := range both {
			wantTake(t, "example", x.b, api.Spec{At: 3, Form: x.x.Form}, wide, x.x)
			wantPut(t, "example", x.x, wide, x.b)
		}
	}
}

// The tests' own bytes are right, so that a fault in them hides none.
func TestLay(t *testing.T) {
	for _, x := range []struct {
		form int
		x    api.Raw
		wide bool
		want string
	}{
		{1, api.Raw{U: 0x0807060504030201}, false, "0102030405060708"},
		{3, api.Raw{B: []byte{9, 8}}, false, "02000908"},
		{4, api.Raw{B: []byte{9, 8}}, true, "020000000908"},
		{9, api.Raw{B: block(128)}, false, "8001" + fmt.Sprintf("%x", block(128))},
		{39, api.Raw{U: 0x010203}, false, "030201"},
		{23, api.Raw{U: 1}, false, "01000000"},
		{23, api.Raw{U: 1}, true, "0100000000000000"},
		{13, api.Raw{S: -129}, false, "ff7e"},
		{8, api.Raw{Text: "ab"}, false, "616200"},
		{25, api.Raw{U: 1}, false, ""},
		{33, api.Raw{S: 7}, false, ""},
	} {
		i := slices.IndexFunc(table(), func(w row) bool { return w.form == x.form })
		if got := fmt.Sprintf("%x", lay(table()[i], x.x, x.wide)); got != x.want {
			t.Errorf("form %d: %s, want %s", x.form, got, x.want)
		}
	}
}
