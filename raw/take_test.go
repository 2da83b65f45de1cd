package raw_test

import (
	"bytes"
	"fmt"
	"math"
	"strings"
	"testing"

	"sindri/api"
	"sindri/cursor"
	"sindri/raw"
)

// P14.2

func TestTake(t *testing.T) {
	for _, w := range table() {
		for _, wide := range both {
			for _, x := range values(w, wide) {
				wantTake(t, fmt.Sprintf("form %d", w.form), lay(w, x, wide), of(x), wide, x)
			}
		}
	}
}

// Only the pair's form counts, and of form 33 its constant.
func TestTakeOfAPairsOtherParts(t *testing.T) {
	for _, w := range table() {
		x := values(w, false)[0]
		for _, p := range []api.Spec{{}, {At: 1, Implicit: 5}, {At: 65535, Implicit: -1}, {At: -1, Implicit: most}, {At: math.MinInt, Implicit: least}} {
			p.Form = w.form
			want := x
			if w.form == implicit {
				want.S = p.Implicit
			}
			wantTake(t, fmt.Sprintf("form %d of %+v", w.form, p), lay(w, x, false), p, false, want)
		}
	}
}

func TestTakeOfNumbers(t *testing.T) {
	for _, w := range rows(number, numberO) {
		for _, wide := range both {
			size := w.bytes(wide)
			what := fmt.Sprintf("form %d, %d bytes", w.form, size)
			p := api.Spec{At: 3, Form: w.form}
			wantTake(t, what+" of 0", make([]byte, size), p, wide, api.Raw{Form: w.form})
			wantTake(t, what+" of 255", bytes.Repeat([]byte{255}, size), p, wide, api.Raw{Form: w.form, U: w.greatest(wide)})
			for i := range size {
				b := make([]byte, size)
				b[i] = 0x81
				wantTake(t, fmt.Sprintf("%s, number %d", what, i), b, p, wide, api.Raw{Form: w.form, U: 0x81 << (8 * i)})
			}
			for less := range size {
				wantRefused(t, fmt.Sprintf("%s, but %d", what, less), bytes.Repeat([]byte{1}, less), p, wide, api.ErrShort)
			}
		}
	}
}

func TestTakeOfTruths(t *testing.T) {
	for n := range 256 {
		wantTake(t, fmt.Sprintf("a byte %d", n), []byte{byte(n)}, api.Spec{Form: 12}, false, api.Raw{Form: 12, U: uint64(n)})
	}
	for _, wide := range both {
		wantTake(t, "no byte", nil, api.Spec{Form: truth}, wide, api.Raw{Form: truth, U: 1})
	}
}

func TestTakeOfNumbersU(t *testing.T) {
	for _, w := range rows(numberU) {
		for _, wide := range both {
			what := fmt.Sprintf("form %d", w.form)
			p := api.Spec{At: 3, Form: w.form}
			for _, n := range []uint64{0, 1, 127, 128, 624485, 1 << 62, top} {
				for size := 1; size <= 10; size++ {
					wantTake(t, what, long(u(n), size, 0), p, wide, api.Raw{Form: w.form, U: n})
				}
				for less := range u(n) {
					wantRefused(t, what+", cut short", u(n)[:less], p, wide, api.ErrShort)
				}
			}
			wantLeb(t, what, nil, p, wide)
			wantRefused(t, what+", too great", cat(tooLong()[1:], []byte{2}), p, wide, api.ErrLeb)
			wantRefused(t, what+", too great", cat(tooLong()[1:], []byte{127}), p, wide, api.ErrLeb)
		}
	}
}

// wantLeb looks that a number that is too long is refused, behind some bytes.
func wantLeb(t *testing.T, what string, ahead []byte, p api.Spec, wide bool) {
	t.Helper()
	for _, b := range [][]byte{tooLong(), cat(tooLong(), []byte{0}), long([]byte{1}, 11, 0), bytes.Repeat([]byte{255}, 10)} {
		wantRefused(t, what+", too long", cat(ahead, b), p, wide, api.ErrLeb)
		wantRefused(t, what+", too long, and more", cat(ahead, b, make([]byte, 99)), p, wide, api.ErrLeb)
	}
	wantRefused(t, what+", nine bytes without an end", cat(ahead, tooLong()[1:]), p, wide, api.ErrShort)
}

func TestTakeOfNumbersS(t *testing.T) {
	p := api.Spec{At: 3, Form: 13}
	for _, wide := range both {
		for _, n := range []int64{0, 1, -1, 63, 64, -64, -65, 300, -300, most, least} {
			fill := byte(0)
			if n < 0 {
				fill = 127
			}
			for size := 1; size <= 10; size++ {
				wantTake(t, fmt.Sprintf("%d", n), long(s(n), size, fill), p, wide, api.Raw{Form: 13, S: n})
			}
			for less := range s(n) {
				wantRefused(t, "cut short", s(n)[:less], p, wide, api.ErrShort)
			}
		}
		wantLeb(t, "signed", nil, p, wide)
		wantRefused(t, "too great", cat(tooLong()[1:], []byte{1}), p, wide, api.ErrLeb)
		wantRefused(t, "too small", cat(tooLong()[1:], []byte{126}), p, wide, api.ErrLeb)
	}
}

// Of form 33 no byte is read, of none there are too few.
func TestTakeOfThePairsNumber(t *testing.T) {
	for _, n := range []int64{0, 1, -1, 63, -64, 300, 1 << 40, most, least} {
		for _, wide := range both {
			wantTake(t, fmt.Sprintf("%d", n), nil, api.Spec{At: 3, Form: implicit, Implicit: n}, wide, api.Raw{Form: implicit, S: n})
		}
	}
}

// sizeOf is a size as a row has it.
func sizeOf(w row, n uint64) []byte {
	if w.what == sizedU {
		return u(n)
	}
	return fixed(n, w.size)
}

func TestTakeOfBytes(t *testing.T) {
	for _, w := range rows(sized, sizedU) {
		p := api.Spec{At: 3, Form: w.form}
		for _, n := range []int{0, 1, 2, 127, 128, 254, 255, 256, 16383, 16384, 65534, 65535, 65536} {
			if uint64(n) > w.greatest(false) {
				continue
			}
			what := fmt.Sprintf("form %d, size %d", w.form, n)
			for _, wide := range both {
				wantTake(t, what, cat(sizeOf(w, uint64(n)), block(n)), p, wide, api.Raw{Form: w.form, B: block(n)})
				if n > 0 {
					wantRefused(t, what+", a byte fewer", cat(sizeOf(w, uint64(n)), block(n-1)), p, wide, api.ErrShort)
					wantRefused(t, what+", none", sizeOf(w, uint64(n)), p, wide, api.ErrShort)
				}
			}
		}
	}
}

func TestTakeOfBytesThatAreTooMany(t *testing.T) {
	for _, w := range rows(sized, sizedU) {
		p := api.Spec{At: 3, Form: w.form}
		for _, n := range []uint64{mostBytes + 1, mostBytes + 2, 1 << 17, 1<<24 + 1, 1 << 31, 1<<32 - 1, 1 << 32, 1<<32 + 2, 1 << 63, 1<<63 + 2, top - 1, top} {
			if n > w.greatest(false) {
				continue
			}
			what := fmt.Sprintf("form %d, size %d", w.form, n)
			for _, wide := range both {
				wantRefused(t, what+", none", sizeOf(w, n), p, wide, api.ErrBig)
				wantRefused(t, what+", some", cat(sizeOf(w, n), block(100)), p, wide, api.ErrBig)
				wantRefused(t, what+", many", cat(sizeOf(w, n), block(mostBytes+1)), p, wide, api.ErrBig)
			}
		}
	}
	// The most of a size that has one byte, or two, is not too many.
	for size, form := range map[int]int{1: 10, 2: 3} {
		n := 1<<(8*size) - 1
		wantTake(t, "all 255", cat(bytes.Repeat([]byte{255}, size), block(n)), api.Spec{Form: form}, true, api.Raw{Form: form, B: block(n)})
	}
}

func TestTakeOfSizesCutShort(t *testing.T) {
	for _, w := range rows(sized) {
		for n := range w.size {
			wantRefused(t, fmt.Sprintf("form %d, %d bytes of its size", w.form, n), bytes.Repeat([]byte{255}, n), api.Spec{Form: w.form}, true, api.ErrShort)
		}
	}
	for _, w := range rows(sizedU) {
		what := fmt.Sprintf("form %d", w.form)
		p := api.Spec{Form: w.form}
		wantRefused(t, what+", no size", nil, p, false, api.ErrShort)
		wantRefused(t, what+", half a size", []byte{0x81}, p, false, api.ErrShort)
		wantLeb(t, what, nil, p, false)
		wantRefused(t, what+", a size of 2 to the 64", cat(tooLong()[1:], []byte{2}, block(9)), p, false, api.ErrLeb)
		for size := 1; size <= 10; size++ {
			wantTake(t, what+", its size in more bytes", cat(long([]byte{3}, size, 0), block(3)), p, false, api.Raw{Form: w.form, B: block(3)})
		}
	}
}

func TestTakeOfSixteenBytes(t *testing.T) {
	p := api.Spec{At: 3, Form: sixteen}
	for _, wide := range both {
		for _, b := range [][]byte{block(16), make([]byte, 16), bytes.Repeat([]byte{255}, 16), bytes.Repeat([]byte{16}, 16)} {
			wantTake(t, "16 bytes", b, p, wide, api.Raw{Form: sixteen, B: b})
		}
		for n := range 16 {
			wantRefused(t, fmt.Sprintf("%d bytes", n), block(n), p, wide, api.ErrShort)
		}
	}
}

func TestTakeOfTexts(t *testing.T) {
	p := api.Spec{At: 3, Form: 8}
	x := strings.Repeat("x", longest)
	for _, wide := range both {
		for _, text := range []string{"", "a", "a b", "\xff\xfe", "grün", x[1:], x} {
			wantTake(t, "a text", cat([]byte(text), []byte{0}), p, wide, api.Raw{Form: 8, Text: text})
			wantRefused(t, "a text without its end", []byte(text), p, wide, api.ErrText)
		}
		wantRefused(t, "a text too long", []byte(x+"x\x00"), p, wide, api.ErrBig)
		wantRefused(t, "a text far too long", cat(bytes.Repeat([]byte{'x'}, mostBytes), []byte{0, 0}), p, wide, api.ErrBig)
		wantRefused(t, "a text too long without its end", []byte(x+"x"), p, wide, api.ErrText)
	}
}

// others are forms of kind None, 22 not among them.
func others() []int {
	return []int{0, 2, 28, 29, 36, 45, 46, 100, 255, 256, 256 + 11, 0x1f01, 0x1f20, 65535, 65536, 65536 + 11, 1<<32 + 11, math.MaxInt}
}

func TestTakeOfNoKind(t *testing.T) {
	for _, form := range append(others(), -1, -11, math.MinInt, math.MinInt+11) {
		for _, b := range [][]byte{nil, {0}, {1, 2, 3}, {11, 11, 11}, tooLong(), make([]byte, 100)} {
			for _, wide := range both {
				p := api.Spec{At: 3, Form: form, Implicit: 7}
				wantRefused(t, fmt.Sprintf("form %d", form), b, p, wide, api.ErrForm)
				c := cursor.New(b)
				if raw.Take(c, p, wide); c.At() != 0 {
					t.Errorf("form %d: the cursor stands at %d", form, c.At())
				}
			}
		}
	}
}

func TestTakeBehindForm22(t *testing.T) {
	p := api.Spec{At: 3, Form: indirect, Implicit: 9}
	for _, w := range table() {
		what := fmt.Sprintf("22, form %d", w.form)
		for _, wide := range both {
			for _, x := range values(w, wide) {
				if w.form == implicit {
					wantRefused(t, what, []byte{implicit, 1, 2, 3}, p, wide, api.ErrForm)
					continue
				}
				wantTake(t, what, cat([]byte{byte(w.form)}, lay(w, x, wide)), p, wide, x)
				if len(x.B) < 100 {
					wantTake(t, what+" of more bytes", cat(long([]byte{byte(w.form)}, 7, 0), lay(w, x, wide)), p, wide, x)
				}
			}
		}
	}
}

func TestTakeOfFormsBehindForm22(t *testing.T) {
	p := api.Spec{At: 3, Form: indirect}
	for _, wide := range both {
		for _, form := range append(others(), indirect, implicit) {
			what := fmt.Sprintf("22, form %d", form)
			for _, p := range []api.Spec{p, {At: 1, Form: indirect, Implicit: 5}} {
				for _, behind := range [][]byte{nil, {0}, {11, 11}, {8, 'a', 0}, {indirect, 11, 3}, tooLong()} {
					wantRefused(t, what, cat(u(uint64(form)), behind), p, wide, api.ErrForm)
					wantRefused(t, what+" of more bytes", cat(long(u(uint64(form)), 10, 0), behind), p, wide, api.ErrForm)
				}
			}
		}
		for _, w := range table() {
			for _, add := range []uint64{256, 1 << 16, 1 << 31, 1 << 32, 1 << 63, top - 63} {
				wantRefused(t, fmt.Sprintf("22, form %d and %d", w.form, add), cat(u(uint64(w.form)+add), make([]byte, 200)), p, wide, api.ErrForm)
			}
		}
		for _, n := range []uint64{1 << 63, top - 1, top} {
			wantRefused(t, fmt.Sprintf("22, form %d", n), cat(u(n), make([]byte, 200)), p, wide, api.ErrForm)
		}
		wantRefused(t, "22, nothing behind it", nil, p, wide, api.ErrShort)
		wantRefused(t, "22, half a form", []byte{0x8b}, p, wide, api.ErrShort)
		wantLeb(t, "22, a form", nil, p, wide)
		wantRefused(t, "22, a form of 2 to the 64", cat(tooLong()[1:], []byte{2, 11, 11}), p, wide, api.ErrLeb)
	}
}

// What is behind 22 is refused as the form alone is.
func TestTakeOfRefusalsBehindForm22(t *testing.T) {
	x := strings.Repeat("x", longest+1)
	for _, wide := range both {
		for what, b := range map[string]struct {
			b []byte
			e api.Errno
		}{
			"no number":        {[]byte{11}, api.ErrShort},
			"half a number":    {[]byte{6, 1, 2, 3}, api.ErrShort},
			"half an offset":   {[]byte{23, 1, 2, 3}, api.ErrShort},
			"a long number":    {cat([]byte{15}, tooLong()), api.ErrLeb},
			"a signed one":     {cat([]byte{13}, tooLong()), api.ErrLeb},
			"a great size":     {cat([]byte{9}, u(mostBytes+1)), api.ErrBig},
			"a greater size":   {cat([]byte{4}, fixed(mostBytes+1, 4)), api.ErrBig},
			"too few bytes":    {[]byte{10, 3, 1, 2}, api.ErrShort},
			"15 bytes":         {cat([]byte{30}, block(15)), api.ErrShort},
			"no end":           {[]byte{8, 'a'}, api.ErrText},
			"a long text":      {cat([]byte{8}, []byte(x), []byte{0}), api.ErrBig},
			"a size too long":  {cat([]byte{24}, tooLong()), api.ErrLeb},
			"no byte of truth": {[]byte{12}, api.ErrShort},
		} {
			wantRefused(t, "22, "+what, b.b, api.Spec{Form: indirect}, wide, b.e)
			wantRefused(t, what, b.b[1:], api.Spec{Form: int(b.b[0])}, wide, b.e)
		}
	}
}

// A refusal leaves the cursor where chapters 1 to 3 do.
func TestTakeStandsWhereItRefused(t *testing.T) {
	for _, x := range []struct {
		form int
		b    []byte
		at   int
		e    api.Errno
	}{
		{6, []byte{1, 2, 3}, 0, api.ErrShort},
		{15, []byte{0x81, 0x82}, 2, api.ErrShort},
		{15, cat(tooLong(), []byte{0}), 10, api.ErrLeb},
		{10, []byte{3, 1, 2}, 1, api.ErrShort},
		{4, cat(fixed(mostBytes+1, 4), []byte{1, 2}), 4, api.ErrBig},
		{9, cat(u(mostBytes+1), []byte{1, 2}), 3, api.ErrBig},
		{8, []byte("abc"), 0, api.ErrText},
		{sixteen, block(15), 0, api.ErrShort},
		{indirect, []byte{0x80}, 1, api.ErrShort},
		{indirect, []byte{8, 'a', 'b'}, 1, api.ErrText},
		{indirect, []byte{0x80, 1, 2}, 2, api.ErrForm},
		{indirect, []byte{indirect, 11, 2}, 1, api.ErrForm},
		{indirect, []byte{implicit, 11, 2}, 1, api.ErrForm},
		{2, []byte{1, 2}, 0, api.ErrForm},
	} {
		c := cursor.New(x.b)
		if got := raw.Take(c, api.Spec{Form: x.form}, false); !zero(got) || c.Err() != x.e || c.At() != x.at {
			t.Errorf("form %d of %x: Take = %s, %d at %d, want %d at %d", x.form, x.b, show(got), c.Err(), c.At(), x.e, x.at)
		}
	}
}

func TestTakeOfNobody(t *testing.T) {
	var none *cursor.Cursor
	var zeroed cursor.Cursor
	for _, c := range []*cursor.Cursor{none, &zeroed} {
		for form := -1; form < 50; form++ {
			for _, wide := range both {
				x := raw.Take(c, api.Spec{At: 3, Form: form, Implicit: 5}, wide)
				if !zero(x) || c.Err() != api.ErrNil || c.At() != 0 || c.Left() != 0 {
					t.Errorf("form %d: Take = %s, and the cursor tells %d at %d", form, show(x), c.Err(), c.At())
				}
			}
		}
	}
}

// A cursor that has refused keeps its first refusal, of forms that read no byte too.
func TestTakeOfARefusal(t *testing.T) {
	for _, e := range []api.Errno{api.ErrShort, api.ErrArg, api.ErrForm, api.ErrCheck, 999, -1} {
		for form := -1; form < 50; form++ {
			for _, b := range [][]byte{nil, {0}, make([]byte, 40), bytes.Repeat([]byte{11}, 40)} {
				c := cursor.New(b)
				c.U8()
				at := c.At()
				c.Fail(e)
				first := c.Err()
				x := raw.Take(c, api.Spec{At: 3, Form: form, Implicit: 5}, true)
				if !zero(x) || c.Err() != first || c.At() != at {
					t.Errorf("form %d: Take = %s, and the cursor tells %d at %d, want %d at %d", form, show(x), c.Err(), c.At(), first, at)
				}
			}
		}
	}
}

// A value ends where a cursor of its own does, though bytes follow beneath.
func TestTakeOfASub(t *testing.T) {
	for _, w := range table() {
		for _, wide := range both {
			x := values(w, wide)[0]
			b := lay(w, x, wide)
			for n := range b {
				c := cursor.New(cat(b, b)).Sub(uint64(n))
				if got := raw.Take(c, of(x), wide); !zero(got) || c.Err() == api.OK {
					t.Errorf("form %d, %d bytes: Take = %s, %d", w.form, n, show(got), c.Err())
				}
			}
			c := cursor.New(cat(b, b)).Sub(uint64(len(b)))
			if got := raw.Take(c, of(x), wide); !same(got, x) || c.End() != api.OK {
				t.Errorf("form %d: Take = %s, %d", w.form, show(got), c.End())
			}
		}
	}
}

// What is taken is new memory, each value's bytes of their own.
func TestWhatIsTakenSharesNoMemory(t *testing.T) {
	for _, w := range rows(sized, sizedU, plain) {
		want := block(16)
		p := api.Spec{Form: w.form}
		one := lay(w, api.Raw{B: want}, false)
		b := cat(one, one, one)
		c := cursor.New(b)
		var l []api.Raw
		for range 2 {
			l = append(l, raw.Take(c, p, false))
		}
		for i := range b {
			b[i] = 255
		}
		all := l[0].B[:cap(l[0].B)]
		for i := range all {
			all[i] = 254
		}
		_ = append(l[0].B, 253, 252, 251)
		l = append(l, raw.Take(c, p, false))
		c.Seek(0)
		l = append(l, raw.Take(c, p, false))
		for i, x := range l[1:] {
			if !bytes.Equal(x.B, want) {
				t.Errorf("form %d: value %d = %x", w.form, i+1, x.B)
			}
		}
	}
}

// Values one behind the other, as those of an entry.
func TestTakeOfValuesOneBehindTheOther(t *testing.T) {
	for _, wide := range both {
		var b []byte
		var l []api.Raw
		for range 2 {
			for _, w := range table() {
				for _, x := range values(w, wide)[:min(6, len(values(w, wide)))] {
					b = cat(b, lay(w, x, wide))
					l = append(l, x)
				}
			}
		}
		c := cursor.New(b)
		for i, x := range l {
			if got := raw.Take(c, of(x), wide); !same(got, x) {
				t.Fatalf("value %d, wide %v: Take = %s, %d, want %s", i, wide, show(got), c.Err(), show(x))
			}
		}
		if c.End() != api.OK {
			t.Errorf("wide %v: End = %d", wide, c.End())
		}
	}
}
