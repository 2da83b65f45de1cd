package abbrev_test

import (
	"bytes"
	"fmt"
	"slices"
	"testing"

	"sindri/abbrev"
	"sindri/api"
	"sindri/cursor"
)

const (
	top      = 1<<64 - 1
	most     = 1<<63 - 1 // the greatest of signed numbers
	least    = -1 << 63  // the least of them
	abbrevs  = 300       // the most of a table
	pairs    = 40        // the most of an abbreviation
	constant = 33        // the form of an implicit constant
)

// u is a number of 7-bit bytes, the fewest.
func u(n uint64) []byte {
	var b []byte
	for ; n >= 128; n /= 128 {
		b = append(b, byte(n%128)+128)
	}
	return append(b, byte(n))
}

// s is a number of 7-bit bytes, the fewest, that may be below 0.
func s(n int64) []byte {
	var b []byte
	for ; n < -64 || n > 63; n >>= 7 {
		b = append(b, byte(n&127)+128)
	}
	return append(b, byte(n&127))
}

// long is a number's bytes with more of them, up to so many, which leave it as it is:
// of 0, or, of a number below 0, of 127.
func long(b []byte, size int, fill byte) []byte {
	b = bytes.Clone(b)
	for len(b) < size {
		b[len(b)-1] += 128
		b = append(b, fill)
	}
	return b
}

// tooLong is as many bytes as a number may have, none of which ends it.
func tooLong() []byte { return bytes.Repeat([]byte{128}, 10) }

// cat is parts one behind the other.
func cat(parts ...[]byte) []byte { return slices.Concat(parts...) }

// lay is an abbreviation's bytes, by the chapter's words.
func lay(a api.Abbrev) []byte {
	b := cat(u(a.Code), u(uint64(a.Tag)), []byte{0})
	if a.Kids {
		b[len(b)-1] = 1
	}
	for _, p := range a.Specs {
		b = cat(b, layPair(p))
	}
	return append(b, 0, 0)
}

// layPair is a pair's bytes.
func layPair(p api.Spec) []byte {
	b := cat(u(uint64(p.At)), u(uint64(p.Form)))
	if p.Form == constant {
		b = cat(b, s(p.Implicit))
	}
	return b
}

// layAll is a table's bytes.
func layAll(l ...api.Abbrev) []byte {
	var b []byte
	for _, a := range l {
		b = cat(b, lay(a))
	}
	return append(b, 0)
}

// plain is a table that may be.
func plain() []api.Abbrev {
	return []api.Abbrev{
		{Code: 1, Tag: 17, Kids: true, Specs: []api.Spec{{At: 3, Form: 8}, {At: 19, Form: constant, Implicit: -2}, {At: 17, Form: 1}}},
		{Code: 300, Tag: 46, Specs: []api.Spec{{At: 3, Form: 14}, {At: 0x2110, Form: 0x1f01}, {At: 58, Form: constant, Implicit: 300}}},
		{Code: 2, Tag: 52},
		{Code: top, Tag: 0x4109, Kids: true, Specs: []api.Spec{{At: 73, Form: 19}}},
	}
}

// pile is so many pairs that may be, each of another attribute.
func pile(count int) []api.Spec {
	var l []api.Spec
	for i := range count {
		p := api.Spec{At: 100 + i, Form: 1 + i}
		if i%5 == 0 {
			p.Form, p.Implicit = constant, int64(i-20)
		}
		l = append(l, p)
	}
	return l
}

// several is so many abbreviations that may be, each of another code.
func several(count int) []api.Abbrev {
	var l []api.Abbrev
	for i := range count {
		l = append(l, api.Abbrev{Code: uint64(count - i), Tag: 1 + i*200, Kids: i%3 == 0, Specs: pile(i % 4)})
	}
	return l
}

// held is a copy of a table, that shares no list with it, with what stands in its
// lists' spare room.
func held(l []api.Abbrev) []api.Abbrev {
	h := slices.Clone(l[:cap(l)])
	for i, a := range h {
		h[i].Specs = slices.Clone(a.Specs[:cap(a.Specs)])
	}
	return h
}

// roomy is a table whose lists have room behind them, with something in it that may
// not be.
func roomy(l []api.Abbrev) []api.Abbrev {
	r := append(make([]api.Abbrev, 0, len(l)+2), l...)
	for i, a := range r {
		specs := append(make([]api.Spec, 0, len(a.Specs)+2), a.Specs...)
		r[i].Specs = append(specs, api.Spec{At: -1}, api.Spec{Form: 70000})[:len(specs)]
	}
	return append(r, api.Abbrev{Tag: -1}, api.Abbrev{Code: 5})[:len(l)]
}

// same tells whether two tables are the same; a list without an element may be nil.
func same(a, b []api.Abbrev) bool {
	return slices.EqualFunc(a, b, func(x, y api.Abbrev) bool {
		return x.Code == y.Code && x.Tag == y.Tag && x.Kids == y.Kids && slices.Equal(x.Specs, y.Specs)
	})
}

// show tells so many of a table as can be read.
func show(l []api.Abbrev) string {
	return fmt.Sprintf("%d of %.300s", len(l), fmt.Sprintf("%+v", l[:min(len(l), 6)]))
}

// wantTake looks at what Take tells of a table with other bytes behind it, and
// where the cursor stands then.
func wantTake(t *testing.T, what string, b []byte, want []api.Abbrev) {
	t.Helper()
	for _, behind := range [][]byte{nil, {0}, {0, 0, 0}, {1, 17}, {255}, b} {
		all := cat(b, behind)
		c := cursor.New(all)
		l, e := abbrev.Take(c)
		if !same(l, want) || e != api.OK {
			t.Errorf("%s: Take = %s, %d, want %s, 0", what, show(l), e, show(want))
			return
		}
		if c.At() != len(b) || c.Err() != api.OK || !bytes.Equal(c.Bytes(uint64(len(behind))), behind) || c.End() != api.OK {
			t.Errorf("%s: with %x behind it the cursor stands at %d of %d, with %d", what, behind, c.At(), len(b), c.Err())
		}
	}
}

// wantRefused looks that Take refuses, and what the cursor tells then.
func wantRefused(t *testing.T, what string, b []byte, e api.Errno) {
	t.Helper()
	c := cursor.New(b)
	if l, got := abbrev.Take(c); len(l) != 0 || got != e {
		t.Errorf("%s: Take = %s, %d, want none, %d", what, show(l), got, e)
	}
	if c.Err() != e || c.End() != e || c.Left() != 0 {
		t.Errorf("%s: the cursor tells %d and %d, with %d left, want %d", what, c.Err(), c.End(), c.Left(), e)
	}
	c.Fail(api.ErrCheck)
	if c.U8() != 0 || c.Err() != e {
		t.Errorf("%s: the cursor tells %d later", what, c.Err())
	}
	if l, got := abbrev.Take(c); len(l) != 0 || got != e {
		t.Errorf("%s: Take, once more, = %s, %d, want none, %d", what, show(l), got, e)
	}
}

// wantAt looks at what At tells, and that it leaves the section.
func wantAt(t *testing.T, what string, section []byte, off uint64, want []api.Abbrev, e api.Errno) {
	t.Helper()
	before := bytes.Clone(section[:cap(section)])
	if l, got := abbrev.At(section, off); !same(l, want) || got != e {
		t.Errorf("%s: At(%d bytes, %d) = %s, %d, want %s, %d", what, len(section), off, show(l), got, show(want), e)
	}
	if !bytes.Equal(section[:cap(section)], before) {
		t.Errorf("%s: At changed the section", what)
	}
}

// wantPut looks at what Put puts of a table that may be, behind no bytes and behind
// some, and that it leaves what it is handed.
func wantPut(t *testing.T, what string, l []api.Abbrev, want []byte) {
	t.Helper()
	before := held(l)
	if !abbrev.Right(l) {
		t.Errorf("%s: Right = false", what)
	}
	for _, ahead := range [][]byte{nil, {}, {0}, {7, 8, 9}, make([]byte, 3, 4000)} {
		first := bytes.Clone(ahead)
		b, e := abbrev.Put(ahead, l)
		if e != api.OK || !bytes.Equal(b, cat(first, want)) {
			t.Errorf("%s: Put behind %x = %.60x of %d, %d, want %.60x of %d, 0", what, first, b, len(b), e, cat(first, want), len(first)+len(want))
		}
		if !bytes.Equal(ahead, first) {
			t.Errorf("%s: Put made %x of the bytes ahead", what, ahead)
		}
	}
	if !same(held(l), before) {
		t.Errorf("%s: the table is changed", what)
	}
}

// wantWrong looks that Right and Put refuse a table, and leave what they are handed.
func wantWrong(t *testing.T, what string, l []api.Abbrev) {
	t.Helper()
	before := held(l)
	if abbrev.Right(l) {
		t.Errorf("%s: Right = true", what)
	}
	room := bytes.Repeat([]byte{99}, 9000)
	for _, ahead := range [][]byte{nil, {1, 2, 3}, room[:0], room[:5]} {
		if b, e := abbrev.Put(ahead, l); len(b) != 0 || e != api.ErrArg {
			t.Errorf("%s: Put = %.60x of %d, %d, want none and %d", what, b, len(b), e, api.ErrArg)
		}
	}
	if !bytes.Equal(room, bytes.Repeat([]byte{99}, 9000)) {
		t.Errorf("%s: Put wrote where it was handed room", what)
	}
	if !same(held(l), before) {
		t.Errorf("%s: the table is changed", what)
	}
}

// example is the chapter's.
var example = []byte{0x01, 0x11, 0x01, 0x03, 0x08, 0x00, 0x00, 0x00}

func TestExample(t *testing.T) {
	want := []api.Abbrev{{Code: 1, Tag: 17, Kids: true, Specs: []api.Spec{{At: 3, Form: 8}}}}
	wantTake(t, "the example", example, want)
	wantAt(t, "the example", example, 0, want, api.OK)
	wantPut(t, "the example", want, example)
	if a, ok := abbrev.Find(want, 1); !ok || !same([]api.Abbrev{a}, want) {
		t.Errorf("Find = %+v, %v", a, ok)
	}
}

// The tests' own bytes are right, so that a fault in them hides none.
func TestLay(t *testing.T) {
	want := []byte{
		1, 17, 1, 3, 8, 19, 33, 0x7e, 17, 1, 0, 0,
		0xac, 2, 46, 0, 3, 14, 0x90, 0x42, 0x81, 0x3e, 58, 33, 0xac, 2, 0, 0,
		2, 52, 0, 0, 0,
		255, 255, 255, 255, 255, 255, 255, 255, 255, 1, 0x89, 0x82, 1, 1, 73, 19, 0, 0,
		0,
	}
	if got := layAll(plain()...); !bytes.Equal(got, want) {
		t.Errorf("layAll = %x, want %x", got, want)
	}
	for n, want := range map[int64]string{0: "00", 63: "3f", 64: "c000", -64: "40", -65: "bf7f", most: "ffffffffffffffffff00", least: "8080808080808080807f"} {
		if got := fmt.Sprintf("%x", s(n)); got != want {
			t.Errorf("s(%d) = %s", n, got)
		}
	}
}
