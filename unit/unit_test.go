package unit_test

import (
	"bytes"
	"fmt"
	"slices"
	"testing"

	"sindri/api"
	"sindri/unit"
)

const (
	top     = 1<<64 - 1
	half    = 1<<32 - 1 // the greatest offset that is not wide
	most    = 60        // the most units of a section
	compile = 1
	typed   = 2
	partial = 3
)

// both is whether a unit is wide.
var both = []bool{false, true}

// kinds is each kind of units.
var kinds = []int{compile, typed, partial}

// part is a unit: its head, of which Off, First and End do not count, and its entries.
type part struct {
	h    unit.Head
	body []byte
}

// fixed is a number of so many bytes.
func fixed(n uint64, size int) []byte {
	b := make([]byte, size)
	for i := range b {
		b[i] = byte(n)
		n /= 256
	}
	return b
}

// cat is parts one behind the other.
func cat(parts ...[]byte) []byte { return slices.Concat(parts...) }

// greatest is the greatest offset.
func greatest(wide bool) uint64 {
	if wide {
		return top
	}
	return half
}

// offset is an offset's bytes.
func offset(n uint64, wide bool) []byte {
	if wide {
		return fixed(n, 8)
	}
	return fixed(n, 4)
}

// long is a length's bytes.
func long(n int, wide bool) []byte {
	if wide {
		return cat([]byte{255, 255, 255, 255}, fixed(uint64(n), 8))
	}
	return fixed(uint64(n), 4)
}

// wrap is bytes with their length ahead of them.
func wrap(wide bool, b []byte) []byte { return cat(long(len(b), wide), b) }

// numbers is the bytes of a head's numbers, behind the length, as the chapter has them.
func numbers(h unit.Head) []byte {
	b := cat(fixed(5, 2), fixed(uint64(h.Kind), 1), fixed(8, 1), offset(h.Abbrev, h.Wide))
	if h.Kind == typed {
		b = cat(b, fixed(h.Sig, 8), offset(h.Type, h.Wide))
	}
	return b
}

// lay is a unit's bytes.
func lay(p part) []byte { return wrap(p.h.Wide, cat(numbers(p.h), p.body)) }

// layAll is a section's bytes, and its units' heads with the places that they have.
func layAll(l ...part) (section []byte, heads []unit.Head) {
	for _, p := range l {
		h := p.h
		h.Off = uint64(len(section))
		section = cat(section, lay(p))
		h.End = uint64(len(section))
		h.First = h.End - uint64(len(p.body))
		heads = append(heads, h)
	}
	return section, heads
}

// plain is a unit of some kind.
func plain(kind int, wide bool, body ...byte) part {
	p := part{unit.Head{Kind: kind, Wide: wide, Abbrev: 0x04030201}, body}
	if kind == typed {
		p.h.Sig, p.h.Type = 0x8877665544332211, 0x64636261
	}
	return p
}

// mixed is units of each kind, wide and not, with some entries.
func mixed() []part {
	var l []part
	for i, kind := range kinds {
		for _, wide := range both {
			l = append(l, plain(kind, wide, bytes.Repeat([]byte{byte(7 + i)}, i+len(l))...))
		}
	}
	return l
}

// short tells so much of bytes as can be read.
func short(b []byte) string { return fmt.Sprintf("%.60x of %d", b, len(b)) }

// show tells so many heads as can be read.
func show(l []unit.Head) string {
	return fmt.Sprintf("%d of %.400s", len(l), fmt.Sprintf("%+v", l[:min(len(l), 6)]))
}

// roomy is bytes with others in the room behind them.
func roomy(b []byte) []byte {
	return cat(b, lay(plain(compile, false, 1)))[:len(b)]
}

// wantAll looks at what All tells, also of bytes with room behind them, and that it
// leaves them, and tells new memory.
func wantAll(t *testing.T, what string, section []byte, want []unit.Head) {
	t.Helper()
	for _, b := range [][]byte{bytes.Clone(section), roomy(section)} {
		before := bytes.Clone(b[:cap(b)])
		l, e := unit.All(b)
		if !slices.Equal(l, want) || e != api.OK {
			t.Errorf("%s: All = %s, %d, want %s, 0", what, show(l), e, show(want))
			return
		}
		if !bytes.Equal(b[:cap(b)], before) {
			t.Errorf("%s: All changed the section", what)
		}
		clear(l[:cap(l)])
		if l, e := unit.All(b); !slices.Equal(l, want) || e != api.OK {
			t.Errorf("%s: All, once more, = %s, %d, want %s, 0", what, show(l), e, show(want))
		}
	}
}

// wantRefused looks that All refuses, and leaves the section.
func wantRefused(t *testing.T, what string, section []byte, e api.Errno) {
	t.Helper()
	for _, b := range [][]byte{bytes.Clone(section), roomy(section)} {
		before := bytes.Clone(b[:cap(b)])
		if l, got := unit.All(b); len(l) != 0 || got != e {
			t.Errorf("%s: All(%s) = %s, %d, want none, %d", what, short(b), show(l), got, e)
		}
		if !bytes.Equal(b[:cap(b)], before) {
			t.Errorf("%s: All changed the section", what)
		}
	}
}

// wantPut looks at what Put puts, whatever the places of the head are, and that it leaves
// the body, and answers new memory.
func wantPut(t *testing.T, what string, h unit.Head, body, want []byte) {
	t.Helper()
	for _, places := range [][3]uint64{{}, {h.Off, h.First, h.End}, {1, 2, 3}, {top, top - 1, top - 2}} {
		h.Off, h.First, h.End = places[0], places[1], places[2]
		for _, behind := range [][]byte{nil, bytes.Repeat([]byte{99}, 100)} {
			given := cat(body, behind)[:len(body)]
			b, e := unit.Put(h, given)
			if !bytes.Equal(b, want) || e != api.OK {
				t.Errorf("%s: Put(%+v, %s) = %s, %d, want %s, 0", what, h, short(body), short(b), e, short(want))
				return
			}
			clear(b[:cap(b)])
			if !bytes.Equal(given[:cap(given)][:len(body)+len(behind)], cat(body, behind)) {
				t.Errorf("%s: Put changed the body, or answered its memory", what)
			}
		}
	}
}

// wantWrong looks that Put refuses a head, whatever it has for entries.
func wantWrong(t *testing.T, what string, h unit.Head) {
	t.Helper()
	for _, body := range [][]byte{nil, {}, {0}, {1, 2, 3, 0}} {
		before := bytes.Clone(body)
		if b, e := unit.Put(h, body); len(b) != 0 || e != api.ErrArg {
			t.Errorf("%s: Put(%+v) = %s, %d, want none, %d", what, h, short(b), e, api.ErrArg)
		}
		if !bytes.Equal(body, before) {
			t.Errorf("%s: Put changed the body", what)
		}
	}
}

// The chapter's example.
func TestExample(t *testing.T) {
	want := []byte{9, 0, 0, 0, 5, 0, 1, 8, 0, 0, 0, 0, 0}
	wantPut(t, "the example", unit.Head{Kind: compile}, []byte{0}, want)
	wantAll(t, "the example", want, []unit.Head{{Kind: compile, Off: 0, First: 12, End: 13}})
}

// The tests' own bytes are right, so that a fault in them hides none.
func TestLay(t *testing.T) {
	for _, x := range []struct {
		p    part
		want string
	}{
		{plain(compile, false, 7), "09000000" + "0500" + "01" + "08" + "01020304" + "07"},
		{plain(partial, true), "ffffffff0c00000000000000" + "0500" + "03" + "08" + "0102030400000000"},
		{plain(typed, false, 7, 9), "16000000" + "0500" + "02" + "08" + "01020304" + "1122334455667788" + "61626364" + "0709"},
		{plain(typed, true), "ffffffff1c00000000000000" + "0500" + "02" + "08" + "0102030400000000" + "1122334455667788" + "6162636400000000"},
	} {
		if got := fmt.Sprintf("%x", lay(x.p)); got != x.want {
			t.Errorf("lay(%+v) = %s, want %s", x.p, got, x.want)
		}
	}
	_, heads := layAll(plain(compile, false, 7), plain(typed, true), plain(partial, false, 1, 2))
	want := [][3]uint64{{0, 12, 13}, {13, 53, 53}, {53, 65, 67}}
	for i, h := range heads {
		if got := [3]uint64{h.Off, h.First, h.End}; got != want[i] {
			t.Errorf("unit %d: %v, want %v", i, got, want[i])
		}
	}
}
