package unit_test

import (
	"bytes"
	"fmt"
	"slices"
	"testing"

	"sindri/api"
	"sindri/unit"
)

// P15.1

func TestAllOfNoBytes(t *testing.T) {
	wantAll(t, "nil", nil, nil)
	wantAll(t, "no bytes", []byte{}, nil)
}

func TestAllOfOne(t *testing.T) {
	for _, kind := range kinds {
		for _, wide := range both {
			for _, size := range []int{0, 1, 2, 127, 300, 65536, 100000} {
				section, heads := layAll(plain(kind, wide, bytes.Repeat([]byte{5}, size)...))
				wantAll(t, fmt.Sprintf("kind %d, wide %v, %d bytes of entries", kind, wide, size), section, heads)
			}
		}
	}
}

func TestAllOfSeveral(t *testing.T) {
	l := mixed()
	for range l {
		section, heads := layAll(l...)
		wantAll(t, "each kind", section, heads)
		l = append(l[1:], l[0])
	}
	for _, p := range mixed() {
		section, heads := layAll(p, p, p)
		wantAll(t, "one thrice", section, heads)
		if !slices.IsSortedFunc(heads, func(a, b unit.Head) int { return int(a.Off) - int(b.Off) }) {
			t.Errorf("they do not rise: %s", show(heads))
		}
	}
}

// The places are told of units of which it is known where they stand.
func TestAllTellsPlaces(t *testing.T) {
	section, _ := layAll(plain(compile, false, 1, 2), plain(typed, false, 3), plain(partial, true), plain(typed, true, 4, 5, 6))
	l, e := unit.All(section)
	if len(l) != 4 || e != api.OK {
		t.Fatalf("All = %s, %d", show(l), e)
	}
	for i, want := range [][3]uint64{{0, 12, 14}, {14, 38, 39}, {39, 63, 63}, {63, 103, 106}} {
		if got := [3]uint64{l[i].Off, l[i].First, l[i].End}; got != want {
			t.Errorf("unit %d: Off, First, End = %v, want %v", i, got, want)
		}
	}
}

func TestAllTellsNumbers(t *testing.T) {
	for _, kind := range kinds {
		for _, wide := range both {
			for _, n := range []uint64{0, 1, 255, 256, 65536, 1 << 31, half - 1, half, half + 1, 1 << 63, top - 1, top} {
				p := plain(kind, wide, 0)
				p.h.Abbrev = n & greatest(wide)
				section, heads := layAll(p, plain(typed, !wide))
				wantAll(t, fmt.Sprintf("kind %d, wide %v, Abbrev %d", kind, wide, n), section, heads)
				if kind != typed {
					continue
				}
				p.h.Sig = n
				section, heads = layAll(p)
				wantAll(t, fmt.Sprintf("wide %v, Sig %d", wide, n), section, heads)
				p.h.Type, p.h.Sig = n&greatest(wide), top-n
				section, heads = layAll(p)
				wantAll(t, fmt.Sprintf("wide %v, Type %d", wide, n), section, heads)
			}
		}
	}
}

// ahead is what may stand ahead of a unit that is wrong: none, and some.
func ahead() [][]byte {
	some, _ := layAll(mixed()...)
	return [][]byte{nil, lay(plain(compile, false)), some}
}

// wantWrongUnit looks that All refuses a unit's bytes, of the first unit and of a later one,
// and whatever stands behind, which is not read.
func wantWrongUnit(t *testing.T, what string, b []byte, e api.Errno) {
	t.Helper()
	for _, first := range ahead() {
		for _, behind := range [][]byte{nil, lay(plain(typed, true, 9)), {1}, {0, 0, 0, 0}, {255, 255, 255, 254}} {
			wantRefused(t, what, cat(first, b, behind), e)
		}
	}
}

// A section ends within a length, or ahead of a unit's end.
func TestAllOfWhatEnds(t *testing.T) {
	for _, first := range ahead() {
		for _, p := range mixed() {
			b := lay(p)
			for size := 1; size < len(b); size++ {
				wantRefused(t, fmt.Sprintf("%d of %d bytes", size, len(b)), cat(first, b[:size]), api.ErrShort)
			}
		}
		wantRefused(t, "too long", cat(first, long(9, false), numbers(plain(compile, false).h)), api.ErrShort)
		wantRefused(t, "too long, wide", cat(first, []byte{255, 255, 255, 255}, fixed(top, 8), numbers(plain(compile, true).h)), api.ErrShort)
		wantRefused(t, "too long for a number of four bytes", cat(first, fixed(0xffffffef, 4), numbers(plain(compile, false).h)), api.ErrShort)
	}
}

// A length that is none is told ahead of all that stands behind it.
func TestAllOfReservedLengths(t *testing.T) {
	for _, n := range []uint64{0xfffffff0, 0xfffffff1, 0xfffffffe} {
		for _, behind := range [][]byte{nil, {4}, numbers(plain(compile, false).h), make([]byte, 40)} {
			wantWrongUnit(t, fmt.Sprintf("length %x", n), cat(fixed(n, 4), behind), api.ErrLength)
		}
	}
}

// What is too short by its length ends within its numbers, though others follow.
func TestAllOfShortUnits(t *testing.T) {
	for _, kind := range kinds {
		for _, wide := range both {
			b := numbers(plain(kind, wide).h)
			for size := range len(b) {
				wantWrongUnit(t, fmt.Sprintf("kind %d, wide %v, %d of %d bytes", kind, wide, size, len(b)), wrap(wide, b[:size]), api.ErrShort)
			}
		}
	}
}

// with is bytes of which some are others.
func with(b []byte, at int, others ...byte) []byte {
	b = bytes.Clone(b)
	copy(b[at:], others)
	return b
}

// Of each number that stands fast another one is wrong, though the unit ends behind it.
func TestAllOfOtherNumbers(t *testing.T) {
	for _, kind := range kinds {
		for _, wide := range both {
			b := cat(numbers(plain(kind, wide).h), []byte{1, 2})
			for _, x := range []struct {
				what   string
				at     int
				others []byte
			}{
				{"the number 5", 0, []byte{4, 0}}, {"the number 5", 0, []byte{6, 0}}, {"the number 5", 0, []byte{0, 0}},
				{"the number 5", 0, []byte{5, 1}}, {"the number 5", 0, []byte{0, 5}}, {"the number 5", 0, []byte{5, 128}},
				{"the kind", 2, []byte{0}}, {"the kind", 2, []byte{4}}, {"the kind", 2, []byte{5}}, {"the kind", 2, []byte{6}},
				{"the kind", 2, []byte{129}}, {"the kind", 2, []byte{255}},
				{"the 8", 3, []byte{4}}, {"the 8", 3, []byte{7}}, {"the 8", 3, []byte{9}}, {"the 8", 3, []byte{0}}, {"the 8", 3, []byte{255}},
			} {
				wrong := with(b, x.at, x.others...)
				for size := x.at + len(x.others); size <= len(b); size++ {
					wantWrongUnit(t, fmt.Sprintf("kind %d, wide %v: %s is %x", kind, wide, x.what, x.others), wrap(wide, wrong[:size]), api.ErrUnit)
				}
			}
		}
	}
}

// What is wrong first is told: what ends stands behind what is another one, or ahead of it.
func TestAllTellsTheFirst(t *testing.T) {
	for _, x := range []struct {
		what string
		b    []byte
		e    api.Errno
	}{
		{"half of the number 5", []byte{4}, api.ErrShort},
		{"the number 4, and no kind", []byte{4, 0}, api.ErrUnit},
		{"no kind", []byte{5, 0}, api.ErrShort},
		{"a kind 0, and no 8", []byte{5, 0, 0}, api.ErrUnit},
		{"no 8", []byte{5, 0, 2}, api.ErrShort},
		{"a 4, and no offset", []byte{5, 0, 1, 4}, api.ErrUnit},
		{"no offset", []byte{5, 0, 1, 8}, api.ErrShort},
		{"all another one", []byte{4, 0, 9, 4, 0, 0, 0, 0}, api.ErrUnit},
	} {
		for _, wide := range both {
			wantWrongUnit(t, x.what, wrap(wide, x.b), x.e)
			short := cat(long(len(x.b)+1, wide), x.b) // the section ends ahead of the unit's end
			for _, first := range ahead() {
				wantRefused(t, x.what+", and the section ends", cat(first, short), api.ErrShort)
			}
		}
	}
}

// The first unit that is wrong is told.
func TestAllTellsTheFirstUnit(t *testing.T) {
	good := lay(plain(typed, false, 1))
	wrong := map[api.Errno][]byte{
		api.ErrUnit:   wrap(false, []byte{4, 0}),
		api.ErrShort:  wrap(true, []byte{5}),
		api.ErrLength: fixed(0xfffffff0, 4),
	}
	for e, one := range wrong {
		for other, two := range wrong {
			for _, between := range [][]byte{nil, good} {
				wantRefused(t, fmt.Sprintf("%d ahead of %d", e, other), cat(good, one, between, two), e)
			}
		}
	}
}

// many is so many units, of each kind.
func many(count int) []part {
	var l []part
	for i := range count {
		l = append(l, plain(kinds[i%3], i%7 == 0, make([]byte, i%5)...))
	}
	return l
}

func TestAllOfManyUnits(t *testing.T) {
	for _, count := range []int{2, most - 1, most} {
		section, heads := layAll(many(count)...)
		wantAll(t, fmt.Sprintf("%d units", count), section, heads)
	}
	for _, count := range []int{most + 1, most + 2, 2 * most, 1000} {
		section, _ := layAll(many(count)...)
		wantRefused(t, fmt.Sprintf("%d units", count), section, api.ErrBig)
	}
}

// A unit is one more behind all that is wrong of it, and ahead of what is wrong of the next one.
func TestAllOfManyUnitsAndAWrongOne(t *testing.T) {
	for what, x := range map[string]struct {
		b []byte
		e api.Errno
	}{
		"a length ends":         {[]byte{0, 0, 0}, api.ErrShort},
		"a length is reserved":  {fixed(0xfffffff5, 4), api.ErrLength},
		"a unit ends":           {long(20, false), api.ErrShort},
		"another number":        {wrap(false, []byte{4, 0, 1, 8, 0, 0, 0, 0}), api.ErrUnit},
		"another kind":          {wrap(true, []byte{5, 0, 4}), api.ErrUnit},
		"an offset ends":        {wrap(false, []byte{5, 0, 1, 8, 0, 0, 0}), api.ErrShort},
		"a unit without a byte": {wrap(false, nil), api.ErrShort},
	} {
		for _, count := range []int{most - 2, most - 1, most} {
			section, _ := layAll(many(count)...)
			wantRefused(t, fmt.Sprintf("%d units, and %s", count, what), cat(section, x.b), x.e)
		}
		for _, count := range []int{most + 1, most + 2} {
			section, _ := layAll(many(count)...)
			wantRefused(t, fmt.Sprintf("%d units, and %s", count, what), cat(section, x.b), api.ErrBig)
		}
	}
}
