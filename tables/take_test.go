package tables_test

import (
	"bytes"
	"fmt"
	"slices"
	"testing"

	"sindri/api"
	"sindri/tables"
)

// P16.1

func TestTakeOfNoBytes(t *testing.T) {
	for _, s := range sorts() {
		s.wantTake(t, "nil", nil, nil)
		s.wantTake(t, "no bytes", []byte{}, nil)
	}
}

func TestTakeOfOne(t *testing.T) {
	for _, s := range sorts() {
		for _, wide := range both {
			for _, count := range []int{0, 1, 2, 3, 31, 300, 20000} {
				section, want := s.layAll(s.table(wide, count))
				s.wantTake(t, fmt.Sprintf("wide %v, %d items", wide, count), section, want)
			}
		}
	}
}

func TestTakeOfSeveral(t *testing.T) {
	for _, s := range sorts() {
		l := s.mixed()
		for range l {
			section, want := s.layAll(l...)
			s.wantTake(t, "wide and not", section, want)
			l = slices.Concat(l[1:], l[:1])
		}
		for _, p := range l {
			section, want := s.layAll(p, p, p)
			s.wantTake(t, "one thrice", section, want)
		}
	}
}

// The bases are told of tables of which it is known where they stand.
func TestTakeTellsBases(t *testing.T) {
	for _, x := range []struct {
		s    sort
		want []uint64
	}{
		{strs(), []uint64{8, 16, 40, 72, 92}},
		{addrs(), []uint64{8, 16, 48, 80, 104}},
	} {
		s := x.s
		section, _ := s.layAll(s.table(false, 0), s.table(false, 2), s.table(true, 3), s.table(false, 1), s.table(true, 0))
		l, e := s.take(section)
		if len(l) != len(x.want) || e != api.OK {
			t.Fatalf("%s = %s, %d", s.name, show(l), e)
		}
		for i, want := range x.want {
			if l[i].Base != want || l[i].Wide != (i == 2 || i == 4) {
				t.Errorf("%s: table %d: %+v, want the base %d", s.name, i, l[i], want)
			}
		}
	}
}

func TestTakeTellsItems(t *testing.T) {
	for _, s := range sorts() {
		for _, wide := range both {
			most := s.greatest(wide)
			l := []uint64{0, 1, 255, 256, 65535, 65536, 1 << 31, half - 1, half}
			if most == top {
				l = append(l, half+1, 0x0102030405060708, 1<<63-1, 1<<63, top-1, top)
			}
			section, want := s.layAll(part{wide, l}, s.table(!wide, 1), part{wide, []uint64{most, most, 0}})
			s.wantTake(t, fmt.Sprintf("wide %v", wide), section, want)
			for _, n := range l {
				section, want := s.layAll(part{wide, []uint64{n}})
				s.wantTake(t, fmt.Sprintf("wide %v, item %d", wide, n), section, want)
			}
		}
	}
}

// Each section's bytes, written out, tell what they should: an address has eight bytes in
// tables that are not wide, too.
func TestTakeOfWrittenBytes(t *testing.T) {
	strs().wantTake(t, "offsets", []byte{12, 0, 0, 0, 5, 0, 0, 0, 1, 2, 3, 4, 255, 0, 0, 0},
		[]tables.Table{{Base: 8, Items: []uint64{0x04030201, 255}}})
	strs().wantTake(t, "wide offsets", []byte{255, 255, 255, 255, 12, 0, 0, 0, 0, 0, 0, 0, 5, 0, 0, 0, 1, 2, 3, 4, 5, 6, 7, 8},
		[]tables.Table{{Wide: true, Base: 16, Items: []uint64{0x0807060504030201}}})
	addrs().wantTake(t, "addresses", []byte{12, 0, 0, 0, 5, 0, 8, 0, 1, 2, 3, 4, 5, 6, 7, 8, 4, 0, 0, 0, 5, 0, 8, 0},
		[]tables.Table{{Base: 8, Items: []uint64{0x0807060504030201}}, {Base: 24}})
	addrs().wantTake(t, "addresses of a wide table", []byte{255, 255, 255, 255, 12, 0, 0, 0, 0, 0, 0, 0, 5, 0, 8, 0, 1, 2, 3, 4, 5, 6, 7, 8},
		[]tables.Table{{Wide: true, Base: 16, Items: []uint64{0x0807060504030201}}})
}

// ahead is what may stand ahead of a table that is wrong: none, and some.
func (s sort) ahead() [][]byte {
	some, _ := s.layAll(s.mixed()...)
	return [][]byte{nil, s.lay(s.table(false, 0)), s.lay(s.table(true, 2)), some}
}

// wantWrongTable looks that a table's bytes are refused, of the first table and of a later
// one, and whatever stands behind, which is not read.
func (s sort) wantWrongTable(t *testing.T, what string, b []byte, e api.Errno) {
	t.Helper()
	for _, first := range s.ahead() {
		for _, behind := range [][]byte{nil, s.lay(s.table(true, 1)), {1}, {0, 0, 0, 0}, {255, 255, 255, 254}} {
			s.wantRefused(t, what, cat(first, b, behind), e)
		}
	}
}

// A section ends within a length, or ahead of a table's end.
func TestTakeOfWhatEnds(t *testing.T) {
	for _, s := range sorts() {
		for _, first := range s.ahead() {
			for _, p := range s.mixed() {
				b := s.lay(p)
				for size := 1; size < len(b); size++ {
					s.wantRefused(t, fmt.Sprintf("%d of %d bytes", size, len(b)), cat(first, b[:size]), api.ErrShort)
				}
			}
			s.wantRefused(t, "too long", cat(first, long(5, false), s.head), api.ErrShort)
			s.wantRefused(t, "too long, wide", cat(first, []byte{255, 255, 255, 255}, fixed(top, 8), s.head), api.ErrShort)
			s.wantRefused(t, "too long for a number of four bytes", cat(first, fixed(0xffffffef, 4), s.head), api.ErrShort)
		}
	}
}

// A length that is none is told ahead of all that stands behind it.
func TestTakeOfReservedLengths(t *testing.T) {
	for _, s := range sorts() {
		for n := uint64(0xfffffff0); n < 0xffffffff; n++ {
			for _, behind := range [][]byte{nil, {4}, s.head, s.lay(s.table(false, 2)), make([]byte, 40)} {
				s.wantWrongTable(t, fmt.Sprintf("length %x", n), cat(fixed(n, 4), behind), api.ErrLength)
			}
		}
	}
}

// What is too short by its length ends within the numbers ahead of the items, though
// others follow; with just these it is a table without items.
func TestTakeOfShortTables(t *testing.T) {
	for _, s := range sorts() {
		for _, wide := range both {
			for size := range len(s.head) {
				s.wantWrongTable(t, fmt.Sprintf("wide %v, %d bytes", wide, size), wrap(wide, s.head[:size]), api.ErrShort)
			}
			_, want := s.layAll(part{wide: wide})
			s.wantTake(t, fmt.Sprintf("wide %v, just the numbers", wide), wrap(wide, s.head), want)
		}
	}
}

// with is bytes of which some are others.
func with(b []byte, at int, others ...byte) []byte {
	b = bytes.Clone(b)
	copy(b[at:], others)
	return b
}

// other is bytes that stand in the place of what stands fast.
type other struct {
	what   string
	at     int
	others []byte
}

// wrongs is another one of each number ahead of the items.
func (s sort) wrongs() []other {
	l := []other{
		{"the 5", 0, []byte{4, 0}}, {"the 5", 0, []byte{6, 0}}, {"the 5", 0, []byte{0, 0}}, {"the 5", 0, []byte{5, 1}},
		{"the 5", 0, []byte{0, 5}}, {"the 5", 0, []byte{5, 128}}, {"the 5", 0, []byte{255, 255}},
	}
	if s.name == "Strs" {
		return append(l, []other{
			{"the 0", 2, []byte{1, 0}}, {"the 0", 2, []byte{0, 1}}, {"the 0", 2, []byte{8, 0}}, {"the 0", 2, []byte{0, 8}},
			{"the 0", 2, []byte{128, 0}}, {"the 0", 2, []byte{0, 128}}, {"the 0", 2, []byte{255, 255}},
		}...)
	}
	return append(l, []other{
		{"the 8", 2, []byte{4}}, {"the 8", 2, []byte{7}}, {"the 8", 2, []byte{9}}, {"the 8", 2, []byte{0}}, {"the 8", 2, []byte{255}},
		{"the 0", 3, []byte{1}}, {"the 0", 3, []byte{8}}, {"the 0", 3, []byte{128}}, {"the 0", 3, []byte{255}},
	}...)
}

// Of each number that stands fast another one is wrong, whatever the items are, and though
// they are no whole number; but what ends within these numbers is told ahead of that.
func TestTakeOfOtherNumbers(t *testing.T) {
	for _, s := range sorts() {
		for _, wide := range both {
			b := cat(s.head, make([]byte, 17))
			for _, x := range s.wrongs() {
				what := fmt.Sprintf("wide %v: %s is %x", wide, x.what, x.others)
				wrong := with(b, x.at, x.others...)
				for size := len(s.head); size <= len(b); size++ {
					s.wantWrongTable(t, what, wrap(wide, wrong[:size]), api.ErrUnit)
				}
				for size := range len(s.head) {
					s.wantWrongTable(t, what+", and it ends", wrap(wide, wrong[:size]), api.ErrShort)
				}
			}
		}
	}
}

// Each other value of each byte ahead of the items is wrong.
func TestTakeOfOtherBytes(t *testing.T) {
	for _, s := range sorts() {
		b := s.lay(s.table(false, 2))
		for i := 4; i < 8; i++ {
			for n := range 255 {
				s.wantRefused(t, fmt.Sprintf("byte %d", i), with(b, i, b[i]+byte(n)+1), api.ErrUnit)
			}
		}
	}
}

// A rest that is no whole number of items is refused, also if another table would fit it.
func TestTakeOfPartsOfItems(t *testing.T) {
	for _, s := range sorts() {
		for _, wide := range both {
			size := s.size(wide)
			for n := range 5 * size {
				b := wrap(wide, cat(s.head, make([]byte, n)))
				what := fmt.Sprintf("wide %v, %d bytes of items", wide, n)
				if n%size != 0 {
					s.wantWrongTable(t, what, b, api.ErrShort)
					continue
				}
				_, want := s.layAll(part{wide, make([]uint64, n/size)})
				s.wantTake(t, what, b, want)
			}
		}
	}
}

// What is wrong of a table is told in the order that the chapter names.
func TestTakeTellsTheFirst(t *testing.T) {
	for _, s := range sorts() {
		wrong := with(s.head, 0, 4)
		for _, x := range []struct {
			what string
			b    []byte
			e    api.Errno
		}{
			{"it ends within a number that is another one", []byte{4}, api.ErrShort},
			{"it ends behind a number that is another one", []byte{4, 0}, api.ErrShort},
			{"it ends within the last number", []byte{4, 0, 1}, api.ErrShort},
			{"another number, and no item", wrong, api.ErrUnit},
			{"another number, and a part of an item", cat(wrong, []byte{1, 2, 3}), api.ErrUnit},
			{"a part of an item", cat(s.head, []byte{1, 2, 3}), api.ErrShort},
		} {
			for _, wide := range both {
				s.wantWrongTable(t, x.what, wrap(wide, x.b), x.e)
				short := cat(long(len(x.b)+1, wide), x.b) // the section ends ahead of the table's end
				for _, first := range s.ahead() {
					s.wantRefused(t, x.what+", and the section ends", cat(first, short), api.ErrShort)
				}
			}
		}
	}
}

// The first table that is wrong is told.
func TestTakeTellsTheFirstTable(t *testing.T) {
	for _, s := range sorts() {
		good := s.lay(s.table(true, 1))
		wrong := map[api.Errno][]byte{
			api.ErrUnit:   wrap(false, with(s.head, 3, 1)),
			api.ErrShort:  wrap(true, cat(s.head, []byte{5})),
			api.ErrLength: fixed(0xfffffff0, 4),
		}
		for e, one := range wrong {
			for other, two := range wrong {
				for _, between := range [][]byte{nil, good} {
					s.wantRefused(t, fmt.Sprintf("%d ahead of %d", e, other), cat(good, one, between, two), e)
				}
			}
		}
	}
}

// A section of one sort is none of the other, whatever its items are.
func TestTakeOfTheOtherSort(t *testing.T) {
	for _, x := range [][2]sort{{strs(), addrs()}, {addrs(), strs()}} {
		s, o := x[0], x[1]
		for _, p := range o.mixed() {
			s.wantWrongTable(t, "a table of the other sort", o.lay(p), api.ErrUnit)
		}
		section, _ := o.layAll(o.mixed()...)
		s.wantRefused(t, "a section of the other sort", section, api.ErrUnit)
	}
}

// many is so many tables.
func (s sort) many(count int) []part {
	var l []part
	for i := range count {
		l = append(l, s.table(i%3 == 0, i%5))
	}
	return l
}

func TestTakeOfManyTables(t *testing.T) {
	for _, s := range sorts() {
		for _, count := range []int{2, most - 1, most} {
			section, want := s.layAll(s.many(count)...)
			s.wantTake(t, fmt.Sprintf("%d tables", count), section, want)
			section, want = s.layAll(make([]part, count)...)
			s.wantTake(t, fmt.Sprintf("%d tables without items", count), section, want)
		}
		for _, count := range []int{most + 1, most + 2, 2 * most, 1000} {
			section, _ := s.layAll(s.many(count)...)
			s.wantRefused(t, fmt.Sprintf("%d tables", count), section, api.ErrBig)
		}
	}
}

// A table is one more behind all that is wrong of it, and ahead of what is wrong of the
// next one.
func TestTakeOfManyTablesAndAWrongOne(t *testing.T) {
	for _, s := range sorts() {
		for what, x := range map[string]struct {
			b []byte
			e api.Errno
		}{
			"a length ends":          {[]byte{0, 0, 0}, api.ErrShort},
			"a length is reserved":   {fixed(0xfffffff5, 4), api.ErrLength},
			"a table ends":           {long(20, false), api.ErrShort},
			"another number":         {wrap(false, with(s.head, 0, 4)), api.ErrUnit},
			"the last number":        {wrap(true, with(s.head, 3, 4)), api.ErrUnit},
			"a number ends":          {wrap(false, s.head[:3]), api.ErrShort},
			"an item ends":           {wrap(true, cat(s.head, []byte{1, 2, 3, 4, 5, 6, 7})), api.ErrShort},
			"a table without a byte": {wrap(false, nil), api.ErrShort},
		} {
			for _, count := range []int{most - 2, most - 1, most} {
				section, _ := s.layAll(s.many(count)...)
				s.wantRefused(t, fmt.Sprintf("%d tables, and %s", count, what), cat(section, x.b), x.e)
			}
			for _, count := range []int{most + 1, most + 2} {
				section, _ := s.layAll(s.many(count)...)
				s.wantRefused(t, fmt.Sprintf("%d tables, and %s", count, what), cat(section, x.b), api.ErrBig)
			}
		}
	}
}
