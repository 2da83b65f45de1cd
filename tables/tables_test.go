package tables_test

import (
	"bytes"
	"fmt"
	"slices"
	"testing"

	"sindri/api"
	"sindri/tables"
)

const (
	top  = 1<<64 - 1
	half = 1<<32 - 1 // the greatest offset that is not wide
	most = 60        // the most tables of a section
)

// both is whether a table is wide.
var both = []bool{false, true}

// sort is a section: how its tables are taken and put, and what the chapter has for their
// bytes ahead of the items, and for an item's size.
type sort struct {
	name string
	take func([]byte) ([]tables.Table, api.Errno)
	put  func(bool, []uint64) ([]byte, api.Errno)
	head []byte
	size func(wide bool) int
}

// offsets is how many bytes an offset has, addresses how many an address.
func offsets(wide bool) int {
	if wide {
		return 8
	}
	return 4
}

func addresses(bool) int { return 8 }

func strs() sort {
	return sort{"Strs", tables.Strs, tables.PutStrs, []byte{5, 0, 0, 0}, offsets}
}

func addrs() sort {
	return sort{"Addrs", tables.Addrs, tables.PutAddrs, []byte{5, 0, 8, 0}, addresses}
}

// sorts is both sections.
func sorts() []sort { return []sort{strs(), addrs()} }

// greatest is the greatest item of a table.
func (s sort) greatest(wide bool) uint64 {
	if s.size(wide) == 8 {
		return top
	}
	return half
}

// part is a table that is to be laid.
type part struct {
	wide  bool
	items []uint64
}

// fixed is a number of so many bytes.
func fixed(n uint64, size int) []byte {
	b := make([]byte, size)
	for i := range b {
		b[i] = byte(n)
		n /= 256
	}
	return b
}

// cat is parts one behind the other.
func cat(parts ...[]byte) []byte { return slices.Concat(parts...) }

// long is a length's bytes.
func long(n int, wide bool) []byte {
	if wide {
		return cat([]byte{255, 255, 255, 255}, fixed(uint64(n), 8))
	}
	return fixed(uint64(n), 4)
}

// wrap is bytes with their length ahead of them.
func wrap(wide bool, b []byte) []byte { return cat(long(len(b), wide), b) }

// lay is a table's bytes, as the chapter has them.
func (s sort) lay(p part) []byte {
	b := slices.Clone(s.head)
	for _, n := range p.items {
		b = append(b, fixed(n, s.size(p.wide))...)
	}
	return wrap(p.wide, b)
}

// layAll is a section's bytes, and its tables with their bases.
func (s sort) layAll(l ...part) (section []byte, want []tables.Table) {
	for _, p := range l {
		b := s.lay(p)
		base := len(section) + len(b) - len(p.items)*s.size(p.wide)
		section = append(section, b...)
		want = append(want, tables.Table{Wide: p.wide, Base: uint64(base), Items: p.items})
	}
	return section, want
}

// same tells whether tables are the same; those without items may have a list that is nil.
func same(a, b []tables.Table) bool {
	return slices.EqualFunc(a, b, func(x, y tables.Table) bool {
		return x.Wide == y.Wide && x.Base == y.Base && slices.Equal(x.Items, y.Items)
	})
}

// run is so many items, each unlike the others, that have so many bytes.
func run(count, size int) []uint64 {
	var l []uint64
	for i := range count {
		l = append(l, (0x8877665544332211+uint64(i)*0x0101010101010101)>>(64-8*size))
	}
	return l
}

// table is a table of so many items.
func (s sort) table(wide bool, count int) part { return part{wide, run(count, s.size(wide))} }

// mixed is tables wide and not, with some items and none.
func (s sort) mixed() []part {
	var l []part
	for count := range 4 {
		for _, wide := range both {
			l = append(l, s.table(wide, count))
		}
	}
	return l
}

// short tells so much of bytes as can be read.
func short(b []byte) string { return fmt.Sprintf("%.60x of %d", b, len(b)) }

// show tells so many tables as can be read.
func show(l []tables.Table) string {
	return fmt.Sprintf("%d of %.400s", len(l), fmt.Sprintf("%+v", l[:min(len(l), 6)]))
}

// roomy is bytes with others in the room behind them: a table for either section.
func roomy(b []byte) []byte {
	return cat(b, strs().lay(part{items: []uint64{1, 2}}), addrs().lay(part{items: []uint64{1}}))[:len(b)]
}

// wipe overwrites all of the memory of tables, their lists' spare room, too.
func wipe(l []tables.Table) {
	for i := range l {
		items := l[i].Items[:cap(l[i].Items)]
		for j := range items {
			items[j] = 0xbad
		}
	}
	clear(l[:cap(l)])
}

// wantTake looks at which tables are taken, also of bytes with room behind them, and that
// these are left, and that each list told is of new memory.
func (s sort) wantTake(t *testing.T, what string, section []byte, want []tables.Table) {
	t.Helper()
	for _, b := range [][]byte{bytes.Clone(section), roomy(section)} {
		before := bytes.Clone(b[:cap(b)])
		l, e := s.take(b)
		if !same(l, want) || e != api.OK {
			t.Errorf("%s: %s(%s) = %s, %d, want %s, 0", what, s.name, short(b), show(l), e, show(want))
			return
		}
		if !bytes.Equal(b[:cap(b)], before) {
			t.Errorf("%s: %s changed the section", what, s.name)
		}
		for i := range l { // what is done with one list is nothing to the others
			wipe(l[i : i+1 : i+1])
			if !same(l[i+1:], want[i+1:]) {
				t.Errorf("%s: %s: tables share memory", what, s.name)
			}
		}
		wipe(l)
		if l, e := s.take(b); !same(l, want) || e != api.OK {
			t.Errorf("%s: %s, once more, = %s, %d, want %s, 0", what, s.name, show(l), e, show(want))
		}
	}
}

// wantRefused looks that a section is refused, and left.
func (s sort) wantRefused(t *testing.T, what string, section []byte, e api.Errno) {
	t.Helper()
	for _, b := range [][]byte{bytes.Clone(section), roomy(section)} {
		before := bytes.Clone(b[:cap(b)])
		if l, got := s.take(b); len(l) != 0 || got != e {
			t.Errorf("%s: %s(%s) = %s, %d, want none, %d", what, s.name, short(b), show(l), got, e)
		}
		if !bytes.Equal(b[:cap(b)], before) {
			t.Errorf("%s: %s changed the section", what, s.name)
		}
	}
}

// room is items with others in the room behind them.
func room(items []uint64) []uint64 {
	return slices.Concat(items, []uint64{top, 99, top})[:len(items)]
}

// wantPut looks at what is put, also of items with room behind them, that these are left,
// and that what is answered is new memory.
func (s sort) wantPut(t *testing.T, what string, p part, want []byte) {
	t.Helper()
	for _, given := range [][]uint64{p.items, slices.Clone(p.items), room(p.items)} {
		before := slices.Clone(given[:cap(given)])
		b, e := s.put(p.wide, given)
		if !bytes.Equal(b, want) || e != api.OK {
			t.Errorf("%s: Put%s(%v, %.20x) = %s, %d, want %s, 0", what, s.name, p.wide, given, short(b), e, short(want))
			return
		}
		if !slices.Equal(given[:cap(given)], before) {
			t.Errorf("%s: Put%s changed the items", what, s.name)
		}
		clear(b[:cap(b)])
		if b, e := s.put(p.wide, given); !bytes.Equal(b, want) || e != api.OK {
			t.Errorf("%s: Put%s, once more, = %s, %d, want %s, 0", what, s.name, short(b), e, short(want))
		}
	}
}

// wantWrong looks that items are not put, and left.
func (s sort) wantWrong(t *testing.T, what string, p part) {
	t.Helper()
	for _, given := range [][]uint64{slices.Clone(p.items), room(p.items)} {
		before := slices.Clone(given[:cap(given)])
		if b, e := s.put(p.wide, given); len(b) != 0 || e != api.ErrArg {
			t.Errorf("%s: Put%s(%v, %.20x) = %s, %d, want none, %d", what, s.name, p.wide, given, short(b), e, api.ErrArg)
		}
		if !slices.Equal(given[:cap(given)], before) {
			t.Errorf("%s: Put%s changed the items", what, s.name)
		}
	}
}

// wantAt looks at an item, and that the tables are left.
func wantAt(t *testing.T, l []tables.Table, base, i, want uint64, is bool) {
	t.Helper()
	before := show(l)
	if got, ok := tables.At(l, base, i); got != want || ok != is {
		t.Errorf("At(%s, %d, %d) = %d, %v, want %d, %v", show(l), base, i, got, ok, want, is)
	}
	if show(l) != before {
		t.Errorf("At changed the tables: %s were %s", show(l), before)
	}
}

// The chapter's example.
func TestExample(t *testing.T) {
	want := []byte{12, 0, 0, 0, 5, 0, 8, 0, 0, 16, 0, 0, 0, 0, 0, 0}
	addrs().wantPut(t, "the example", part{false, []uint64{4096}}, want)
	l := []tables.Table{{Base: 8, Items: []uint64{4096}}}
	addrs().wantTake(t, "the example", want, l)
	wantAt(t, l, 8, 0, 4096, true)
}

// The tests' own bytes are right, so that a fault in them hides none.
func TestLay(t *testing.T) {
	for _, x := range []struct {
		s    sort
		p    part
		want string
	}{
		{strs(), part{}, "04000000" + "0500" + "0000"},
		{strs(), part{false, []uint64{0x11223344, 5}}, "0c000000" + "0500" + "0000" + "44332211" + "05000000"},
		{strs(), part{true, []uint64{0x1122334455667788}}, "ffffffff0c00000000000000" + "0500" + "0000" + "8877665544332211"},
		{addrs(), part{wide: true}, "ffffffff0400000000000000" + "0500" + "08" + "00"},
		{addrs(), part{false, []uint64{0x1122334455667788}}, "0c000000" + "0500" + "08" + "00" + "8877665544332211"},
		{addrs(), part{true, []uint64{7}}, "ffffffff0c00000000000000" + "0500" + "08" + "00" + "0700000000000000"},
	} {
		if got := fmt.Sprintf("%x", x.s.lay(x.p)); got != x.want {
			t.Errorf("%s: lay(%+v) = %s, want %s", x.s.name, x.p, got, x.want)
		}
	}
	_, l := strs().layAll(part{false, []uint64{1, 2}}, part{wide: true}, part{true, []uint64{3}}, part{items: []uint64{4}})
	for i, want := range []uint64{8, 32, 48, 64} {
		if l[i].Base != want {
			t.Errorf("table %d: base %d, want %d", i, l[i].Base, want)
		}
	}
}
