package sects_test

import (
	"bytes"
	"encoding/binary"
	"fmt"
	"math"
	"reflect"
	"strings"
	"testing"

	"sindri/api"
	"sindri/elfhead"
	"sindri/sects"
)

const (
	top   = math.MaxUint64
	limit = 2147483647 // the greatest of the numbers that have a limit
	room  = 65536      // bytes of a section
)

// entry is a section's entry by the chapter's words.
type entry struct {
	name, kind            uint32
	flags, addr, at, size uint64
	link, info            uint32
	align, each           uint64
}

// lay is an entry's bytes.
func (x entry) lay() []byte {
	b := make([]byte, 64)
	binary.LittleEndian.PutUint32(b[0:], x.name)
	binary.LittleEndian.PutUint32(b[4:], x.kind)
	binary.LittleEndian.PutUint64(b[8:], x.flags)
	binary.LittleEndian.PutUint64(b[16:], x.addr)
	binary.LittleEndian.PutUint64(b[24:], x.at)
	binary.LittleEndian.PutUint64(b[32:], x.size)
	binary.LittleEndian.PutUint32(b[40:], x.link)
	binary.LittleEndian.PutUint32(b[44:], x.info)
	binary.LittleEndian.PutUint64(b[48:], x.align)
	binary.LittleEndian.PutUint64(b[56:], x.each)
	return b
}

// header is a header's bytes by chapter 6's words.
func header(kind, machine, shoff, shnum, shstr int) []byte {
	b := make([]byte, 64)
	copy(b, "\x7fELF\x02\x01\x01")
	binary.LittleEndian.PutUint16(b[16:], uint16(kind))
	binary.LittleEndian.PutUint16(b[18:], uint16(machine))
	b[20] = 1
	binary.LittleEndian.PutUint64(b[40:], uint64(shoff))
	b[52], b[58] = 64, 64
	binary.LittleEndian.PutUint16(b[60:], uint16(shnum))
	binary.LittleEndian.PutUint16(b[62:], uint16(shstr))
	return b
}

// file is a file of entries that stand at once behind its header, of which one
// is for the names, and bytes behind them.
func file(shstr int, l []entry, body []byte) []byte {
	b := header(1, 62, 64, len(l), shstr)
	for _, x := range l {
		b = append(b, x.lay()...)
	}
	return append(b, body...)
}

// start is where a file's body stands if there are so many entries.
func start(count int) uint64 { return uint64(64 + 64*count) }

const names = "\x00.text\x00.bss\x00.shstrtab\x00" // the places: 0, 1, 7, 12; 22 bytes

// plain is a file's entries and its body: none, .text of five bytes, .bss of
// seven that the file doesn't have, and the names, which are the body's end.
func plain() ([]entry, []byte) {
	s := start(4)
	return []entry{
		{},
		{1, 1, 6, 0x1000, s + 2, 5, 2, 3, 16, 4},
		{7, 8, 3, 0x2000, 5, 7, 0, 0, 8, 0},
		{12, 3, 0, 0, s + 10, 22, 0, 0, 1, 0},
	}, []byte("..hello..." + names)
}

// plainSections is what plain's file has.
func plainSections() []api.Section {
	return []api.Section{
		{},
		{Name: ".text", Type: 1, Flags: 6, Addr: 0x1000, Data: []byte("hello"), Link: 2, Info: 3, Align: 16, Ent: 4},
		{Name: ".bss", Type: 8, Flags: 3, Addr: 0x2000, Data: make([]byte, 7), Align: 8},
		{Name: ".shstrtab", Type: 3, Data: []byte(names), Align: 1},
	}
}

// least is the fewest sections that may be.
func least() []api.Section { return []api.Section{{}, {Name: ".shstrtab", Type: 3}} }

// around puts sections between the first one and the last one.
func around(l ...api.Section) []api.Section {
	all := append([]api.Section{{}}, l...)
	return append(all, api.Section{Name: ".shstrtab", Type: 3})
}

// held is a copy of sections, to be held against them later.
func held(l []api.Section) []api.Section {
	l = append([]api.Section(nil), l...)
	for i := range l {
		l[i].Data = append([]byte(nil), l[i].Data...)
	}
	return l
}

// alike tells whether sections are the same: no bytes may be nil or empty.
func alike(a, b []api.Section) bool {
	return len(a) == len(b) && (len(a) == 0 || reflect.DeepEqual(held(a), held(b)))
}

// show tells sections, and no more of their bytes than can be read.
func show(l []api.Section) string {
	var all []string
	for _, s := range l {
		all = append(all, fmt.Sprintf("{%.20q %d %#x %#x %d:%.30q %d %d %d %d}", s.Name, s.Type, s.Flags, s.Addr, len(s.Data), s.Data, s.Link, s.Info, s.Align, s.Ent))
	}
	return strings.Join(all, " ")
}

// wantTake looks at what Take tells, and that it leaves what it is handed.
func wantTake(t *testing.T, what string, b []byte, h elfhead.Head, want []api.Section, e api.Errno) {
	t.Helper()
	before := bytes.Clone(b)
	if head, got, err := sects.Take(b); head != h || !alike(got, want) || err != e {
		t.Errorf("%s: Take = %+v, %s, %d, want %+v, %s, %d", what, head, show(got), err, h, show(want), e)
	}
	if !bytes.Equal(b, before) {
		t.Errorf("%s: Take changed what was handed in", what)
	}
}

// wantNone looks that Take refuses.
func wantNone(t *testing.T, what string, b []byte, e api.Errno) {
	t.Helper()
	wantTake(t, what, b, elfhead.Head{}, nil, e)
}

// wantFile looks at what Take tells of a file that has its entries behind its header.
func wantFile(t *testing.T, what string, shstr int, l []entry, body []byte, want []api.Section) {
	t.Helper()
	h := elfhead.Head{Type: 1, Machine: 62, Shoff: 64, Shnum: len(l), Shstr: shstr}
	wantTake(t, what, file(shstr, l, body), h, want, api.OK)
}

// wantTaken looks that Take doesn't refuse.
func wantTaken(t *testing.T, what string, b []byte) []api.Section {
	t.Helper()
	_, l, e := sects.Take(b)
	if e != api.OK {
		t.Errorf("%s: Take = %d", what, e)
	}
	return l
}

func wantRight(t *testing.T, what string, l []api.Section, want bool) {
	t.Helper()
	before := held(l)
	if got := sects.Right(l); got != want {
		t.Errorf("%s: Right = %v", what, got)
	}
	e := api.OK
	if !want {
		e = api.ErrArg
	}
	for _, kind := range []int{1, 2} {
		for _, machine := range []int{62, 183} {
			if b, err := sects.Put(kind, machine, l); err != e || (len(b) > 0) != want {
				t.Errorf("%s: Put = %d bytes, %d", what, len(b), err)
			}
		}
	}
	if !reflect.DeepEqual(held(l), before) {
		t.Errorf("%s: what was handed in is changed", what)
	}
}

// put is what Put puts of sections that may be.
func put(t *testing.T, what string, l []api.Section) []byte {
	t.Helper()
	before := held(l)
	b, e := sects.Put(1, 62, l)
	if e != api.OK {
		t.Errorf("%s: Put = %d", what, e)
	}
	if !reflect.DeepEqual(held(l), before) {
		t.Errorf("%s: Put changed what was handed in", what)
	}
	return b
}

// P7.3

func TestFind(t *testing.T) {
	l := []api.Section{{Name: "zero"}, {Name: "a"}, {Name: ""}, {Name: "b"}, {Name: "a"}, {Name: ""}, {Name: "zero"}, {Name: "b\x00"}, {Name: "end"}}
	for name, want := range map[string]int{
		"a": 1, "": 2, "b": 3, "zero": 6, "b\x00": 7, "end": 8,
		"c": -1, "A": -1, "aa": -1, "en": -1, "endd": -1, "\x00": -1,
	} {
		if got := sects.Find(l, name); got != want {
			t.Errorf("Find(%q) = %d, want %d", name, got, want)
		}
	}
	if l[0].Name != "zero" || l[1].Name != "a" {
		t.Error("Find changed what was handed in")
	}
}

func TestFindOfFew(t *testing.T) {
	for _, x := range []struct {
		l    []api.Section
		name string
		want int
	}{
		{nil, "", -1},
		{nil, "a", -1},
		{[]api.Section{}, "", -1},
		{[]api.Section{{}}, "", -1}, // the first one of all is not looked at
		{[]api.Section{{Name: "a"}}, "a", -1},
		{[]api.Section{{}, {}}, "", 1},
		{[]api.Section{{}, {Name: "a"}}, "", -1},
		{[]api.Section{{}, {Name: "a"}}, "a", 1},
		{[]api.Section{{Name: "a"}, {Name: "a"}, {Name: "a"}}, "a", 1},
	} {
		if got := sects.Find(x.l, x.name); got != x.want {
			t.Errorf("Find(%v, %q) = %d, want %d", x.l, x.name, got, x.want)
		}
	}
}

// Find looks at the names only: the sections may be others than those that may be.
func TestFindOfWhatMayNotBe(t *testing.T) {
	long := strings.Repeat("x", 300)
	l := []api.Section{{Name: "n", Type: -1}, {Name: long, Type: -5, Link: -1}, {Name: "n", Type: 0, Data: make([]byte, room+1)}}
	for i := len(l); i < 100; i++ {
		l = append(l, api.Section{Name: "n"})
	}
	l = append(l, api.Section{Name: "behind 64"})
	if a, b, c := sects.Find(l, long), sects.Find(l, "n"), sects.Find(l, "behind 64"); a != 1 || b != 2 || c != 100 {
		t.Errorf("Find = %d, %d, %d", a, b, c)
	}
}

// What lies behind a list's length is not read.
func TestFindReadsNothingBehindTheLength(t *testing.T) {
	l := []api.Section{{}, {Name: "a"}, {Name: "b"}}
	if got := sects.Find(l[:2], "b"); got != -1 {
		t.Errorf("Find = %d", got)
	}
}
