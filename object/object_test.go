package object_test

import (
	"bytes"
	"encoding/binary"
	"fmt"
	"math"
	"reflect"
	"slices"
	"strings"
	"testing"

	"sindri/api"
	"sindri/object"
)

const (
	top   = math.MaxUint64
	limit = 2147483647 // the greatest of the numbers that have a limit
	most  = 400        // symbols, and relocations of a section
	room  = 65536      // bytes of a section
)

// table is texts, each once, by chapter 4's words: the empty one first.
type table struct {
	bytes  []byte
	places map[string]int
}

func newTable() *table { return &table{[]byte{0}, map[string]int{"": 0}} }

func (t *table) at(s string) uint32 {
	at, ok := t.places[s]
	if !ok {
		at = len(t.bytes)
		t.places[s] = at
		t.bytes = append(append(t.bytes, s...), 0)
	}
	return uint32(at)
}

// symbolBytes is the entries, and the names, of symbols by chapter 8's words.
func symbolBytes(l ...api.Symbol) (entries, names []byte) {
	texts := newTable()
	for _, s := range l {
		entries = binary.LittleEndian.AppendUint32(entries, texts.at(s.Name))
		entries = append(entries, byte(16*s.Bind+s.Type), 0)
		entries = binary.LittleEndian.AppendUint16(entries, uint16(s.Sect))
		entries = binary.LittleEndian.AppendUint64(entries, s.Value)
		entries = binary.LittleEndian.AppendUint64(entries, s.Size)
	}
	return entries, texts.bytes
}

// relaBytes is the entries of relocations by chapter 8's words.
func relaBytes(l ...api.Rela) []byte {
	var b []byte
	for _, r := range l {
		b = binary.LittleEndian.AppendUint64(b, r.Off)
		b = binary.LittleEndian.AppendUint64(b, uint64(r.Sym)<<32+uint64(r.Type))
		b = binary.LittleEndian.AppendUint64(b, uint64(r.Add))
	}
	return b
}

// lay is a file by chapter 7's words: one of sections of which the last one has
// the names.
func lay(kind, machine int, l []api.Section) []byte {
	names := newTable()
	for _, s := range l {
		names.at(s.Name)
	}
	l = slices.Clone(l)
	l[len(l)-1].Data = names.bytes
	b := make([]byte, 64)
	var entries []byte
	for i, s := range l {
		for len(b)%8 != 0 {
			b = append(b, 0)
		}
		at := len(b)
		if i == 0 {
			at = 0
		}
		entries = binary.LittleEndian.AppendUint32(entries, names.at(s.Name))
		entries = binary.LittleEndian.AppendUint32(entries, uint32(s.Type))
		for _, n := range []uint64{s.Flags, s.Addr, uint64(at), uint64(len(s.Data))} {
			entries = binary.LittleEndian.AppendUint64(entries, n)
		}
		entries = binary.LittleEndian.AppendUint32(entries, uint32(s.Link))
		entries = binary.LittleEndian.AppendUint32(entries, uint32(s.Info))
		entries = binary.LittleEndian.AppendUint64(entries, uint64(s.Align))
		entries = binary.LittleEndian.AppendUint64(entries, uint64(s.Ent))
		if s.Type != 8 {
			b = append(b, s.Data...)
		}
	}
	for len(b)%8 != 0 {
		b = append(b, 0)
	}
	copy(b, header(kind, machine, len(b), len(l)))
	return append(b, entries...)
}

// header is a header's bytes by chapter 6's words, with the last section for the names.
func header(kind, machine, shoff, shnum int) []byte {
	b := make([]byte, 64)
	copy(b, "\x7fELF\x02\x01\x01")
	binary.LittleEndian.PutUint16(b[16:], uint16(kind))
	binary.LittleEndian.PutUint16(b[18:], uint16(machine))
	b[20] = 1
	binary.LittleEndian.PutUint64(b[40:], uint64(shoff))
	b[52], b[58] = 64, 64
	binary.LittleEndian.PutUint16(b[60:], uint16(shnum))
	binary.LittleEndian.PutUint16(b[62:], uint16(shnum-1))
	return b
}

// held is a copy of an object, to be held against it later: what has no element
// is nil.
func held(o object.Object) object.Object {
	o.Sections = append([]api.Section(nil), o.Sections...)
	for i := range o.Sections {
		o.Sections[i].Data = append([]byte(nil), o.Sections[i].Data...)
	}
	o.Syms = append([]api.Symbol(nil), o.Syms...)
	o.Relas = append([][]api.Rela(nil), o.Relas...)
	for i := range o.Relas {
		o.Relas[i] = append([]api.Rela(nil), o.Relas[i]...)
	}
	return o
}

// alike tells whether objects are the same: lists may be nil or empty.
func alike(a, b object.Object) bool { return reflect.DeepEqual(held(a), held(b)) }

// show tells an object, and no more of its lists than can be read.
func show(o object.Object) string {
	all := []string{fmt.Sprintf("type %d, machine %d, %d sections", o.Type, o.Machine, len(o.Sections))}
	for _, s := range o.Sections[:min(len(o.Sections), 20)] {
		all = append(all, fmt.Sprintf("{%.20q %d %#x %#x %d:%.12q %d %d %d %d}", s.Name, s.Type, s.Flags, s.Addr, len(s.Data), s.Data, s.Link, s.Info, s.Align, s.Ent))
	}
	all = append(all, fmt.Sprintf("%d symbols", len(o.Syms)))
	for _, s := range o.Syms[:min(len(o.Syms), 5)] {
		all = append(all, fmt.Sprintf("{%.20q %d %d %d %#x %#x}", s.Name, s.Bind, s.Type, s.Sect, s.Value, s.Size))
	}
	all = append(all, fmt.Sprintf("relocations of %d", len(o.Relas)))
	for i, l := range o.Relas {
		if len(l) > 0 {
			all = append(all, fmt.Sprintf("%d: %d %+v", i, len(l), l[:min(len(l), 3)]))
		}
	}
	return strings.Join(all, " ")
}

// wantTake looks at what Take tells, and that it leaves what it is handed.
func wantTake(t *testing.T, what string, b []byte, want object.Object, e api.Errno) {
	t.Helper()
	before := bytes.Clone(b)
	if got, err := object.Take(b); !alike(got, want) || err != e {
		t.Errorf("%s: Take = %s, %d, want %s, %d", what, show(got), err, show(want), e)
	}
	if !bytes.Equal(b, before) {
		t.Errorf("%s: Take changed what was handed in", what)
	}
}

// wantNone looks that Take refuses a file of sections.
func wantNone(t *testing.T, what string, l []api.Section, e api.Errno) {
	t.Helper()
	wantTake(t, what, lay(1, 62, l), object.Object{}, e)
}

// wantTold looks at what Take tells of a file of sections.
func wantTold(t *testing.T, what string, l []api.Section, named []api.Symbol, relas map[int][]api.Rela) {
	t.Helper()
	wantTake(t, what, lay(1, 62, l), told(1, 62, l, named, relas), api.OK)
}

// told is the object that a file of sections has.
func told(kind, machine int, l []api.Section, named []api.Symbol, relas map[int][]api.Rela) object.Object {
	o := held(object.Object{Type: kind, Machine: machine, Sections: l, Syms: named, Relas: make([][]api.Rela, len(l))})
	names := newTable()
	for _, s := range l {
		names.at(s.Name)
	}
	o.Sections[len(l)-1].Data = names.bytes
	for i, list := range relas {
		o.Relas[i] = list
	}
	return o
}

// wantPut looks at what Put puts of an object that may be put.
func wantPut(t *testing.T, what string, o object.Object, want []byte) {
	t.Helper()
	before := held(o)
	if !object.Right(o) {
		t.Errorf("%s: Right = false", what)
	}
	if got, e := object.Put(o); !bytes.Equal(got, want) || e != api.OK {
		t.Errorf("%s: Put = %d bytes %.300q, %d, want %d bytes %.300q", what, len(got), got, e, len(want), want)
	}
	if !alike(o, before) {
		t.Errorf("%s: what was handed in is changed", what)
	}
}

// wantUnput looks that Put refuses an object, of which Right tells whether it
// may be put.
func wantUnput(t *testing.T, what string, o object.Object, right bool) {
	t.Helper()
	before := held(o)
	if got := object.Right(o); got != right {
		t.Errorf("%s: Right = %v", what, got)
	}
	if b, e := object.Put(o); len(b) != 0 || e != api.ErrArg {
		t.Errorf("%s: Put = %d bytes, %d, want none and %d", what, len(b), e, api.ErrArg)
	}
	if !alike(o, before) {
		t.Errorf("%s: what was handed in is changed", what)
	}
}

// wantBack looks that an object is put, and taken as it was: behind its sections
// stand only those that Put made, without relocations.
func wantBack(t *testing.T, what string, o object.Object) {
	t.Helper()
	before := held(o)
	b, e := object.Put(o)
	if e != api.OK {
		t.Errorf("%s: Put = %d", what, e)
		return
	}
	got, e := object.Take(b)
	if e != api.OK || len(got.Sections) != len(o.Sections)+len(added(o)) || len(got.Relas) != len(got.Sections) {
		t.Errorf("%s: Take = %s, %d", what, show(got), e)
		return
	}
	for i, s := range got.Sections[len(o.Sections):] {
		if s.Name != added(o)[i] || len(got.Relas[len(o.Sections)+i]) > 0 {
			t.Errorf("%s: Take = %s", what, show(got))
		}
	}
	got.Sections = got.Sections[:len(o.Sections)]
	got.Relas = got.Relas[:len(o.Sections)]
	if len(before.Relas) == 0 {
		before.Relas = make([][]api.Rela, len(o.Sections))
	}
	if !alike(got, before) {
		t.Errorf("%s: taken is %s, want %s", what, show(got), show(before))
	}
}

// added is the names of the sections that Put makes, in order.
func added(o object.Object) []string {
	var names []string
	if len(o.Syms) > 0 {
		names = []string{".symtab", ".strtab"}
	}
	for i, l := range o.Relas {
		if len(l) > 0 {
			names = append(names, ".rela"+o.Sections[i].Name)
		}
	}
	return append(names, ".shstrtab")
}

// The words Alloc and Debug

func TestAlloc(t *testing.T) {
	for flags, want := range map[uint64]bool{
		0: false, 1: false, 2: true, 3: true, 4: false, 5: false, 6: true, 7: true, 8: false, 10: true, 12: false,
		0x30: false, 0x32: true, 1 << 32: false, 1<<32 + 2: true, 1 << 63: false, 1<<63 | 2: true, top - 2: false, top: true,
	} {
		for _, s := range []api.Section{{}, {Name: ".text", Type: 1}, {Name: ".debug_info", Type: 1}, {Name: ".bss", Type: 8, Data: []byte{2}, Addr: 2, Link: 2, Info: 2, Align: 2, Ent: 2}} {
			s.Flags = flags
			if got := object.Alloc(s); got != want {
				t.Errorf("Alloc of Flags %#x = %v", flags, got)
			}
		}
	}
}

func TestDebug(t *testing.T) {
	for name, want := range map[string]bool{
		".debug_info": true, ".debug_": true, ".debug__": true, ".debug_x": true, ".debug_\xff": true, ".debug_.debug_": true,
		".debug_" + strings.Repeat("x", 300): true, ".debug_a\x00": true,
		"": false, ".": false, ".debug": false, ".debugx": false, "debug_info": false, ".Debug_info": false, ".DEBUG_": false,
		" .debug_info": false, "..debug_info": false, ".rela.debug_info": false, ".zdebug_info": false, ".text": false, "\x00.debug_": false, ".debug-info": false,
	} {
		s := api.Section{Name: name, Type: 1}
		if got := object.Debug(s); got != want {
			t.Errorf("Debug of %q = %v", name, got)
		}
		// Whatever stands elsewhere changes nothing.
		s = api.Section{Name: name, Type: 1, Flags: top - 2, Addr: top, Data: []byte("x"), Link: -1, Info: 9, Align: 9, Ent: 9}
		if got := object.Debug(s); got != want {
			t.Errorf("Debug of %q, with other numbers = %v", name, got)
		}
	}
}

func TestDebugOfTypesAndFlags(t *testing.T) {
	for _, kind := range []int{math.MinInt, -1, 0, 1, 2, 3, 4, 7, 8, 9, 17, 257, 1<<32 + 1, limit, math.MaxInt} {
		for _, flags := range []uint64{0, 1, 2, 3, 4, 6, 0x30, 0x32, 1 << 63, top - 2, top} {
			s := api.Section{Name: ".debug_info", Type: kind, Flags: flags}
			if got, want := object.Debug(s), kind == 1 && flags&2 == 0; got != want {
				t.Errorf("Debug of Type %d, Flags %#x = %v", kind, flags, got)
			}
		}
	}
}
