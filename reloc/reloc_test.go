package reloc_test

import (
	"bytes"
	"fmt"
	"reflect"
	"testing"

	"sindri/api"
	"sindri/linkmap"
	"sindri/object"
	"sindri/reloc"
)

const (
	top    = 1<<64 - 1
	most   = 1<<63 - 1 // the greatest of signed numbers
	least  = -1 << 63  // the least of them
	plain  = 65521     // the Sect of a plain number
	printf = 0x40_1000 // the address of the symbol printf
	other  = 0x1_0000  // where object 1 has its section text, which object 0 has at 4096
)

// The places of a starter's sections.
const (
	text = iota + 1 // of memory, retained
	data            // of memory, not retained
	info            // of debugging
	str             // of debugging, the last one
)

// starter is an object of these symbols, that stand in sections of four kinds.
func starter(named ...api.Symbol) object.Object {
	return object.Object{
		Type: 1, Machine: api.X86,
		Sections: []api.Section{
			{},
			{Name: ".text", Type: 1, Flags: 6, Data: make([]byte, 64)},
			{Name: ".data", Type: 1, Flags: 3, Data: make([]byte, 16)},
			{Name: ".debug_info", Type: 1, Data: numbered(32)},
			{Name: ".debug_str", Type: 1, Flags: 0x30, Data: numbered(8)},
		},
		Syms: named,
	}
}

// numbered is so many bytes, of which each is another one.
func numbered(size int) []byte {
	b := make([]byte, size)
	for i := range b {
		b[i] = byte(i + 1)
	}
	return b
}

// starterMap retains the sections text of two starters, and knows symbols.
func starterMap() api.Map {
	return api.Map{
		Places: []api.Place{{Obj: 0, Sect: text, Addr: 4096}, {Obj: 1, Sect: text, Addr: other}},
		Syms:   []api.Named{{Name: "printf", Addr: printf}, {Name: "zero", Addr: 0}, {Name: "high", Addr: top - 1}, {Name: "gone", Addr: api.Tomb}},
	}
}

// starterLink is that map, made.
func starterLink(t *testing.T) *linkmap.Linked {
	t.Helper()
	return made(t, starterMap(), starter(), starter())
}

// made is a map that is made for objects.
func made(t *testing.T, m api.Map, all ...object.Object) *linkmap.Linked {
	t.Helper()
	l, e := linkmap.New(m, all, nil)
	if l == nil || e != api.OK {
		t.Fatalf("linkmap.New = %v, %d", l, e)
	}
	return l
}

// related is a starter, with bytes of info and relocations of them.
func related(b []byte, list ...api.Rela) object.Object {
	o := starter(symbols()...)
	o.Sections[info].Data = b
	o.Relas = [][]api.Rela{nil, nil, nil, list, nil}
	return o
}

// symbols are some that stand at many places.
func symbols() []api.Symbol {
	return []api.Symbol{
		{},
		{Name: "main", Sect: text, Value: 8},
		{Name: "lost", Sect: data, Value: 8},
		{Name: "part", Sect: info, Value: 8},
		{Name: "printf"},
		{Name: "unknown"},
		{Name: "gone"},
		{Name: "number", Sect: plain, Value: 1 << 32},
	}
}

// The places of these symbols.
const (
	first = iota
	inMain
	lost
	part
	known
	unknown
	gone
	number
)

// held is a copy of an object with what stands in its lists' spare room, to be
// held against it later.
func held(o object.Object) object.Object {
	h := o
	h.Sections = append([]api.Section(nil), o.Sections[:cap(o.Sections)]...)
	for i, s := range h.Sections {
		h.Sections[i].Data = append([]byte(nil), s.Data[:cap(s.Data)]...)
	}
	h.Syms = append([]api.Symbol(nil), o.Syms[:cap(o.Syms)]...)
	h.Relas = append([][]api.Rela(nil), o.Relas[:cap(o.Relas)]...)
	for i, row := range h.Relas {
		h.Relas[i] = append([]api.Rela(nil), row[:cap(row)]...)
	}
	return h
}

// roomy is an object whose lists have room behind them, with something in it.
func roomy(o object.Object) object.Object {
	o.Sections = append(o.Sections, api.Section{Name: "behind", Flags: 2})[:len(o.Sections)]
	for i, s := range o.Sections {
		o.Sections[i].Data = append(append(make([]byte, 0, len(s.Data)+9), s.Data...), 1, 2, 3)[:len(s.Data)]
	}
	o.Syms = append(o.Syms, api.Symbol{Name: "behind", Sect: plain, Value: 5})[:len(o.Syms)]
	o.Relas = append(o.Relas, []api.Rela{{Sym: 99}})[:len(o.Relas)]
	for i, row := range o.Relas {
		o.Relas[i] = append(append([]api.Rela(nil), row...), api.Rela{Sym: 99})[:len(row)]
	}
	return o
}

// wantValue looks at what Value tells, and that it leaves what it is handed.
func wantValue(t *testing.T, what string, o object.Object, obj int, r api.Rela, l *linkmap.Linked, want uint64) {
	t.Helper()
	before := held(o)
	if n, e := reloc.Value(o, obj, r, l); n != want || e != api.OK {
		t.Errorf("%s: Value = %#x, %d, want %#x, 0", what, n, e, want)
	}
	if !reflect.DeepEqual(held(o), before) {
		t.Errorf("%s: Value changed the object", what)
	}
}

// wantNoValue looks that Value refuses a relocation, and leaves what it is handed.
func wantNoValue(t *testing.T, what string, o object.Object, obj int, r api.Rela, l *linkmap.Linked) {
	t.Helper()
	before := held(o)
	if n, e := reloc.Value(o, obj, r, l); n != 0 || e != api.ErrRel {
		t.Errorf("%s: Value = %#x, %d, want 0, %d", what, n, e, api.ErrRel)
	}
	if !reflect.DeepEqual(held(o), before) {
		t.Errorf("%s: Value changed the object", what)
	}
}

// wantBytes looks at what Apply tells, and that it leaves what it is handed.
func wantBytes(t *testing.T, what string, o object.Object, obj, sect int, l *linkmap.Linked, want []byte) {
	t.Helper()
	before := held(o)
	b, e := reloc.Apply(o, obj, sect, l)
	if !bytes.Equal(b, want) || e != api.OK {
		t.Errorf("%s: Apply = %s, %d, want %s, 0", what, show(b), e, show(want))
	}
	if !reflect.DeepEqual(held(o), before) {
		t.Errorf("%s: Apply changed the object", what)
	}
	for i := range b[:cap(b)] {
		b[:cap(b)][i] ^= 0x55
	}
	if !reflect.DeepEqual(held(o), before) {
		t.Errorf("%s: what Apply tells is not new memory", what)
	}
	if again, e := reloc.Apply(o, obj, sect, l); !bytes.Equal(again, want) || e != api.OK {
		t.Errorf("%s: Apply = %s, %d, once its answer is changed, want %s, 0", what, show(again), e, show(want))
	}
}

// wantRefused looks that Apply refuses, and leaves what it is handed.
func wantRefused(t *testing.T, what string, o object.Object, obj, sect int, l *linkmap.Linked, want api.Errno) {
	t.Helper()
	before := held(o)
	if b, e := reloc.Apply(o, obj, sect, l); len(b) != 0 || e != want {
		t.Errorf("%s: Apply = %s, %d, want nothing, %d", what, show(b), e, want)
	}
	if !reflect.DeepEqual(held(o), before) {
		t.Errorf("%s: Apply changed the object", what)
	}
}

// show tells bytes, and no more of them than can be read.
func show(b []byte) string { return fmt.Sprintf("%.400s", fmt.Sprintf("% x", b)) }
