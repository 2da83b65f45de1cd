package linkmap_test

import (
	"fmt"
	"reflect"
	"strconv"
	"testing"

	"sindri/api"
	"sindri/linkmap"
	"sindri/object"
)

const top = 1<<64 - 1

// memory is a section of memory with so many bytes.
func memory(size int) api.Section {
	return api.Section{Name: ".text", Type: 1, Flags: 2, Data: make([]byte, size)}
}

// of is an object of a first section and these, from place 1 on.
func of(l ...api.Section) object.Object {
	return object.Object{Type: 1, Machine: api.X86, Sections: append([]api.Section{{}}, l...)}
}

// sized is an object of sections of memory with so many bytes, from place 1 on.
func sized(sizes ...int) object.Object {
	var l []api.Section
	for _, n := range sizes {
		l = append(l, memory(n))
	}
	return of(l...)
}

// place is a map of one place.
func place(obj, sect int, addr uint64) api.Map {
	return api.Map{Places: []api.Place{{Obj: obj, Sect: sect, Addr: addr}}}
}

// rowed is a map that places the sections of object 0 at these addresses, from
// section 1 on.
func rowed(addrs ...uint64) api.Map {
	var m api.Map
	for i, addr := range addrs {
		m.Places = append(m.Places, api.Place{Sect: i + 1, Addr: addr})
	}
	return m
}

// named is a map of symbols of these names, at addresses from 1 on.
func named(names ...string) api.Map {
	var m api.Map
	for i, name := range names {
		m.Syms = append(m.Syms, api.Named{Name: name, Addr: uint64(i + 1)})
	}
	return m
}

// given is what New is handed.
type given struct {
	m    api.Map
	all  []object.Object
	left [][]bool
}

// held is a copy of it with what stands in its lists' spare room, to be held
// against it later.
func (g given) held() given {
	var h given
	h.m.Places = append(h.m.Places, g.m.Places[:cap(g.m.Places)]...)
	h.m.Syms = append(h.m.Syms, g.m.Syms[:cap(g.m.Syms)]...)
	for _, o := range g.all[:cap(g.all)] {
		o.Sections = append([]api.Section(nil), o.Sections[:cap(o.Sections)]...)
		for i, s := range o.Sections {
			o.Sections[i].Data = append([]byte(nil), s.Data[:cap(s.Data)]...)
		}
		h.all = append(h.all, o)
	}
	for _, row := range g.left[:cap(g.left)] {
		h.left = append(h.left, append([]bool(nil), row[:cap(row)]...))
	}
	return h
}

// show tells things, and no more of them than can be read.
func show(v any) string { return fmt.Sprintf("%.400s", strconv.QuoteToASCII(fmt.Sprintf("%v", v))) }

// made tells the map that New makes, and looks that what it is handed is left.
func made(t *testing.T, what string, m api.Map, all []object.Object, left [][]bool) *linkmap.Linked {
	t.Helper()
	g := given{m, all, left}
	before := g.held()
	l, e := linkmap.New(m, all, left)
	if l == nil || e != api.OK {
		t.Errorf("%s: New = %v, %d", what, l, e)
	}
	if !reflect.DeepEqual(g.held(), before) {
		t.Errorf("%s: New changed what was handed in", what)
	}
	return l
}

// wantRefused looks that New refuses a map, and leaves what it is handed.
func wantRefused(t *testing.T, what string, m api.Map, all []object.Object, left [][]bool, want api.Errno) {
	t.Helper()
	g := given{m, all, left}
	before := g.held()
	if l, e := linkmap.New(m, all, left); l != nil || e != want {
		t.Errorf("%s: New = %s, %d, want nil, %d", what, show(l), e, want)
	}
	if !reflect.DeepEqual(g.held(), before) {
		t.Errorf("%s: New changed what was handed in", what)
	}
}

// wantOut looks at what Out tells.
func wantOut(t *testing.T, l *linkmap.Linked, obj, sect int, addr uint64, ok bool) {
	t.Helper()
	if a, o := l.Out(obj, sect); a != addr || o != ok {
		t.Errorf("Out(%d, %d) = %d, %v, want %d, %v", obj, sect, a, o, addr, ok)
	}
}

// wantIn looks that an address is so far within a section, which Has has to know.
func wantIn(t *testing.T, l *linkmap.Linked, addr uint64, obj, sect int, off uint64) {
	t.Helper()
	if o, s, n, ok := l.In(addr); o != obj || s != sect || n != off || !ok {
		t.Errorf("In(%d) = %d, %d, %d, %v, want %d, %d, %d, true", addr, o, s, n, ok, obj, sect, off)
	}
	if !l.Has(addr) {
		t.Errorf("Has(%d) = false", addr)
	}
}

// wantNowhere looks that addresses are not retained.
func wantNowhere(t *testing.T, l *linkmap.Linked, addrs ...uint64) {
	t.Helper()
	for _, addr := range addrs {
		if o, s, n, ok := l.In(addr); o != 0 || s != 0 || n != 0 || ok {
			t.Errorf("In(%d) = %d, %d, %d, %v, want nothing", addr, o, s, n, ok)
		}
		if l.Has(addr) {
			t.Errorf("Has(%d) = true", addr)
		}
	}
}

// wantWhole looks at what Whole tells of a range.
func wantWhole(t *testing.T, l *linkmap.Linked, lo, hi uint64, want bool) {
	t.Helper()
	if got := l.Whole(api.Range{Lo: lo, Hi: hi}); got != want {
		t.Errorf("Whole(%d, %d) = %v, want %v", lo, hi, got, want)
	}
}

// wantSym looks at what Sym tells of a name.
func wantSym(t *testing.T, l *linkmap.Linked, name string, want uint64) {
	t.Helper()
	if got := l.Sym(name); got != want {
		t.Errorf("Sym(%.40q) = %d, want %d", name, got, want)
	}
}

// wantImages looks at what Images tells: the first address of each, and the one
// behind its last one.
func wantImages(t *testing.T, l *linkmap.Linked, ends ...uint64) {
	t.Helper()
	want := []api.Range{}
	for i := 0; i < len(ends); i += 2 {
		want = append(want, api.Range{Lo: ends[i], Hi: ends[i+1]})
	}
	if got := append([]api.Range{}, l.Images()...); !reflect.DeepEqual(got, want) {
		t.Errorf("Images = %v, want %v", got, want)
	}
}

// wantNothing looks that a map has nothing.
func wantNothing(t *testing.T, l *linkmap.Linked) {
	t.Helper()
	edges := []uint64{0, 1, 4095, 4096, 1 << 63, top - 1, top}
	wantNowhere(t, l, edges...)
	for _, lo := range edges {
		for _, hi := range edges {
			wantWhole(t, l, lo, hi, false)
		}
	}
	for _, obj := range []int{-1, 0, 1, 5} {
		for _, sect := range []int{-1, 0, 1, 63} {
			wantOut(t, l, obj, sect, 0, false)
		}
	}
	for _, name := range []string{"", "f", "main", "f\x00"} {
		wantSym(t, l, name, api.Tomb)
	}
	wantImages(t, l)
}
