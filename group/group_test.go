package group_test

import (
	"bytes"
	"encoding/binary"
	"fmt"
	"math"
	"reflect"
	"strconv"
	"strings"
	"testing"

	"sindri/api"
	"sindri/group"
	"sindri/object"
)

const limit = 2147483647

// numbers is numbers of four bytes, the lowest first.
func numbers(l ...uint32) []byte {
	var b []byte
	for _, n := range l {
		b = binary.LittleEndian.AppendUint32(b, n)
	}
	return b
}

// section is one of Type 17, with the numbers of its bytes.
func section(link, info int, l ...uint32) api.Section {
	return api.Section{Name: ".group", Type: 17, Link: link, Info: info, Data: numbers(l...), Align: 4, Ent: 4}
}

// text is a section that is no group.
func text(name string) api.Section { return api.Section{Name: name, Type: 1, Flags: 6} }

// table is the section of symbols.
func table() api.Section { return api.Section{Name: ".symtab", Type: 2, Link: 9, Ent: 24} }

// symbols is symbols of these names.
func symbols(names ...string) []api.Symbol {
	var l []api.Symbol
	for _, name := range names {
		l = append(l, api.Symbol{Name: name})
	}
	return l
}

// made is an object of a first section, the section of symbols at place 1, and
// others from place 2 on.
func made(names []string, l ...api.Section) object.Object {
	return object.Object{
		Type: 1, Machine: api.X86,
		Sections: append([]api.Section{{}, table()}, l...),
		Syms:     symbols(names...),
	}
}

// held is a copy of an object, to be held against it later, with what stands in
// its lists' spare room.
func held(o object.Object) object.Object {
	o.Sections = append([]api.Section(nil), o.Sections[:cap(o.Sections)]...)
	for i, s := range o.Sections {
		o.Sections[i].Data = append([]byte(nil), s.Data[:cap(s.Data)]...)
	}
	o.Syms = append([]api.Symbol(nil), o.Syms[:cap(o.Syms)]...)
	o.Relas = append([][]api.Rela(nil), o.Relas[:cap(o.Relas)]...)
	for i, l := range o.Relas {
		o.Relas[i] = append([]api.Rela(nil), l[:cap(l)]...)
	}
	return o
}

// holds is a copy of objects, likewise.
func holds(all []object.Object) []object.Object {
	var l []object.Object
	for _, o := range all[:cap(all)] {
		l = append(l, held(o))
	}
	return l
}

// same tells whether groups are the same: lists may be nil or empty.
func same(a, b []group.Group) bool {
	if len(a) != len(b) {
		return false
	}
	for i, g := range a {
		h := b[i]
		if len(g.Members) == 0 && len(h.Members) == 0 {
			g.Members, h.Members = nil, nil
		}
		if !reflect.DeepEqual(g, h) {
			return false
		}
	}
	return true
}

// show tells things, and no more of them than can be read.
func show(v any) string { return fmt.Sprintf("%.600s", strconv.QuoteToASCII(fmt.Sprintf("%+v", v))) }

// wantTake looks at what Take tells, and that it leaves what it is handed.
func wantTake(t *testing.T, what string, o object.Object, want ...group.Group) {
	t.Helper()
	before := held(o)
	if got, e := group.Take(o); !same(got, want) || e != api.OK {
		t.Errorf("%s: Take = %s, %d, want %s", what, show(got), e, show(want))
	}
	if !reflect.DeepEqual(held(o), before) {
		t.Errorf("%s: Take changed what was handed in", what)
	}
}

// wantNone looks that Take refuses an object, and Left with it.
func wantNone(t *testing.T, what string, o object.Object) {
	t.Helper()
	before := held(o)
	if got, e := group.Take(o); len(got) != 0 || e != api.ErrGroup {
		t.Errorf("%s: Take = %s, %d, want none, %d", what, show(got), e, api.ErrGroup)
	}
	if got, e := group.Left([]object.Object{o}); len(got) != 0 || e != api.ErrGroup {
		t.Errorf("%s: Left = %s, %d, want none, %d", what, show(got), e, api.ErrGroup)
	}
	if !reflect.DeepEqual(held(o), before) {
		t.Errorf("%s: what was handed in is changed", what)
	}
}

// wantBytes looks at what Bytes tells, and that it leaves what it is handed.
func wantBytes(t *testing.T, g group.Group, want ...byte) {
	t.Helper()
	before := append([]int(nil), g.Members[:cap(g.Members)]...)
	if got := group.Bytes(g); !bytes.Equal(got, want) {
		t.Errorf("Bytes of %+v = %v, want %v", g, got, want)
	}
	if after := g.Members[:cap(g.Members)]; len(after) > 0 && !reflect.DeepEqual(after, before) {
		t.Errorf("Bytes of %+v changed what was handed in", g)
	}
}

// wantLeft looks at what Left tells, a text an object, in which the sections
// that are left out are an x; and that it leaves what it is handed.
func wantLeft(t *testing.T, what string, all []object.Object, want ...string) {
	t.Helper()
	before := holds(all)
	got, e := group.Left(all)
	if e != api.OK || !reflect.DeepEqual(append([]string{}, rows(got)...), append([]string{}, want...)) {
		t.Errorf("%s: Left = %s, %d, want %s", what, show(rows(got)), e, show(want))
	}
	if !reflect.DeepEqual(holds(all), before) {
		t.Errorf("%s: Left changed what was handed in", what)
	}
}

// rows is what Left tells, a text an object.
func rows(left [][]bool) []string {
	var l []string
	for _, row := range left {
		var b strings.Builder
		for _, out := range row {
			if out {
				b.WriteByte('x')
			} else {
				b.WriteByte('-')
			}
		}
		l = append(l, b.String())
	}
	return l
}

// P10.2

func TestBytes(t *testing.T) {
	wantBytes(t, group.Group{Comdat: true, Members: []int{2}}, 1, 0, 0, 0, 2, 0, 0, 0)
	wantBytes(t, group.Group{Members: []int{2}}, 0, 0, 0, 0, 2, 0, 0, 0)
	wantBytes(t, group.Group{Comdat: true, Members: []int{5, 3, 0x04030201}}, 1, 0, 0, 0, 5, 0, 0, 0, 3, 0, 0, 0, 1, 2, 3, 4)
	wantBytes(t, group.Group{Members: []int{7, 7, 0}}, 0, 0, 0, 0, 7, 0, 0, 0, 7, 0, 0, 0, 0, 0, 0, 0)
}

func TestBytesOfNoMember(t *testing.T) {
	wantBytes(t, group.Group{}, 0, 0, 0, 0)
	wantBytes(t, group.Group{Members: []int{}}, 0, 0, 0, 0)
	wantBytes(t, group.Group{Comdat: true}, 1, 0, 0, 0)
}

func TestBytesOfNeitherPlaceNorName(t *testing.T) {
	for _, at := range []int{math.MinInt, -1, 0, 9, math.MaxInt} {
		for _, name := range []string{"", "f", "a\x00b", strings.Repeat("x", 300)} {
			wantBytes(t, group.Group{At: at, Name: name, Comdat: true, Members: []int{3}}, 1, 0, 0, 0, 3, 0, 0, 0)
		}
	}
}

func TestBytesOfAnyPlace(t *testing.T) {
	for place, want := range map[int][]byte{
		-1:                 {255, 255, 255, 255},
		-2:                 {254, 255, 255, 255},
		math.MinInt:        {0, 0, 0, 0},
		math.MaxInt:        {255, 255, 255, 255},
		-1 << 31:           {0, 0, 0, 128},
		limit:              {255, 255, 255, 127},
		limit + 1:          {0, 0, 0, 128},
		1<<32 - 1:          {255, 255, 255, 255},
		1 << 32:            {0, 0, 0, 0},
		0x0807060504030201: {1, 2, 3, 4},
	} {
		wantBytes(t, group.Group{Members: []int{place, 9}}, append(append([]byte{0, 0, 0, 0}, want...), 9, 0, 0, 0)...)
	}
}

func TestBytesLeaveSpareRoom(t *testing.T) {
	members := []int{4, 5, 6, 7}
	wantBytes(t, group.Group{Members: members[1:2]}, 0, 0, 0, 0, 5, 0, 0, 0)
	if members[2] != 6 || members[3] != 7 {
		t.Errorf("what lies behind the members became %v", members)
	}
}

func TestBytesAreNewMemory(t *testing.T) {
	g := group.Group{Comdat: true, Members: []int{2, 3}}
	first, want := group.Bytes(g), []byte{1, 0, 0, 0, 2, 0, 0, 0, 3, 0, 0, 0}
	second := group.Bytes(g)
	for i := range first[:cap(first)] {
		first[:cap(first)][i] = 99
	}
	if !bytes.Equal(second, want) || !reflect.DeepEqual(g.Members, []int{2, 3}) {
		t.Errorf("bytes share memory: %v, %v", second, g.Members)
	}
	wantBytes(t, g, want...)
}
