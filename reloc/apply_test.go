package reloc_test

import (
	"bytes"
	"fmt"
	"reflect"
	"testing"

	"sindri/api"
	"sindri/linkmap"
	"sindri/object"
	"sindri/reloc"
)

// with is bytes, with others laid over them from a place on.
func with(b []byte, at int, over ...byte) []byte {
	b = append([]byte(nil), b...)
	for i, v := range over {
		b[at+i] = v
	}
	return b
}

// full is so many bytes 255.
func full(size int) []byte { return bytes.Repeat([]byte{255}, size) }

// P12.3

func TestApplyExample(t *testing.T) {
	l := starterLink(t)
	for _, c := range []struct {
		machine, kind int
		got, lost     []byte
	}{
		{api.X86, 1, []byte{0x0c, 0x10, 0, 0, 0, 0, 0, 0}, full(8)},
		{api.X86, 10, []byte{0x0c, 0x10, 0, 0, 5, 6, 7, 8}, with(numbered(8), 0, full(4)...)},
		{api.X86, 11, []byte{0x0c, 0x10, 0, 0, 5, 6, 7, 8}, with(numbered(8), 0, full(4)...)},
		{api.Arm, 257, []byte{0x0c, 0x10, 0, 0, 0, 0, 0, 0}, full(8)},
		{api.Arm, 258, []byte{0x0c, 0x10, 0, 0, 5, 6, 7, 8}, with(numbered(8), 0, full(4)...)},
	} {
		what := fmt.Sprintf("machine %d, type %d", c.machine, c.kind)
		o := related(numbered(8), api.Rela{Sym: inMain, Type: c.kind, Add: 4})
		o.Machine = c.machine
		wantBytes(t, what, roomy(o), 0, info, l, c.got)
		wantBytes(t, what+", not placed", roomy(o), 5, info, l, c.lost)
		o.Relas[info][0].Sym = lost
		wantBytes(t, what+", not retained", roomy(o), 0, info, l, c.lost)
	}
}

func TestApplyNil(t *testing.T) {
	o := related(numbered(8), api.Rela{Sym: inMain, Type: 1, Add: 4})
	for _, sect := range []int{info, text, 0, -1, 5, most, least} { // ahead of all else
		wantRefused(t, "nil", o, 0, sect, nil, api.ErrNil)
	}
	wantRefused(t, "nil, and no object", object.Object{}, 0, 0, nil, api.ErrNil)
	o.Relas[info][0].Type = 99
	wantRefused(t, "nil, and a relocation that may not be", o, 0, info, nil, api.ErrNil)
}

func TestApplyOfMapThatNoCallMade(t *testing.T) {
	o := related(numbered(24), api.Rela{Sym: inMain, Type: 1}, api.Rela{Off: 8, Sym: part, Type: 1}, api.Rela{Off: 16, Sym: known, Type: 1})
	want := append(append(full(8), 8, 0, 0, 0, 0, 0, 0, 0), full(8)...)
	wantBytes(t, "no call made it", o, 0, info, &linkmap.Linked{}, want)
	wantRefused(t, "no call made it, no such section", o, 0, 5, &linkmap.Linked{}, api.ErrSect)
}

func TestApplyNoSection(t *testing.T) {
	l := starterLink(t)
	o := roomy(related(numbered(8), api.Rela{Sym: inMain, Type: 1}))
	for _, sect := range []int{-1, -2, least, 5, 6, 64, 65521, 1 << 32, most} {
		wantRefused(t, "no such section", o, 0, sect, l, api.ErrSect)
	}
	wantRefused(t, "no object", object.Object{}, 0, 0, l, api.ErrSect)
	// Lists of relocations make no section of it.
	o.Relas = append(o.Relas, []api.Rela{{Sym: inMain, Type: 99}})
	wantRefused(t, "relocations of no section", o, 0, 5, l, api.ErrSect)
	wantBytes(t, "the first section", o, 0, 0, l, nil)
	wantBytes(t, "the last section", o, 0, str, l, numbered(8))
}

func TestApplyOfFirstAndLast(t *testing.T) {
	l := starterLink(t)
	o := starter(symbols()...)
	o.Sections[0].Data = numbered(8)
	r := []api.Rela{{Sym: inMain, Type: 10, Add: 4}}
	o.Relas = [][]api.Rela{r, nil, nil, nil, r}
	wantBytes(t, "the first section", o, 0, 0, l, with(numbered(8), 0, 0x0c, 0x10, 0, 0))
	wantBytes(t, "the last section", o, 0, str, l, with(numbered(8), 0, 0x0c, 0x10, 0, 0))
	wantBytes(t, "one between", o, 0, info, l, numbered(32))
}

// Any section may have relocations: one of memory, too, and one of Type 8.
func TestApplyOfAnySection(t *testing.T) {
	l := starterLink(t)
	for sect := range 5 {
		for _, kind := range []int{0, 1, 8, 14} {
			o := starter(symbols()...)
			o.Sections[sect].Data, o.Sections[sect].Type = numbered(8), kind
			o.Relas = make([][]api.Rela, 5)
			o.Relas[sect] = []api.Rela{{Off: 2, Sym: known, Type: 11, Add: 2}}
			wantBytes(t, "any section", o, 0, sect, l, with(numbered(8), 2, 2, 0x10, 0x40, 0))
		}
	}
}

func TestApplyOfNoRelocation(t *testing.T) {
	l := starterLink(t)
	for what, relas := range map[string][][]api.Rela{
		"no rows":            nil,
		"rows of none":       {},
		"a row that is nil":  {nil, nil, nil, nil, nil},
		"a row of none":      {{}, {}, {}, {}, {}},
		"fewer rows":         {{{Type: 99}}, {{Type: 99}}, {{Type: 99}}},
		"others' rows alone": {{{Type: 99}}, {{Type: 99}}, {{Type: 99}}, nil, {{Type: 99}}},
	} {
		o := starter(symbols()...)
		o.Relas = relas
		wantBytes(t, what, roomy(o), 0, info, l, numbered(32))
		o.Machine = 0 // no relocation, no machine that counts
		wantBytes(t, what, roomy(o), 0, info, l, numbered(32))
		o.Sections[info].Data = nil
		wantBytes(t, what+", no bytes", roomy(o), 0, info, l, nil)
	}
}

func TestApplyOfTypeWithoutSize(t *testing.T) {
	l := starterLink(t)
	for machine, kinds := range map[int][]int{
		62:  {0, 2, 9, 12, 24, 257, 258, -1, most, least, 1<<32 + 1},
		183: {0, 1, 10, 11, 256, 259, -1, most, least, 1<<32 + 257},
		0:   {1, 10, 11, 257, 258, 0},
		-1:  {1, 257},
		63:  {1, 10},
	} {
		for _, kind := range kinds {
			o := related(numbered(16), api.Rela{Sym: inMain, Type: kind})
			o.Machine = machine
			wantRefused(t, fmt.Sprintf("machine %d, type %d", machine, kind), roomy(o), 0, info, l, api.ErrRel)
		}
	}
}

func TestApplyWithinTheSection(t *testing.T) {
	l := starterLink(t)
	for _, c := range []struct {
		kind, size int
	}{{1, 8}, {10, 4}, {11, 4}} {
		v := []byte{0x0c, 0x10, 0, 0, 0, 0, 0, 0}[:c.size]
		for _, length := range []int{c.size, c.size + 1, 16, 32} {
			last := length - c.size
			for at := 0; at <= last; at++ { // from the beginning on to the end
				o := related(numbered(length), api.Rela{Off: uint64(at), Sym: inMain, Type: c.kind, Add: 4})
				wantBytes(t, "within", roomy(o), 0, info, l, with(numbered(length), at, v...))
			}
			for _, off := range []uint64{
				uint64(last) + 1, uint64(last) + 2, uint64(length) - 1, uint64(length), uint64(length) + 1,
				1 << 31, 1 << 32, 1<<32 + 1, 1<<63 - 1, 1 << 63,
				top, top - 1, top - 2, top - 3, top - 4, top - 7, top - 8, top - 9, // near 2 to the 64
			} {
				o := related(numbered(length), api.Rela{Off: off, Sym: inMain, Type: c.kind, Add: 4})
				wantRefused(t, fmt.Sprintf("%d bytes at %d of %d", c.size, off, length), roomy(o), 0, info, l, api.ErrRel)
			}
		}
		for length := range c.size {
			o := related(numbered(length), api.Rela{Sym: inMain, Type: c.kind, Add: 4})
			wantRefused(t, "a section that is too short", roomy(o), 0, info, l, api.ErrRel)
		}
	}
}

func TestApplyWhatValueRefuses(t *testing.T) {
	l := starterLink(t)
	for _, kind := range []int{1, 10, 11} {
		for _, sym := range []int{-1, 8, most, least} {
			wantRefused(t, "no such symbol", roomy(related(numbered(8), api.Rela{Sym: sym, Type: kind})), 0, info, l, api.ErrRel)
		}
		for _, sect := range []int{5, 65520, 65522, 65535, -1} {
			o := related(numbered(8), api.Rela{Sym: 1, Type: kind})
			o.Syms[1].Sect = sect
			wantRefused(t, "no such section", roomy(o), 0, info, l, api.ErrRel)
		}
	}
}

func TestApplyOfFourBytes(t *testing.T) {
	l := starterLink(t)
	for _, c := range []struct {
		value uint64
		want  []byte
	}{
		{0, []byte{0, 0, 0, 0}},
		{0x04030201, []byte{1, 2, 3, 4}},
		{1<<31 - 1, []byte{255, 255, 255, 127}},
		{1 << 31, []byte{0, 0, 0, 128}},
		{1<<32 - 2, []byte{254, 255, 255, 255}},
		{1<<32 - 1, full(4)},
		{1 << 32, nil},
		{1<<32 + 1, nil},
		{1<<33 - 1, nil},
		{1<<63 - 1, nil},
		{1 << 63, nil},
		{1<<64 - 1<<31, nil}, // as a signed number it would have room
		{1<<64 - 1<<32, nil},
		{top - 2, nil},
		{top - 1, nil},
		{api.Tomb, full(4)},
	} {
		for _, k := range []pair{{62, 10}, {62, 11}, {183, 258}} {
			o := related(numbered(8), api.Rela{Off: 2, Sym: number, Type: k.kind, Add: 0})
			o.Machine = k.machine
			o.Syms[number].Value = c.value
			what := fmt.Sprintf("machine %d, type %d, %#x", k.machine, k.kind, c.value)
			if c.want == nil {
				wantRefused(t, what, roomy(o), 0, info, l, api.ErrRel)
				continue
			}
			wantBytes(t, what, roomy(o), 0, info, l, with(numbered(8), 2, c.want...))
		}
	}
}

// It is the sum that four bytes must have room for, and that is Tomb or not.
func TestApplyOfFourBytesBySum(t *testing.T) {
	l := starterLink(t)
	wantSum := func(what string, sym int, add int64, want ...byte) {
		t.Helper()
		o := roomy(related(numbered(4), api.Rela{Sym: sym, Type: 10, Add: add}))
		if len(want) == 0 {
			wantRefused(t, what, o, 0, info, l, api.ErrRel)
			return
		}
		wantBytes(t, what, o, 0, info, l, want)
	}
	wantSum("2 to the 32 and 0", number, 0)
	wantSum("2 to the 32 less 1", number, -1, full(4)...)
	wantSum("the symbol's address less itself less 1", inMain, -4105, full(4)...)
	wantSum("the symbol's address less itself less 2", inMain, -4106)
	wantSum("no name and less than 0", first, -2)
	wantSum("no name and less than 0, at Tomb", first, -1, full(4)...)
	wantSum("no name and 2 to the 32", first, 1<<32)
	wantSum("at Tomb, and more", gone, 9, full(4)...)
	wantSum("not known, and less", unknown, -9, full(4)...)
	wantSum("not retained, and less", lost, -9, full(4)...)
	wantSum("another section's place", part, 0x0807, 0x0f, 8, 0, 0)
}

func TestApplyOfEightBytes(t *testing.T) {
	l := starterLink(t)
	for _, k := range []pair{{62, 1}, {183, 257}} {
		for _, value := range []uint64{0, 1, 0x0807060504030201, 1<<32 - 1, 1 << 32, 1<<32 + 1, 1<<63 - 1, 1 << 63, 1<<64 - 1<<32, top - 1, top} {
			o := related(numbered(11), api.Rela{Off: 1, Sym: number, Type: k.kind})
			o.Machine = k.machine
			o.Syms[number].Value = value
			var b []byte
			for i := range 8 {
				b = append(b, byte(value>>(8*i)))
			}
			wantBytes(t, fmt.Sprintf("machine %d, %#x", k.machine, value), roomy(o), 0, info, l, with(numbered(11), 1, b...))
		}
	}
}

// What stood there is not added to; later relocations are laid over earlier ones.
func TestApplyOverTheSameBytes(t *testing.T) {
	l := starterLink(t)
	eight := api.Rela{Off: 2, Sym: first, Type: 1, Add: 0x1817161514131211}
	four := api.Rela{Off: 4, Sym: first, Type: 10, Add: 0x24232221}
	same := api.Rela{Off: 2, Sym: first, Type: 1, Add: 0x3837363534333231}
	wide := []byte{0x11, 0x12, 0x13, 0x14, 0x15, 0x16, 0x17, 0x18}
	for _, c := range []struct {
		what string
		list []api.Rela
		want []byte
	}{
		{"four over eight", []api.Rela{eight, four}, with(with(numbered(12), 2, wide...), 4, 0x21, 0x22, 0x23, 0x24)},
		{"eight over four", []api.Rela{four, eight}, with(numbered(12), 2, wide...)},
		{"eight over eight", []api.Rela{eight, same}, with(numbered(12), 2, 0x31, 0x32, 0x33, 0x34, 0x35, 0x36, 0x37, 0x38)},
		{"and the other way", []api.Rela{same, eight}, with(numbered(12), 2, wide...)},
		{"the same twice", []api.Rela{eight, eight}, with(numbered(12), 2, wide...)},
		{"over and over", []api.Rela{eight, same, four, eight}, with(numbered(12), 2, wide...)},
		{"by one byte", []api.Rela{{Off: 0, Sym: first, Type: 10, Add: 0x44434241}, {Off: 3, Sym: first, Type: 10, Add: 0x54535251}}, with(numbered(12), 0, 0x41, 0x42, 0x43, 0x51, 0x52, 0x53, 0x54)},
		{"by one byte, backwards", []api.Rela{{Off: 3, Sym: first, Type: 10, Add: 0x54535251}, {Off: 0, Sym: first, Type: 10, Add: 0x44434241}}, with(numbered(12), 0, 0x41, 0x42, 0x43, 0x44, 0x52, 0x53, 0x54)},
	} {
		wantBytes(t, c.what, roomy(related(numbered(12), c.list...)), 0, info, l, c.want)
	}
}

// A refusal of whichever relocation leaves nothing, whatever came ahead of it, or
// comes behind it.
func TestApplyRefusesAtAnyPlace(t *testing.T) {
	l := starterLink(t)
	good := api.Rela{Sym: inMain, Type: 1}
	for what, bad := range map[string]api.Rela{
		"no size":        {Sym: inMain, Type: 2},
		"too far":        {Off: 9, Sym: inMain, Type: 1},
		"no symbol":      {Sym: 8, Type: 1},
		"too great":      {Sym: number, Type: 10},
		"all of it":      {Off: 99, Sym: 8, Type: 2},
		"far, no symbol": {Off: 99, Sym: -1, Type: 1},
	} {
		for at := range 4 {
			list := []api.Rela{good, good, good}
			list = append(append(append([]api.Rela(nil), list[:at]...), bad), list[at:]...)
			wantRefused(t, what, roomy(related(numbered(16), list...)), 0, info, l, api.ErrRel)
		}
	}
	// Later relocations are no excuse: what is too great is refused where it stands.
	o := related(numbered(16), api.Rela{Sym: number, Type: 10}, api.Rela{Sym: number, Type: 1})
	wantRefused(t, "too great, then covered", o, 0, info, l, api.ErrRel)
}

func TestApplyIsNotKept(t *testing.T) {
	l := starterLink(t)
	o := roomy(related(numbered(16), api.Rela{Off: 8, Sym: inMain, Type: 1}))
	one, e := reloc.Apply(o, 0, info, l)
	two, f := reloc.Apply(o, 0, info, l)
	if e != api.OK || f != api.OK || !bytes.Equal(one, two) {
		t.Fatalf("Apply = %s, %d, then %s, %d", show(one), e, show(two), f)
	}
	for i := range one[:cap(one)] {
		one[:cap(one)][i] = 0xaa
	}
	if want := with(numbered(16), 8, 8, 0x10, 0, 0, 0, 0, 0, 0); !bytes.Equal(two, want) {
		t.Errorf("one answer shares memory with another: %s", show(two))
	}
	if !reflect.DeepEqual(l, starterLink(t)) {
		t.Error("Apply changed the map")
	}
	// Nor does an answer change with what was handed in.
	o.Sections[info].Data[0], o.Relas[info][0].Sym, o.Syms[inMain].Value = 99, 0, 99
	if want := with(numbered(16), 8, 8, 0x10, 0, 0, 0, 0, 0, 0); !bytes.Equal(two, want) {
		t.Errorf("an answer shares memory with the object: %s", show(two))
	}
}

// An object that is taken from a file has its relocations applied.
func TestApplyOfTakenObject(t *testing.T) {
	o := related(numbered(32), api.Rela{Off: 4, Sym: inMain, Type: 1, Add: 4}, api.Rela{Off: 20, Sym: known, Type: 10, Add: -1})
	b, e := object.Put(o)
	if e != api.OK {
		t.Fatalf("object.Put: %d", e)
	}
	o, e = object.Take(b)
	if e != api.OK {
		t.Fatalf("object.Take: %d", e)
	}
	want := with(with(numbered(32), 4, 0x0c, 0x10, 0, 0, 0, 0, 0, 0), 20, 0xff, 0x0f, 0x40, 0)
	wantBytes(t, "taken", o, 0, info, starterLink(t), want)
}
