package object_test

import (
	"bytes"
	"math"
	"math/rand"
	"strconv"
	"strings"
	"testing"

	"sindri/api"
	"sindri/object"
)

// P9.2

// example is an object with symbols, and with relocations of two sections.
func example() object.Object {
	return object.Object{
		Type: 1, Machine: api.X86,
		Sections: []api.Section{
			{},
			{Name: ".text", Type: 1, Flags: 6, Addr: 0x1000, Data: []byte("code"), Align: 16},
			{Name: ".debug_info", Type: 1, Data: []byte("info"), Link: 3, Info: 4, Align: 1, Ent: 5},
			{Name: ".bss", Type: 8, Flags: 3, Data: make([]byte, 3)},
			{Name: ".group", Type: 17, Link: 50, Info: 1, Data: []byte{1, 0, 0, 0, 1, 0, 0, 0}},
		},
		Syms: []api.Symbol{
			{},
			{Name: "main", Bind: 1, Type: 2, Sect: 1, Value: 0x10, Size: 0x20},
			{Sect: 4},
			{Name: "abs", Bind: 15, Type: 15, Sect: 65521, Value: top},
			{Name: "far", Sect: 65534},
		},
		Relas: [][]api.Rela{
			nil,
			{{Off: 2, Sym: 3, Type: 2, Add: -1 << 63}},
			{{Off: 1, Sym: 2, Type: 10, Add: -4}, {}, {Off: top, Sym: 4, Type: limit, Add: 5}},
			{},
			nil,
		},
	}
}

// bare is an object of its first section alone.
func bare() object.Object {
	return object.Object{Type: 1, Machine: api.X86, Sections: []api.Section{{}}}
}

// put is the file that an object has to be put as.
func put(o object.Object) []byte {
	l := append([]api.Section(nil), o.Sections...)
	count := len(l)
	if len(o.Syms) > 0 {
		entries, names := symbolBytes(o.Syms...)
		l = append(l, api.Section{Name: ".symtab", Type: 2, Data: entries, Link: count + 1, Ent: 24}, api.Section{Name: ".strtab", Type: 3, Data: names})
	}
	for i, list := range o.Relas {
		if len(list) > 0 {
			l = append(l, api.Section{Name: ".rela" + l[i].Name, Type: 4, Data: relaBytes(list...), Link: count, Info: i, Ent: 24})
		}
	}
	return lay(o.Type, o.Machine, append(l, api.Section{Name: ".shstrtab", Type: 3}))
}

// wantRight looks at what Right tells, and whether Put refuses.
func wantRight(t *testing.T, what string, o object.Object, right bool) {
	t.Helper()
	if right {
		wantPut(t, what, o, put(o))
		wantBack(t, what, o)
	} else {
		wantUnput(t, what, o, false)
	}
}

// with is the example with a change.
func with(change func(o *object.Object)) object.Object {
	o := example()
	change(&o)
	return o
}

func TestExample1(t *testing.T) {
	o := object.Object{
		Type: 1, Machine: api.X86,
		Sections: []api.Section{{}, {Name: ".text", Type: 1, Flags: 6, Data: []byte{0xc3}}, {Name: ".debug_info", Type: 1, Data: make([]byte, 8)}},
		Syms:     []api.Symbol{{}, {Name: "main", Sect: 1}},
		Relas:    [][]api.Rela{nil, nil, {{Off: 0, Sym: 1, Type: 1, Add: 4}}},
	}
	wantRight(t, "the example", o, true)
	b, _ := object.Put(o)
	if b[60] != 7 || b[62] != 6 {
		t.Errorf("Put tells %d sections, the last one %d", b[60], b[62])
	}
	got, e := object.Take(b)
	if e != api.OK || len(got.Sections) != 7 {
		t.Fatalf("Take = %s, %d", show(got), e)
	}
	for i, want := range []api.Section{
		{}, o.Sections[1], o.Sections[2],
		{Name: ".symtab", Type: 2, Link: 4, Ent: 24, Data: got.Sections[3].Data},
		{Name: ".strtab", Type: 3, Data: []byte("\x00main\x00")},
		{Name: ".rela.debug_info", Type: 4, Link: 3, Info: 2, Ent: 24, Data: relaBytes(o.Relas[2]...)},
		{Name: ".shstrtab", Type: 3, Data: []byte("\x00.text\x00.debug_info\x00.symtab\x00.strtab\x00.rela.debug_info\x00.shstrtab\x00")},
	} {
		if s := got.Sections[i]; !alike(object.Object{Sections: []api.Section{s}}, object.Object{Sections: []api.Section{want}}) {
			t.Errorf("section %d is %+v, want %+v", i, s, want)
		}
	}
}

// The file of the first section alone, byte by byte.
func TestPutOfTheFewest(t *testing.T) {
	want := make([]byte, 64)
	copy(want, "\x7fELF\x02\x01\x01")
	want[16], want[18], want[20], want[40], want[52], want[58], want[60], want[62] = 2, 183, 1, 80, 64, 64, 2, 1
	want = append(want, "\x00.shstrtab\x00\x00\x00\x00\x00\x00"...)
	want = append(want, make([]byte, 64)...)
	last := make([]byte, 64)
	last[0], last[4], last[24], last[32] = 1, 3, 64, 11
	want = append(want, last...)
	o := bare()
	o.Type, o.Machine = 2, api.Arm
	wantPut(t, "the fewest", o, want)
	wantRight(t, "the fewest", o, true)
	o.Sections[0].Data, o.Syms, o.Relas = []byte{}, []api.Symbol{}, [][]api.Rela{}
	wantPut(t, "the fewest, with lists of nothing", o, want)
	o.Relas = [][]api.Rela{{}}
	wantPut(t, "the fewest, with no relocations", o, want)
}

func TestPut(t *testing.T) {
	wantRight(t, "the example", example(), true)
	wantRight(t, "without relocations", with(func(o *object.Object) { o.Relas = nil }), true)
	wantRight(t, "with lists of no relocations", with(func(o *object.Object) { o.Relas = make([][]api.Rela, 5) }), true)
	wantRight(t, "without symbols", with(func(o *object.Object) { o.Relas, o.Syms = nil, nil }), true)
	wantRight(t, "without symbols, with lists of no relocations", with(func(o *object.Object) { o.Relas, o.Syms = make([][]api.Rela, 5), []api.Symbol{} }), true)
	wantRight(t, "without sections but the first one", object.Object{Type: 1, Machine: 62, Sections: []api.Section{{}}, Syms: []api.Symbol{{Name: "a", Value: 1}}}, true)
	wantRight(t, "with relocations of one section", with(func(o *object.Object) { o.Relas[1] = nil }), true)
	wantRight(t, "with relocations of the last section", with(func(o *object.Object) { o.Relas[1], o.Relas[2], o.Relas[4] = nil, nil, []api.Rela{{Sym: 1}} }), true)
	wantRight(t, "with relocations of each section", with(func(o *object.Object) {
		for i := range o.Relas {
			if i > 0 {
				o.Relas[i] = []api.Rela{{Sym: i, Type: i}, {Off: 3}}
			}
		}
	}), true)
	wantRight(t, "a name for several", with(func(o *object.Object) {
		o.Sections[1].Name, o.Sections[3].Name, o.Sections[4].Name = ".debug_info", "", ""
		o.Relas[3], o.Relas[4] = []api.Rela{{Off: 3}}, []api.Rela{{Off: 4}}
	}), true)
}

func TestPutOfTypesAndMachines(t *testing.T) {
	for _, kind := range []int{math.MinInt, -1, 0, 1, 2, 3, 4, 257, 65537, 1<<32 | 1, math.MaxInt} {
		for _, machine := range []int{math.MinInt, -62, 0, 3, 61, 62, 63, 182, 183, 184, 256 + 62, 65536 + 62, 1<<32 | 183, math.MaxInt} {
			for _, o := range []object.Object{bare(), example()} {
				o.Type, o.Machine = kind, machine
				if (kind == 1 || kind == 2) && (machine == 62 || machine == 183) {
					wantRight(t, "a type and a machine", o, true)
				} else {
					wantUnput(t, "another type or machine", o, true)
				}
			}
		}
	}
}

func TestRightOfNoSections(t *testing.T) {
	wantRight(t, "nothing", object.Object{}, false)
	for _, none := range [][]api.Section{nil, {}} {
		wantRight(t, "no sections", with(func(o *object.Object) { o.Sections = none }), false)
		wantRight(t, "no sections, symbols and relocations", object.Object{Type: 1, Machine: 62, Sections: none}, false)
	}
}

func TestRightOfTheFirstSection(t *testing.T) {
	for _, first := range []api.Section{
		{Name: "a"}, {Name: "\x00"}, {Name: ".shstrtab"}, {Name: ".symtab"}, {Type: 1}, {Type: 2}, {Type: 3}, {Type: 8}, {Type: -1}, {Type: math.MinInt},
		{Flags: 1}, {Flags: 2}, {Flags: top}, {Flags: 1 << 63}, {Addr: 1}, {Addr: top}, {Data: []byte{0}}, {Data: []byte("a")},
		{Type: 8, Data: []byte{0}}, {Link: 1}, {Link: -1}, {Info: 1}, {Info: -1}, {Align: 1}, {Align: -1}, {Ent: 1}, {Ent: -1},
		{Link: math.MinInt}, {Info: 1 << 32}, {Align: 1 << 32}, {Ent: math.MaxInt}, {Link: math.MaxInt}, {Info: math.MinInt}, {Align: math.MinInt}, {Ent: 1 << 32},
	} {
		for _, o := range []object.Object{bare(), example()} {
			o.Sections[0] = first
			wantRight(t, "another first one", o, false)
		}
	}
	wantRight(t, "the first one left out", with(func(o *object.Object) { o.Sections, o.Relas = o.Sections[1:], o.Relas[1:] }), false)
	wantRight(t, "no bytes", with(func(o *object.Object) { o.Sections[0].Data = make([]byte, 0, 9) }), true)
}

func TestRightOfTypesOfSections(t *testing.T) {
	for i := 1; i < 5; i++ {
		for _, kind := range []int{2, 4, 9} {
			wantRight(t, "a type that none may have", with(func(o *object.Object) { o.Sections[i].Type = kind }), false)
			wantRight(t, "a type that none may have, without relocations", with(func(o *object.Object) { o.Sections[i].Type, o.Relas, o.Syms = kind, nil, nil }), false)
		}
		for _, kind := range []int{1, 3, 5, 6, 7, 8, 10, 11, 17, 0x6ffffff6, 1 << 30, limit} {
			wantRight(t, "a type", with(func(o *object.Object) { o.Sections[i].Type, o.Sections[i].Data = kind, nil }), true)
		}
		// What chapter 7 refuses is no part of what Right asks.
		for _, kind := range []int{0, -1, math.MinInt, limit + 1, 1<<32 + 1, 1<<32 + 2, math.MaxInt} {
			wantUnput(t, "a type that chapter 7 refuses", with(func(o *object.Object) { o.Sections[i].Type = kind }), true)
		}
	}
}

func TestRightOfNamesOfSections(t *testing.T) {
	for i := 1; i < 5; i++ {
		for _, name := range []string{".shstrtab", ".symtab", ".strtab"} {
			for _, kind := range []int{1, 3, 8} {
				wantRight(t, "a name that none may bear", with(func(o *object.Object) { o.Sections[i] = api.Section{Name: name, Type: kind} }), false)
				wantRight(t, "a name that none may bear, without symbols", with(func(o *object.Object) {
					o.Sections[i], o.Syms, o.Relas = api.Section{Name: name, Type: kind}, nil, nil
				}), false)
			}
		}
		for _, name := range []string{"", ".", "symtab", ".symta", ".symtab_", ".symtab_shndx", ".Symtab", ".strta", ".strtabs", ".shstrtab2", "shstrtab", " .strtab", ".dynsym", ".rela", ".rela.text", ".rel.text", "\xff", strings.Repeat("n", 195)} {
			wantRight(t, "a name", with(func(o *object.Object) { o.Sections[i].Name = name }), true)
		}
		// What chapter 3 refuses is no part of what Right asks.
		for _, name := range []string{"\x00", "a\x00", ".symtab\x00", "\x00.strtab", strings.Repeat("n", 201), strings.Repeat("n", 1000)} {
			wantUnput(t, "a name that may not be", with(func(o *object.Object) { o.Sections[i].Name = name }), true)
			wantUnput(t, "a name that may not be, without relocations", with(func(o *object.Object) { o.Sections[i].Name, o.Relas = name, nil }), true)
		}
	}
}

// With .rela ahead of it a name has five bytes more.
func TestPutOfNamesThatBecomeTooLong(t *testing.T) {
	for size := 190; size <= 203; size++ {
		for i := 1; i < 5; i++ {
			o := with(func(o *object.Object) {
				o.Sections[i].Name = strings.Repeat("n", size)
				o.Relas[i] = []api.Rela{{Sym: 1}}
			})
			if size <= 195 {
				wantRight(t, "a name that does not become too long", o, true)
			} else {
				wantUnput(t, "a name that becomes too long", o, true)
			}
			o.Relas[i] = nil
			if size <= 200 {
				wantRight(t, "a long name without relocations", o, true)
			} else {
				wantUnput(t, "a name that is too long", o, true)
			}
		}
	}
}

// What chapter 7 refuses of sections is no part of what Right asks.
func TestPutOfWhatChapter7Refuses(t *testing.T) {
	for i := 1; i < 5; i++ {
		for _, change := range []func(s *api.Section){
			func(s *api.Section) { s.Link = -1 }, func(s *api.Section) { s.Link = limit + 1 },
			func(s *api.Section) { s.Info = -1 }, func(s *api.Section) { s.Info = limit + 1 },
			func(s *api.Section) { s.Align = -1 }, func(s *api.Section) { s.Align = limit + 1 },
			func(s *api.Section) { s.Ent = -1 }, func(s *api.Section) { s.Ent = limit + 1 },
			func(s *api.Section) { s.Type, s.Data = 1, make([]byte, room+1) },
			func(s *api.Section) { s.Type, s.Data = 8, []byte{0, 1} },
		} {
			wantUnput(t, "a section that chapter 7 refuses", with(func(o *object.Object) { change(&o.Sections[i]) }), true)
		}
		wantRight(t, "numbers at their limits", with(func(o *object.Object) {
			o.Sections[i] = api.Section{Name: "x", Type: limit, Flags: top, Addr: top, Data: make([]byte, room), Link: limit, Info: limit, Align: limit, Ent: limit}
		}), true)
	}
}

// counted is an object of so many sections, with symbols or none, and with
// relocations of the last ones.
func counted(sections, symbols, related int) object.Object {
	o := bare()
	for i := 1; i < sections; i++ {
		o.Sections = append(o.Sections, api.Section{Name: "s" + strconv.Itoa(i), Type: 1, Data: make([]byte, i%5)})
	}
	o.Syms = make([]api.Symbol, symbols)
	if related > 0 {
		o.Relas = make([][]api.Rela, sections)
		for i := sections - related; i < sections; i++ {
			o.Relas[i] = []api.Rela{{Off: uint64(i), Sym: symbols - 1}}
		}
	}
	return o
}

func TestPutOfSoManySections(t *testing.T) {
	for _, x := range []struct{ sections, symbols, related int }{
		{62, 0, 0}, {63, 0, 0}, {60, 1, 0}, {61, 1, 0}, {61, most, 0}, {59, 2, 2}, {60, 1, 1}, {31, 1, 30}, {32, 1, 29}, {32, 3, 28}, {40, 1, 21},
	} {
		wantRight(t, "so many sections", counted(x.sections, x.symbols, x.related), true)
	}
	for _, x := range []struct{ sections, symbols, related int }{
		{64, 0, 0}, {65, 0, 0}, {1000, 0, 0}, {62, 1, 0}, {63, 1, 0}, {60, 1, 2}, {61, 1, 1}, {32, 1, 30}, {33, 1, 29}, {32, 1, 31}, {63, 1, 62}, {200, 1, 199},
	} {
		wantUnput(t, "too many sections", counted(x.sections, x.symbols, x.related), true)
	}
}

func TestRightOfTheNumberOfRelas(t *testing.T) {
	for _, count := range []int{1, 2, 4, 6, 7, 64} {
		o := with(func(o *object.Object) { o.Relas = make([][]api.Rela, count) })
		wantRight(t, "not as many Relas as sections, with none in them", o, false)
		for i := range o.Relas {
			o.Relas[i] = []api.Rela{}
		}
		wantRight(t, "not as many Relas as sections, with nothing in them", o, false)
		o.Relas[count-1] = []api.Rela{{}}
		wantRight(t, "not as many Relas as sections", o, false)
	}
	wantRight(t, "one less", with(func(o *object.Object) { o.Relas = o.Relas[:4] }), false)
	wantRight(t, "one more", with(func(o *object.Object) { o.Relas = append(o.Relas, nil) }), false)
	wantRight(t, "none", with(func(o *object.Object) { o.Relas = [][]api.Rela{} }), true)
	wantRight(t, "as many, with none in them", with(func(o *object.Object) { o.Relas = make([][]api.Rela, 5) }), true)
	for count := range 4 {
		o := bare()
		o.Relas = make([][]api.Rela, count)
		wantRight(t, "Relas of the first section alone", o, count < 2)
	}
}

func TestRightOfRelasOfTheFirstSection(t *testing.T) {
	wantRight(t, "one for the first section", with(func(o *object.Object) { o.Relas[0] = []api.Rela{{Sym: 1}} }), false)
	wantRight(t, "several for the first section", with(func(o *object.Object) { o.Relas[0] = make([]api.Rela, 7) }), false)
	wantRight(t, "one for the first section alone", with(func(o *object.Object) { o.Relas = [][]api.Rela{{{}}, nil, nil, nil, nil} }), false)
	wantRight(t, "none for the first section", with(func(o *object.Object) { o.Relas[0] = []api.Rela{} }), true)
	o := bare()
	o.Syms, o.Relas = make([]api.Symbol, 1), [][]api.Rela{{{}}}
	wantRight(t, "one for the only section", o, false)
}

func TestRightOfSoManyRelas(t *testing.T) {
	for _, count := range []int{1, 100, most - 1, most, most + 1, most + 2, 5000} {
		for i := 1; i < 5; i++ {
			list := make([]api.Rela, count)
			for j := range list {
				list[j] = api.Rela{Off: uint64(j), Sym: j % 5, Type: j, Add: int64(-j)}
			}
			wantRight(t, "so many relocations", with(func(o *object.Object) { o.Relas[i] = list }), count <= most)
		}
	}
	wantRight(t, "as many as may be in each section", with(func(o *object.Object) {
		for i := 1; i < 5; i++ {
			o.Relas[i] = make([]api.Rela, most)
		}
	}), true)
}

// each sets a relocation of the example, one after the other.
func each(do func(what string, set func(r api.Rela) object.Object)) {
	for i, l := range example().Relas {
		for j := range l {
			do("relocation "+strconv.Itoa(j)+" of "+strconv.Itoa(i), func(r api.Rela) object.Object {
				return with(func(o *object.Object) { o.Relas[i][j] = r })
			})
		}
	}
}

func TestRightOfTheSymOfRelas(t *testing.T) {
	each(func(what string, set func(r api.Rela) object.Object) {
		for _, sym := range []int{math.MinInt, -1 << 32, -limit - 1, -2, -1, 5, 6, 399, 400, 65536, limit - 1, limit, limit + 1, 1 << 32, 1<<32 + 1, math.MaxInt} {
			wantRight(t, what+" by no symbol", set(api.Rela{Sym: sym}), false)
		}
		for sym := range 5 {
			wantRight(t, what+" by a symbol", set(api.Rela{Sym: sym}), true)
		}
	})
	for _, count := range []int{1, 2, 100, most - 1, most} {
		o := with(func(o *object.Object) {
			o.Syms, o.Relas[1], o.Relas[2] = make([]api.Symbol, count), nil, []api.Rela{{Sym: count - 1}}
		})
		wantRight(t, "by the last symbol", o, true)
		o.Relas[2][0].Sym++
		wantRight(t, "by one beyond", o, false)
	}
	for _, none := range [][]api.Symbol{nil, {}} {
		for _, sym := range []int{-1, 0, 1} {
			wantRight(t, "without symbols", with(func(o *object.Object) {
				o.Syms, o.Relas[1], o.Relas[2] = none, nil, []api.Rela{{Sym: sym}}
			}), false)
		}
	}
}

func TestRightOfTheTypeOfRelas(t *testing.T) {
	each(func(what string, set func(r api.Rela) object.Object) {
		for _, kind := range []int{math.MinInt, -1 << 32, -limit - 1, -limit, -2, -1, limit + 1, limit + 2, 1<<32 - 1, 1 << 32, 1<<32 + 1, math.MaxInt} {
			wantRight(t, what+" of a Type that may not be", set(api.Rela{Type: kind}), false)
		}
		for _, kind := range []int{0, 1, 10, 255, 256, 65536, limit - 1, limit} {
			wantRight(t, what+" of a Type", set(api.Rela{Type: kind, Sym: 4}), true)
		}
	})
}

func TestPutOfOffAndAddOfRelas(t *testing.T) {
	each(func(what string, set func(r api.Rela) object.Object) {
		for _, n := range []int64{0, 1, -1, limit, -limit - 1, 1 << 32, math.MaxInt64, math.MinInt64} {
			wantRight(t, what, set(api.Rela{Off: uint64(n), Add: n}), true)
			wantRight(t, what, set(api.Rela{Off: uint64(^n), Add: n}), true)
		}
	})
}

func TestRightOfSymbolsThatMayNotBe(t *testing.T) {
	for _, bad := range []api.Symbol{
		{Name: "a\x00"}, {Name: "\x00"}, {Name: strings.Repeat("x", 201)}, {Bind: -1}, {Bind: 16}, {Type: -1}, {Type: 16}, {Type: math.MinInt}, {Bind: math.MaxInt},
		{Sect: -1}, {Sect: 65535}, {Sect: 65536}, {Sect: 65537}, {Sect: math.MinInt}, {Sect: math.MaxInt},
	} {
		for i := range example().Syms {
			wantRight(t, "a symbol that may not be", with(func(o *object.Object) { o.Syms[i] = bad }), false)
		}
		o := bare()
		o.Syms = []api.Symbol{bad}
		wantRight(t, "a symbol that may not be, alone", o, false)
	}
	for _, count := range []int{most - 1, most, most + 1, most + 2, 5000} {
		for _, o := range []object.Object{bare(), example()} {
			o.Syms = append(o.Syms, make([]api.Symbol, count-len(o.Syms))...)
			wantRight(t, "so many symbols", o, count <= most)
		}
	}
	wantRight(t, "a name as long as may be", with(func(o *object.Object) { o.Syms[1].Name = strings.Repeat("x", 200) }), true)
}

func TestRightOfTheSectOfSymbols(t *testing.T) {
	for i := range example().Syms {
		for _, sect := range []int{5, 6, 7, 63, 64, 255, 256, 32768, 65280, 65519, 65520} {
			wantRight(t, "a symbol in no section", with(func(o *object.Object) { o.Syms[i].Sect = sect }), false)
		}
		for _, sect := range []int{0, 1, 2, 3, 4, 65521, 65522, 65533, 65534} {
			wantRight(t, "a symbol", with(func(o *object.Object) { o.Syms[i].Sect = sect }), true)
		}
	}
	// Those that Put makes are no sections of the object.
	for count := 1; count <= 61; count++ {
		o := counted(count, 2, 0)
		o.Syms[1].Sect = count - 1
		wantRight(t, "the last section", o, true)
		o.Syms[1].Sect = count
		wantRight(t, "one beyond", o, false)
	}
}

// Symbols that may be, but whose names are too many bytes, are refused by
// chapter 8's Put.
func TestPutOfSymbolsWithTooManyNames(t *testing.T) {
	o := bare()
	for i := range 326 { // with the empty one 1 + 326 * 201 = 65527 bytes
		o.Syms = append(o.Syms, api.Symbol{Name: strconv.Itoa(1000+i) + strings.Repeat("x", 196)})
	}
	o.Syms = append(o.Syms, api.Symbol{Name: "8 bytes."})
	wantRight(t, "just as many", o, true)
	o.Syms[326].Name += "9"
	wantUnput(t, "one more", o, true)
}

func TestPutChangesNothing(t *testing.T) {
	o := example()
	o.Sections = append(o.Sections, api.Section{Name: "behind", Type: -1})[:5]
	o.Syms = append(o.Syms, api.Symbol{Name: "behind", Sect: -1})[:5]
	o.Relas = append(o.Relas, []api.Rela{{Off: 9, Sym: -1}})[:5]
	o.Relas[2] = append(o.Relas[2], api.Rela{Off: 9, Sym: -1})[:3]
	whole := []byte("code, and what lies in the room behind it")
	o.Sections[1].Data = whole[:4]
	wantRight(t, "with room behind it", o, true)
	if o.Sections[:6][5].Type != -1 || o.Syms[:6][5].Sect != -1 || len(o.Relas[:6][5]) != 1 || o.Relas[2][:4][3].Sym != -1 || string(whole[4:8]) != ", an" {
		t.Error("Put changed what lies behind a length")
	}
	a, _ := object.Put(o)
	b, _ := object.Put(o)
	want := put(o)
	clear(a)
	_ = append(a, "spare room"...)
	clear(whole)
	clear(o.Sections)
	clear(o.Syms)
	clear(o.Relas[2])
	if !bytes.Equal(b, want) {
		t.Error("what was put shares memory")
	}
}

// P9.3

func TestWhatIsPutIsTaken(t *testing.T) {
	for _, kind := range []int{1, 2} {
		for _, machine := range []int{62, 183} {
			for sections := 1; sections <= 40; sections += 3 {
				for _, x := range []struct{ symbols, related int }{{0, 0}, {1, 0}, {1, 1}, {30, min(sections-1, 20)}, {most, 0}} {
					o := counted(sections, x.symbols, min(x.related, sections-1))
					o.Type, o.Machine = kind, machine
					wantBack(t, "counted", o)
				}
			}
		}
	}
}

// The sections may have, at their places, what Put makes likewise: the Info of
// another type is no table of relocations.
func TestWhatIsPutIsTakenWithTheSameInfos(t *testing.T) {
	for i := 1; i < 5; i++ {
		for info := range 12 {
			wantRight(t, "an Info", with(func(o *object.Object) { o.Sections[i].Info, o.Sections[i].Link = info, info }), true)
		}
	}
}

// anything makes an object that may be put.
func anything(chance *rand.Rand) object.Object {
	number := func() uint64 { return []uint64{0, 1, 1 << 32, top, chance.Uint64()}[chance.Intn(5)] }
	small := func() int { return []int{0, 1, 2, limit, chance.Intn(limit)}[chance.Intn(5)] }
	o := object.Object{Type: 1 + chance.Intn(2), Machine: []int{62, 183}[chance.Intn(2)], Sections: []api.Section{{}}}
	for range chance.Intn(20) {
		s := api.Section{
			Name: []string{"", ".text", ".debug_info", ".debug_line", ".rela.text", "x" + strconv.Itoa(chance.Intn(99))}[chance.Intn(6)],
			Type: []int{1, 3, 7, 8, 17, limit}[chance.Intn(6)], Flags: number(), Addr: number(), Data: make([]byte, chance.Intn(30)),
			Link: small(), Info: small(), Align: small(), Ent: small(),
		}
		if s.Type != 8 {
			chance.Read(s.Data)
		}
		o.Sections = append(o.Sections, s)
	}
	for range []int{0, 1, 3, 40}[chance.Intn(4)] {
		o.Syms = append(o.Syms, api.Symbol{
			Name: []string{"", "main", "s" + strconv.Itoa(chance.Intn(99))}[chance.Intn(3)], Bind: chance.Intn(16), Type: chance.Intn(16),
			Sect: []int{0, chance.Intn(len(o.Sections)), 65521, 65522 + chance.Intn(13)}[chance.Intn(4)], Value: number(), Size: number(),
		})
	}
	if chance.Intn(4) > 0 {
		o.Relas = make([][]api.Rela, len(o.Sections))
	}
	for i := range o.Relas {
		if i == 0 || len(o.Syms) == 0 || chance.Intn(2) == 0 {
			continue
		}
		for range chance.Intn(9) {
			o.Relas[i] = append(o.Relas[i], api.Rela{Off: number(), Sym: chance.Intn(len(o.Syms)), Type: small(), Add: int64(number())})
		}
	}
	return o
}

func TestWhatIsPutIsTakenOfAnything(t *testing.T) {
	chance := rand.New(rand.NewSource(93))
	for range 4000 {
		wantRight(t, "anything that may be", anything(chance), true)
		if t.Failed() {
			return
		}
	}
}

// What is put and taken may not be put again as it is: it has the sections that
// Put made. Without these it may, and is put as the same file.
func TestWhatIsTakenIsPut(t *testing.T) {
	chance := rand.New(rand.NewSource(92))
	for range 1000 {
		o := anything(chance)
		b, e := object.Put(o)
		got, e2 := object.Take(b)
		if e != api.OK || e2 != api.OK {
			t.Fatalf("%d, %d", e, e2)
		}
		wantUnput(t, "with the sections that Put made", got, false)
		got.Sections, got.Relas = got.Sections[:len(o.Sections)], got.Relas[:len(o.Sections)]
		wantPut(t, "without them", got, b)
		if t.Failed() {
			return
		}
	}
}

// No refusal is named for an object whose file is greater than one that is read.
func TestPutOfMoreBytesThanAreTaken(t *testing.T) {
	o := bare()
	for len(o.Sections) < 16 {
		o.Sections = append(o.Sections, api.Section{Name: "s", Type: 1, Data: make([]byte, room)})
	}
	wantRight(t, "fewer", o, true)
	o.Sections = append(o.Sections, api.Section{Name: "s", Type: 1, Data: make([]byte, room)})
	wantPut(t, "more", o, put(o))
	wantTake(t, "more", put(o), object.Object{}, api.ErrBig)
}
