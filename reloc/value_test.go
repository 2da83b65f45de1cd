package reloc_test

import (
	"reflect"
	"testing"

	"sindri/api"
	"sindri/linkmap"
	"sindri/object"
	"sindri/reloc"
)

// links are maps that retain nothing and know no symbol, however made.
func links(t *testing.T) map[string]*linkmap.Linked {
	t.Helper()
	return map[string]*linkmap.Linked{
		"a map that is nil":     nil,
		"one that no call made": {},
		"one of nothing":        made(t, api.Map{}),
	}
}

// P12.2

func TestValueOfNoSymbol(t *testing.T) {
	l := starterLink(t)
	o := roomy(starter(symbols()...))
	for _, sym := range []int{-1, least, len(o.Syms), len(o.Syms) + 1, most, 1 << 32} {
		wantNoValue(t, "no such symbol", o, 0, api.Rela{Sym: sym, Add: 5}, l)
	}
	wantValue(t, "the first symbol", o, 0, api.Rela{Sym: 0, Add: 5}, l, 5)
	wantValue(t, "the last symbol", o, 0, api.Rela{Sym: len(o.Syms) - 1, Add: 5}, l, 1<<32+5)
	wantNoValue(t, "no symbol at all", starter(), 0, api.Rela{}, l)
	wantNoValue(t, "no object", object.Object{}, 0, api.Rela{}, l)
}

func TestValueOfNoSection(t *testing.T) {
	l := starterLink(t)
	for _, sect := range []int{
		65522, 65523, 65535, 65536, 1 << 32, 1<<32 + 1, most, // from 65522 on
		5, 6, 63, 64, 255, 256, 65519, 65520, // behind the last one
		-1, -2, -65521, least, // ahead of the first one
	} {
		o := roomy(starter(api.Symbol{}, api.Symbol{Name: "a", Sect: sect, Value: 3}))
		wantNoValue(t, "no such section", o, 0, api.Rela{Sym: 1, Add: 5}, l)
		wantNoValue(t, "no such section, of an object that is not placed", o, 7, api.Rela{Sym: 1, Add: 5}, nil)
	}
	o := roomy(starter(api.Symbol{}, api.Symbol{Name: "a", Sect: str, Value: 3}))
	wantValue(t, "the last section", o, 0, api.Rela{Sym: 1, Add: 5}, l, 8)
}

// An object may have more sections than those that symbols can stand in.
func TestValueOfManySections(t *testing.T) {
	o := object.Object{Sections: make([]api.Section, 65540)}
	for i := range o.Sections {
		o.Sections[i].Flags = 2
	}
	m := api.Map{Places: []api.Place{{Sect: 65520, Addr: 4096}, {Sect: 65521, Addr: 8192}, {Sect: 65522, Addr: 9000}, {Sect: 65535, Addr: 9500}}}
	l := made(t, m, o)
	for sect, want := range map[int]uint64{65519: api.Tomb, 65520: 4096 + 3 + 5, 65521: 3 + 5} {
		o.Syms = []api.Symbol{{Name: "a", Sect: sect, Value: 3}}
		wantValue(t, "a section that symbols may stand in", o, 0, api.Rela{Add: 5}, l, want)
	}
	for _, sect := range []int{65522, 65535, 65539, 65540} {
		o.Syms = []api.Symbol{{Name: "a", Sect: sect, Value: 3}}
		wantNoValue(t, "a section that they may not", o, 0, api.Rela{Add: 5}, l)
	}
}

// Without any section there is no first one either.
func TestValueWithoutSections(t *testing.T) {
	l := starterLink(t)
	o := object.Object{Syms: []api.Symbol{{}, {Name: "printf"}, {Name: "n", Sect: plain, Value: 3}, {Name: "a", Sect: 1}}}
	for _, sym := range []int{0, 1, 3} {
		wantNoValue(t, "no section at all", o, 0, api.Rela{Sym: sym, Add: 5}, l)
	}
	wantValue(t, "a plain number", o, 0, api.Rela{Sym: 2, Add: 5}, l, 8)
	o.Sections = make([]api.Section, 1)
	wantValue(t, "the first section alone, no name", o, 0, api.Rela{Sym: 0, Add: 5}, l, 5)
	wantValue(t, "the first section alone, a name", o, 0, api.Rela{Sym: 1, Add: 5}, l, printf+5)
	wantNoValue(t, "the first section alone, another one", o, 0, api.Rela{Sym: 3, Add: 5}, l)
}

func TestValueOfPlainNumber(t *testing.T) {
	for what, l := range map[string]*linkmap.Linked{"placed": starterLink(t), "nil": nil, "made by no call": {}} {
		for _, c := range []struct {
			value uint64
			add   int64
			want  uint64
		}{
			{0, 0, 0}, {5, 0, 5}, {5, 7, 12}, {5, -5, 0}, {5, -6, top}, {0, -1, top}, {0, least, 1 << 63},
			{top, 0, top}, {top, 1, 0}, {top, 5, 4}, {top, -1, top - 1}, {1 << 63, least, 0}, {1 << 63, most, top}, {top - 1, 1, top},
		} {
			o := starter(api.Symbol{}, api.Symbol{Name: "printf", Sect: plain, Value: c.value, Size: 9})
			wantValue(t, what, o, 0, api.Rela{Sym: 1, Add: c.add}, l, c.want)
			o.Syms[1].Name = ""
			wantValue(t, what+", without a name", o, 3, api.Rela{Sym: 1, Add: c.add}, l, c.want)
		}
	}
}

func TestValueOfNoName(t *testing.T) {
	ls := links(t)
	ls["a map of some"] = starterLink(t)
	for what, l := range ls {
		o := starter(api.Symbol{}, api.Symbol{Value: 77, Size: 9, Bind: 1})
		for add, want := range map[int64]uint64{0: 0, 5: 5, -1: top, most: most, least: 1 << 63, -4096: 1<<64 - 4096} {
			wantValue(t, what, o, 0, api.Rela{Sym: 0, Add: add}, l, want)
			wantValue(t, what+", of a symbol with a value", o, 0, api.Rela{Sym: 1, Add: add}, l, want)
		}
	}
}

func TestValueOfNameInTheMap(t *testing.T) {
	l := starterLink(t)
	// The symbol's own Value does not count.
	o := starter(api.Symbol{}, api.Symbol{Name: "printf", Value: 77}, api.Symbol{Name: "zero", Value: 77}, api.Symbol{Name: "high", Value: 77}, api.Symbol{Name: "gone", Value: 77}, api.Symbol{Name: "unknown", Value: 77}, api.Symbol{Name: "main", Value: 77})
	for _, c := range []struct {
		sym  int
		add  int64
		want uint64
	}{
		{1, 0, printf}, {1, 8, printf + 8}, {1, -4, printf - 4}, {1, -printf, 0}, {1, -printf - 1, top}, {1, least, printf + 1<<63},
		{2, 0, 0}, {2, -1, top}, {2, 9, 9},
		{3, 0, top - 1}, {3, 1, top}, {3, 2, 0}, {3, 5, 3}, {3, -1, top - 2},
		{4, 0, api.Tomb}, {4, 1, api.Tomb}, {4, -1, api.Tomb}, {4, least, api.Tomb}, // at Tomb: whatever is added
		{5, 0, api.Tomb}, {5, 1, api.Tomb}, {5, -8, api.Tomb}, {5, most, api.Tomb}, // not known
		{6, 3, api.Tomb}, // known to no map, though sections have it
	} {
		for obj := -1; obj <= 2; obj++ { // which object it is says nothing here
			wantValue(t, o.Syms[c.sym].Name, o, obj, api.Rela{Sym: c.sym, Add: c.add}, l, c.want)
		}
	}
	for what, l := range links(t) {
		for sym := 1; sym < len(o.Syms); sym++ {
			wantValue(t, what, o, 0, api.Rela{Sym: sym, Add: 5}, l, api.Tomb)
		}
	}
}

func TestValueOfMemory(t *testing.T) {
	l := starterLink(t)
	o := starter(api.Symbol{}, api.Symbol{Name: "main", Sect: text, Value: 8, Size: 99}, api.Symbol{Sect: text}, api.Symbol{Name: "far", Sect: text, Value: 1 << 40}, api.Symbol{Name: "last", Sect: text, Value: top})
	for _, c := range []struct {
		obj, sym int
		add      int64
		want     uint64
	}{
		{0, 1, 4, 4108}, {0, 1, 0, 4104}, {0, 1, -8, 4096}, {0, 1, -4104, 0}, {0, 1, -4105, top}, {0, 1, least, 4104 + 1<<63}, {0, 1, most, 4103 + 1<<63},
		{1, 1, 4, other + 12}, {1, 2, 0, other},
		{0, 2, 0, 4096}, {0, 2, 7, 4103}, {0, 2, 4000, 8096}, // how many bytes the section has says nothing
		{0, 3, 1, 4097 + 1<<40},
		{0, 4, 0, 4095}, {0, 4, 1, 4096}, {0, 4, -4096, top}, // the sums pass 2 to the 64
	} {
		wantValue(t, "retained", o, c.obj, api.Rela{Sym: c.sym, Add: c.add}, l, c.want)
	}
}

func TestValueOfMemoryNotRetained(t *testing.T) {
	l := starterLink(t)
	o := starter(api.Symbol{}, api.Symbol{Name: "main", Sect: text, Value: 8}, api.Symbol{Name: "printf", Sect: data, Value: 8}, api.Symbol{Sect: data})
	for _, add := range []int64{0, 1, -1, -8, most, least} {
		wantValue(t, "another section", o, 0, api.Rela{Sym: 2, Add: add}, l, api.Tomb)
		wantValue(t, "another section, no name", o, 0, api.Rela{Sym: 3, Add: add}, l, api.Tomb)
		for _, obj := range []int{2, 3, -1, most, least, 1 << 32} {
			wantValue(t, "another object", o, obj, api.Rela{Sym: 1, Add: add}, l, api.Tomb)
		}
		for what, l := range links(t) {
			wantValue(t, what, o, 0, api.Rela{Sym: 1, Add: add}, l, api.Tomb)
		}
	}
}

// A section of memory is one whose Flags have the bit 2, whatever else it has; it
// may be retained without a byte, and at 0.
func TestValueByFlags(t *testing.T) {
	for flags := uint64(0); flags < 64; flags++ {
		for _, kind := range []int{1, 8, 14, 17} {
			o := object.Object{
				Sections: []api.Section{{}, {Name: ".debug_x", Type: kind, Flags: flags, Addr: 333}, {Name: ".debug_x", Type: kind, Flags: flags | 2}},
				Syms:     []api.Symbol{{}, {Name: "a", Sect: 1, Value: 8}},
			}
			wanted, lost := uint64(12), uint64(12)
			m := api.Map{Places: []api.Place{{Sect: 2, Addr: 5}}}
			if flags&2 != 0 {
				wanted, lost = 12+4096, api.Tomb
				m.Places = append(m.Places, api.Place{Sect: 1, Addr: 4096})
			}
			wantValue(t, "by flags", o, 0, api.Rela{Sym: 1, Add: 4}, made(t, m, o), wanted)
			wantValue(t, "by flags, not retained", o, 0, api.Rela{Sym: 1, Add: 4}, nil, lost)
		}
	}
	o := object.Object{Sections: []api.Section{{}, {Flags: 2}}, Syms: []api.Symbol{{Sect: 1, Value: 7}}}
	l := made(t, api.Map{Places: []api.Place{{Sect: 1, Addr: 0}}}, o)
	wantValue(t, "retained at 0, without a byte", o, 0, api.Rela{Add: -7}, l, 0)
}

// The section 0 is none that symbols stand in, though a map may place it.
func TestValueOfFirstSectionPlaced(t *testing.T) {
	o := object.Object{Sections: []api.Section{{Flags: 2}}, Syms: []api.Symbol{{Value: 8}, {Name: "a", Value: 8}}}
	l := made(t, api.Map{Places: []api.Place{{Sect: 0, Addr: 4096}}, Syms: []api.Named{{Name: "a", Addr: 100}}}, o)
	wantValue(t, "no name", o, 0, api.Rela{Sym: 0, Add: 4}, l, 4)
	wantValue(t, "a name", o, 0, api.Rela{Sym: 1, Add: 4}, l, 104)
}

func TestValueOfOtherSection(t *testing.T) {
	ls := links(t)
	ls["a map of some"] = starterLink(t)
	for what, l := range ls {
		for _, sect := range []int{info, str} {
			o := starter(api.Symbol{}, api.Symbol{Name: "printf", Sect: sect, Value: 8, Size: 3}, api.Symbol{Sect: sect, Value: top})
			for _, obj := range []int{0, 1, -1, most} {
				for add, want := range map[int64]uint64{0: 8, 4: 12, -8: 0, -9: top, most: most + 8, least: 1<<63 + 8} {
					wantValue(t, what, o, obj, api.Rela{Sym: 1, Add: add}, l, want)
				}
				for add, want := range map[int64]uint64{0: top, 1: 0, 9: 8, -1: top - 1, least: 1<<63 - 1} {
					wantValue(t, what, o, obj, api.Rela{Sym: 2, Add: add}, l, want)
				}
			}
		}
	}
}

// Neither its place nor its type is asked of a relocation, nor the machine, nor
// what the symbol is beside its name, its section and its value.
func TestValueHangsOnNothingElse(t *testing.T) {
	l := starterLink(t)
	for _, o := range []object.Object{starter(symbols()...), roomy(starter(symbols()...))} {
		for _, machine := range []int{0, 62, 183, -1} {
			o.Machine, o.Type = machine, machine
			for _, r := range []api.Rela{{}, {Off: top, Type: -1}, {Off: 1 << 40, Type: 10}, {Off: 3, Type: 258}} {
				r.Sym, r.Add = inMain, 4
				wantValue(t, "main", o, 0, r, l, 4108)
			}
		}
		for i := range o.Syms {
			o.Syms[i].Bind, o.Syms[i].Type, o.Syms[i].Size = 9, 7, top
		}
		o.Relas = nil
		wantValue(t, "main", o, 0, api.Rela{Sym: inMain, Add: 4}, l, 4108)
	}
	if !reflect.DeepEqual(l, starterLink(t)) {
		t.Error("Value changed the map")
	}
}

// Of two symbols the one that the relocation names is taken, and a later call
// answers as the first one did.
func TestValueAgain(t *testing.T) {
	l := starterLink(t)
	o := starter(symbols()...)
	want := []uint64{1, 4105, api.Tomb, 9, printf + 1, api.Tomb, api.Tomb, 1<<32 + 1}
	for range 3 {
		for sym, n := range want {
			wantValue(t, o.Syms[sym].Name, o, 0, api.Rela{Sym: sym, Add: 1}, l, n)
		}
	}
	if n, e := reloc.Value(o, 0, api.Rela{Sym: 8}, l); n != 0 || e != api.ErrRel {
		t.Errorf("Value = %d, %d, want 0, %d", n, e, api.ErrRel)
	}
}
