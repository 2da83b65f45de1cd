package linkmap_test

import (
	"fmt"
	"math"
	"math/bits"
	"runtime"
	"strings"
	"testing"

	"sindri/api"
	"sindri/linkmap"
	"sindri/object"
)

// P11.1

func TestNew(t *testing.T) {
	all := []object.Object{sized(16, 8), sized(4)}
	m := api.Map{
		Places: []api.Place{{Obj: 0, Sect: 2, Addr: 4096}, {Obj: 1, Sect: 1, Addr: 8192}, {Obj: 0, Sect: 1, Addr: 64}},
		Syms:   []api.Named{{Name: "printf", Addr: 0x401000}, {Name: "errno", Addr: 0}},
	}
	l := made(t, "three places", m, all, nil)
	wantOut(t, l, 0, 1, 64, true)
	wantOut(t, l, 0, 2, 4096, true)
	wantOut(t, l, 1, 1, 8192, true)
	wantImages(t, l, 64, 80, 4096, 4104, 8192, 8196)
	wantSym(t, l, "printf", 0x401000)
	wantSym(t, l, "errno", 0)
}

func TestNewOfNothing(t *testing.T) {
	all := []object.Object{sized(16)}
	for _, objects := range [][]object.Object{nil, {}, {{}}, all} {
		for _, left := range [][][]bool{nil, {}, {nil}, {{true, true}}} {
			wantNothing(t, made(t, "no place, no symbol", api.Map{}, objects, left))
			wantNothing(t, made(t, "no place, no symbol, but no nil", api.Map{Places: []api.Place{}, Syms: []api.Named{}}, objects, left))
		}
	}
}

// many is objects of 50 sections of memory each, with one byte each, and places
// for so many of them.
func many(n int) (api.Map, []object.Object) {
	var m api.Map
	var all []object.Object
	for i := range n {
		if i%50 == 0 {
			all = append(all, of())
		}
		o := &all[i/50]
		o.Sections = append(o.Sections, memory(1))
		m.Places = append(m.Places, api.Place{Obj: i / 50, Sect: i%50 + 1, Addr: uint64(i * 2)})
	}
	return m, all
}

// manySyms is so many symbols of unlike names.
func manySyms(n int) []api.Named {
	var l []api.Named
	for i := range n {
		l = append(l, api.Named{Name: fmt.Sprintf("s%d", i), Addr: uint64(i)})
	}
	return l
}

func TestNewOfMostPlaces(t *testing.T) {
	for _, n := range []int{199, 200} {
		m, all := many(n)
		l := made(t, fmt.Sprintf("%d places", n), m, all, nil)
		for i, p := range m.Places {
			wantOut(t, l, p.Obj, p.Sect, uint64(i*2), true)
			wantIn(t, l, uint64(i*2), p.Obj, p.Sect, 0)
			wantNowhere(t, l, uint64(i*2+1))
		}
		if got := len(l.Images()); got != n {
			t.Errorf("%d images of %d", got, n)
		}
	}
	for _, n := range []int{201, 202, 300} {
		m, all := many(n)
		wantRefused(t, fmt.Sprintf("%d places", n), m, all, nil, api.ErrMap)
		m.Places[1].Addr = 0 // a clash, too
		wantRefused(t, fmt.Sprintf("%d places, of which two clash", n), m, all, nil, api.ErrMap)
		// What lies behind the list's length is not handed in.
		m.Places[1].Addr = 2
		m.Places = m.Places[:200]
		made(t, "more behind the most", m, all, nil)
	}
	// Sections without bytes count as well.
	m, all := many(201)
	for _, o := range all {
		for i := range o.Sections {
			o.Sections[i].Data = nil
		}
	}
	wantRefused(t, "201 places without bytes", m, all, nil, api.ErrMap)
	m.Places = m.Places[:200]
	wantImages(t, made(t, "200 places without bytes", m, all, nil))
}

func TestNewOfMostSyms(t *testing.T) {
	for _, n := range []int{199, 200} {
		l := made(t, fmt.Sprintf("%d symbols", n), api.Map{Syms: manySyms(n)}, nil, nil)
		for i, s := range manySyms(n + 1) {
			want := uint64(i)
			if i == n {
				want = api.Tomb
			}
			wantSym(t, l, s.Name, want)
		}
	}
	for _, n := range []int{201, 202, 300} {
		wantRefused(t, fmt.Sprintf("%d symbols", n), api.Map{Syms: manySyms(n)}, nil, nil, api.ErrMap)
		made(t, "more behind the most", api.Map{Syms: manySyms(n)[:200]}, nil, nil)
	}
	m, all := many(200)
	m.Syms = manySyms(200)
	made(t, "the most of both", m, all, nil)
	m.Syms = manySyms(201)
	m.Places[1].Addr = 0
	wantRefused(t, "too many symbols, and two places that clash", m, all, nil, api.ErrMap)
}

func TestNewOfObjects(t *testing.T) {
	all := []object.Object{sized(4), sized(4), sized(4)}
	for obj := range all {
		l := made(t, fmt.Sprintf("Obj %d", obj), place(obj, 1, 4096), all, nil)
		for other := range all {
			if other == obj {
				wantOut(t, l, obj, 1, 4096, true)
			} else {
				wantOut(t, l, other, 1, 0, false)
			}
		}
	}
	for _, obj := range []int{math.MinInt, -1 << 32, -2, -1, 3, 4, 5, 6, 1 << 32, math.MaxInt} {
		wantRefused(t, fmt.Sprintf("Obj %d", obj), place(obj, 1, 4096), all, nil, api.ErrMap)
	}
	for _, obj := range []int{-1, 0, 1} {
		wantRefused(t, fmt.Sprintf("no objects, Obj %d", obj), place(obj, 1, 4096), nil, nil, api.ErrMap)
	}
	wantRefused(t, "an object behind the list's length", place(2, 1, 4096), all[:2], nil, api.ErrMap)
	// Of objects as many count as there are.
	made(t, "the last of eight", place(7, 1, 0), append(make([]object.Object, 7), sized(4)), nil)
}

func TestNewOfSections(t *testing.T) {
	all := []object.Object{of(), sized(4, 4, 4), sized(4, 4, 4, 4, 4)}
	for sect := 1; sect <= 3; sect++ {
		l := made(t, fmt.Sprintf("Sect %d", sect), place(1, sect, 4096), all, nil)
		for other := -1; other <= 6; other++ {
			if other == sect {
				wantOut(t, l, 1, sect, 4096, true)
			} else {
				wantOut(t, l, 1, other, 0, false)
			}
		}
	}
	for _, sect := range []int{math.MinInt, -1 << 32, -2, -1, 0, 4, 5, 6, 63, 64, 1 << 32, 1<<32 + 1, math.MaxInt} {
		wantRefused(t, fmt.Sprintf("Sect %d", sect), place(1, sect, 4096), all, nil, api.ErrMap)
	}
	for _, sect := range []int{-1, 0, 1} {
		wantRefused(t, fmt.Sprintf("no section, Sect %d", sect), place(0, sect, 4096), []object.Object{{}}, nil, api.ErrMap)
	}
	all[1].Sections = all[1].Sections[:3]
	made(t, "the last section of fewer", place(1, 2, 4096), all, nil)
	wantRefused(t, "a section behind the list's length", place(1, 3, 4096), all, nil, api.ErrMap)
}

func TestNewOfSectionsOfMemory(t *testing.T) {
	s := memory(4)
	for _, flags := range []uint64{2, 3, 6, 7, 2 | 1<<63, top} {
		s.Flags = flags
		for _, kind := range []int{-1, 0, 1, 2, 4, 8, 9, 14, 17, math.MaxInt} {
			s.Type = kind
			made(t, fmt.Sprintf("Flags %d, Type %d", flags, kind), place(0, 1, 4096), []object.Object{of(s)}, nil)
		}
	}
	for _, flags := range []uint64{0, 1, 4, 5, 8, 0x30, 1 << 33, top - 2} {
		s.Flags = flags
		for _, name := range []string{".text", ".debug_info", ""} {
			s.Name = name
			for _, kind := range []int{1, 8} {
				s.Type = kind
				wantRefused(t, fmt.Sprintf("Flags %d, %s", flags, name), place(0, 1, 4096), []object.Object{of(s)}, nil, api.ErrMap)
			}
		}
	}
	// The first section is one like others.
	made(t, "the first section", place(0, 0, 4096), []object.Object{{Sections: []api.Section{memory(4)}}}, nil)
}

// What a section says of itself, beside its bytes, is not its place.
func TestNewOfOtherNumbers(t *testing.T) {
	s := memory(4)
	s.Name, s.Addr, s.Link, s.Info, s.Align, s.Ent = strings.Repeat("n", 300), 77, -1, math.MinInt, 4096, math.MaxInt
	l := made(t, "other numbers", place(0, 1, 4097), []object.Object{of(s)}, nil)
	wantOut(t, l, 0, 1, 4097, true)
	wantImages(t, l, 4097, 4101)
	s.Data = make([]byte, 4, 100)
	wantImages(t, made(t, "room behind the bytes", place(0, 1, 4097), []object.Object{of(s)}, nil), 4097, 4101)
}

func TestNewOfSectionsLeftOut(t *testing.T) {
	all := []object.Object{sized(4, 4), sized(4, 4)}
	for _, left := range [][][]bool{
		nil, {}, {nil}, {{}}, {nil, nil}, {nil, {}}, {nil, {false}}, {nil, {true, true}}, {nil, {false, false, false}}, {nil, {true, true, false}},
		{{true, true, true}}, {{true, true, true}, {true, true}}, {{true, true, true}, nil, {true, true, true}},
		{nil, {true, true, false, true, true}}, {nil, nil, {true, true, true}, {true, true, true}},
	} {
		made(t, fmt.Sprintf("left %v", left), place(1, 2, 4096), all, left)
	}
	for _, left := range [][][]bool{
		{nil, {false, false, true}}, {nil, {true, true, true}}, {{false, false, false}, {false, false, true}}, {nil, {false, false, true, false}, nil}, {{}, {false, false, true}, {false}},
	} {
		wantRefused(t, fmt.Sprintf("left %v", left), place(1, 2, 4096), all, left, api.ErrMap)
		made(t, fmt.Sprintf("left %v, another object", left), place(0, 2, 4096), all, left)
	}
	// What lies behind a row's length, and the list's, is not handed in.
	row := []bool{false, false, true}
	made(t, "behind a row's length", place(1, 2, 4096), all, [][]bool{nil, row[:2]})
	made(t, "behind the list's length", place(1, 2, 4096), all, [][]bool{nil, row}[:1])
	wantRefused(t, "one without bytes", place(0, 1, 4096), []object.Object{sized(0)}, [][]bool{{false, true}}, api.ErrMap)
}

func TestNewOfOneSectionTwice(t *testing.T) {
	all := []object.Object{sized(4, 4), sized(4, 0)}
	two := func(a, b api.Place) api.Map {
		return api.Map{Places: []api.Place{a, {Obj: 1, Sect: 1, Addr: 512}, b}}
	}
	for _, addr := range []uint64{0, 4095, 4096, 4097, 4100, 1 << 40} {
		wantRefused(t, fmt.Sprintf("one section at 4096 and %d", addr), two(api.Place{Obj: 0, Sect: 1, Addr: 4096}, api.Place{Obj: 0, Sect: 1, Addr: addr}), all, nil, api.ErrMap)
		wantRefused(t, fmt.Sprintf("one without bytes at 4096 and %d", addr), two(api.Place{Obj: 1, Sect: 2, Addr: 4096}, api.Place{Obj: 1, Sect: 2, Addr: addr}), all, nil, api.ErrMap)
	}
	made(t, "two sections of one object", two(api.Place{Obj: 0, Sect: 1, Addr: 4096}, api.Place{Obj: 0, Sect: 2, Addr: 4100}), all, nil)
	made(t, "one place in two objects", two(api.Place{Obj: 0, Sect: 1, Addr: 4096}, api.Place{Obj: 0, Sect: 2, Addr: 64}), all, nil)
	wantRefused(t, "the first place again", api.Map{Places: []api.Place{{Obj: 0, Sect: 1, Addr: 4096}, {Obj: 0, Sect: 1, Addr: 8192}}}, all, nil, api.ErrMap)
}

func TestNewOfAddresses(t *testing.T) {
	for _, size := range []int{0, 1, 2, 16, 4096} {
		all := []object.Object{sized(size)}
		n := uint64(size)
		for _, addr := range []uint64{0, 1, 1 << 31, 1 << 32, 1<<63 - 1, 1 << 63, top - 2 - n, top - 1 - n} {
			l := made(t, fmt.Sprintf("%d bytes at %d", size, addr), place(0, 1, addr), all, nil)
			wantOut(t, l, 0, 1, addr, true)
			if size > 0 {
				wantImages(t, l, addr, addr+n)
			} else {
				wantImages(t, l)
			}
		}
		for _, addr := range []uint64{top - n, top - n + 1, top - n/2, top - 1, top} {
			if addr >= top-n { // of few bytes not all of these are
				wantRefused(t, fmt.Sprintf("%d bytes at %d", size, addr), place(0, 1, addr), all, nil, api.ErrMap)
			}
		}
	}
}

func TestNewOfSectionsWithoutBytes(t *testing.T) {
	for _, addr := range []uint64{0, 4095, 4096, 4097, 4103, 4104, 4105, 1 << 40, top - 1} {
		for _, m := range []api.Map{rowed(4096, addr), {Places: []api.Place{{Sect: 2, Addr: addr}, {Sect: 1, Addr: 4096}}}} {
			l := made(t, fmt.Sprintf("no bytes at %d", addr), m, []object.Object{sized(8, 0)}, nil)
			wantOut(t, l, 0, 2, addr, true)
			wantImages(t, l, 4096, 4104)
			wantNowhere(t, l, 4095, 4104)
			for off := range uint64(8) {
				wantIn(t, l, 4096+off, 0, 1, off)
			}
		}
	}
	l := made(t, "many at one address", rowed(64, 64, 64, 64), []object.Object{sized(0, 0, 4, 0)}, nil)
	for sect := 1; sect <= 4; sect++ {
		wantOut(t, l, 0, sect, 64, true)
	}
	wantImages(t, l, 64, 68)
	l = made(t, "within another one, among two", rowed(64, 68, 66, 68), []object.Object{sized(4, 4, 0, 0)}, nil)
	wantImages(t, l, 64, 68, 68, 72)
	wantRefused(t, "within two that clash", rowed(64, 66, 66), []object.Object{sized(4, 0, 4)}, nil, api.ErrClash)
}

func TestNewOfSyms(t *testing.T) {
	long := strings.Repeat("x", 200)
	l := made(t, "symbols", named("f", "g", "F", "f ", "f\n", "\xff", "ff", long, long[:199]), nil, nil)
	for i, name := range []string{"f", "g", "F", "f ", "f\n", "\xff", "ff", long, long[:199]} {
		wantSym(t, l, name, uint64(i+1))
	}
	for _, name := range []string{"", "\x00", "f\x00", "\x00f", "a\x00b", long + "x", long + "\x00", strings.Repeat("é", 101), strings.Repeat("x", 70000)} {
		for _, m := range []api.Map{named(name), named(name, "g"), named("g", "h", name), named("g", name, "h")} {
			wantRefused(t, fmt.Sprintf("the name %.20q of %d", name, len(m.Syms)), m, nil, nil, api.ErrMap)
		}
	}
	for _, names := range [][]string{{"f", "f"}, {"f", "g", "f"}, {"g", "f", "f"}, {"f", "f", "f"}, {long, "g", long}} {
		wantRefused(t, fmt.Sprintf("names %.20q", names), named(names...), nil, nil, api.ErrMap)
		m := named(names...)
		for i := range m.Syms {
			m.Syms[i].Addr = 7
		}
		wantRefused(t, fmt.Sprintf("names %.20q at one address", names), m, nil, nil, api.ErrMap)
	}
}

// Symbols may be at any address, also where an image is, or another symbol.
func TestNewOfSymsAddresses(t *testing.T) {
	for _, addr := range []uint64{0, 1, 4096, 4100, 1 << 63, top - 1, top} {
		m := place(0, 1, 4096)
		m.Syms = []api.Named{{Name: "f", Addr: addr}, {Name: "g", Addr: addr}, {Name: ".text", Addr: addr}}
		l := made(t, fmt.Sprintf("symbols at %d", addr), m, []object.Object{sized(8)}, nil)
		for _, s := range m.Syms {
			wantSym(t, l, s.Name, addr)
		}
		wantImages(t, l, 4096, 4104)
	}
}

// A name that an object's symbol has is not looked at.
func TestNewOfSymsOfObjects(t *testing.T) {
	o := sized(8)
	o.Syms = []api.Symbol{{}, {Name: "f", Sect: 1, Value: 4}, {Name: "g"}}
	l := made(t, "names of an object's symbols", named("f", "g"), []object.Object{o}, nil)
	wantSym(t, l, "f", 1)
	wantSym(t, l, "g", 2)
}

func TestNewOfClashes(t *testing.T) {
	for _, x := range []struct {
		sizes []int
		addrs []uint64
		want  api.Errno
	}{
		{[]int{8, 8}, []uint64{4096, 4104}, api.OK}, // they touch
		{[]int{8, 8}, []uint64{4096, 4103}, api.ErrClash},
		{[]int{8, 8}, []uint64{4096, 4097}, api.ErrClash},
		{[]int{8, 8}, []uint64{4096, 4096}, api.ErrClash},
		{[]int{8, 8}, []uint64{4096, 4105}, api.OK},
		{[]int{8, 1}, []uint64{4096, 4096}, api.ErrClash},
		{[]int{8, 1}, []uint64{4096, 4100}, api.ErrClash}, // one within the other
		{[]int{8, 1}, []uint64{4096, 4103}, api.ErrClash},
		{[]int{8, 1}, []uint64{4096, 4104}, api.OK},
		{[]int{8, 1}, []uint64{4096, 4095}, api.OK},
		{[]int{1, 1}, []uint64{0, 1}, api.OK},
		{[]int{1, 1}, []uint64{0, 0}, api.ErrClash},
		{[]int{1, 1}, []uint64{top - 2, top - 3}, api.OK},
		{[]int{1, 2}, []uint64{top - 2, top - 3}, api.ErrClash},
		{[]int{8, 8, 8}, []uint64{0, 16, 8}, api.OK},
		{[]int{8, 8, 8}, []uint64{0, 17, 10}, api.ErrClash},
		{[]int{100, 1, 1}, []uint64{0, 10, 50}, api.ErrClash},
		{[]int{100, 1, 1}, []uint64{0, 100, 99}, api.ErrClash}, // not of neighbours in the map
		{[]int{4, 4, 4, 4}, []uint64{40, 8, 24, 36}, api.OK},
		{[]int{4, 4, 4, 4}, []uint64{40, 8, 24, 37}, api.ErrClash},
		{[]int{4, 4}, []uint64{1 << 63, 1<<63 - 4}, api.OK},
		{[]int{4, 5}, []uint64{1 << 63, 1<<63 - 4}, api.ErrClash},
	} {
		for _, m := range orders(rowed(x.addrs...)) {
			what := fmt.Sprintf("%v bytes at %v, places %v", x.sizes, x.addrs, m.Places)
			if x.want == api.OK {
				made(t, what, m, []object.Object{sized(x.sizes...)}, nil)
			} else {
				wantRefused(t, what, m, []object.Object{sized(x.sizes...)}, nil, x.want)
			}
		}
	}
	// Of two objects just as of one.
	m := api.Map{Places: []api.Place{{Obj: 0, Sect: 1, Addr: 64}, {Obj: 1, Sect: 1, Addr: 67}}}
	wantRefused(t, "two objects", m, []object.Object{sized(4), sized(4)}, nil, api.ErrClash)
	m.Places[1].Addr = 68
	wantImages(t, made(t, "two objects", m, []object.Object{sized(4), sized(4)}, nil), 64, 68, 68, 72)
}

// orders is a map with its places in all orders.
func orders(m api.Map) []api.Map {
	var l []api.Map
	var put func(done, rest []api.Place)
	put = func(done, rest []api.Place) {
		if len(rest) == 0 {
			l = append(l, api.Map{Places: append([]api.Place(nil), done...), Syms: m.Syms})
		}
		for i := range rest {
			other := append(append([]api.Place(nil), rest[:i]...), rest[i+1:]...)
			put(append(append([]api.Place(nil), done...), rest[i]), other)
		}
	}
	put(nil, m.Places)
	return l
}

// A clash is told where nothing else is wrong.
func TestNewTellsErrMapFirst(t *testing.T) {
	all := []object.Object{sized(8, 8, 8)}
	clashing := rowed(64, 64)
	wantRefused(t, "a clash alone", clashing, all, nil, api.ErrClash)
	clashing.Syms = named("f", "g").Syms
	wantRefused(t, "a clash with symbols", clashing, all, nil, api.ErrClash)
	wrong := func(what string, m api.Map, left [][]bool) {
		t.Helper()
		wantRefused(t, what, m, all, left, api.ErrMap)
	}
	with := func(p api.Place) api.Map {
		return api.Map{Places: append(append([]api.Place{}, clashing.Places...), p), Syms: clashing.Syms}
	}
	wrong("a clash, and an Obj behind it", with(api.Place{Obj: 1, Sect: 1}), nil)
	wrong("a clash, and a Sect behind it", with(api.Place{Sect: 4}), nil)
	wrong("a clash, and a section not of memory", with(api.Place{Sect: 0}), nil)
	wrong("a clash, and a section left out", with(api.Place{Sect: 3}), [][]bool{{false, false, false, true}})
	wrong("a clash of one that is left out", clashing, [][]bool{{false, false, true}})
	wrong("a clash, and a section again", with(api.Place{Sect: 1, Addr: 4096}), nil)
	wrong("a clash, and an address that may not be", with(api.Place{Sect: 3, Addr: top - 8}), nil)
	for _, names := range [][]string{{""}, {"f", "f"}, {"f", "a\x00"}, {strings.Repeat("x", 201)}} {
		clashing.Syms = named(names...).Syms
		wrong(fmt.Sprintf("a clash, and names %.20q", names), clashing, nil)
	}
}

func TestNewKeepsNothingHandedIn(t *testing.T) {
	g := given{
		m:    api.Map{Places: []api.Place{{Sect: 1, Addr: 4096}, {Sect: 2, Addr: 64}}, Syms: []api.Named{{Name: "f", Addr: 7}}},
		all:  []object.Object{sized(8, 4)},
		left: [][]bool{{false, false, false}},
	}
	l := made(t, "a map", g.m, g.all, g.left)
	g.m.Places[0], g.m.Places[1], g.m.Syms[0] = api.Place{Obj: 5, Sect: 9, Addr: 1}, api.Place{}, api.Named{Name: "g"}
	g.left[0][1], g.left[0][2], g.left[0] = true, true, nil
	s := g.all[0].Sections
	s[1].Data, s[2].Data, s[2].Flags = nil, make([]byte, 99), 0
	g.all[0] = object.Object{}
	wantOut(t, l, 0, 1, 4096, true)
	wantOut(t, l, 0, 2, 64, true)
	wantOut(t, l, 5, 9, 0, false)
	wantImages(t, l, 64, 68, 4096, 4104)
	wantIn(t, l, 4103, 0, 1, 7)
	wantSym(t, l, "f", 7)
	wantSym(t, l, "g", api.Tomb)
}

// Neither a section's bytes are kept, nor a text that a name is a part of.
func TestNewKeepsNoMoreThanItNeeds(t *testing.T) {
	const rounds, size = 40, 1 << 20
	var maps []*linkmap.Linked
	held := heap()
	for i := range rounds {
		great := strings.Repeat(fmt.Sprint(i%10), size)
		m := place(0, 1, 4096)
		m.Syms = named(great[:20]).Syms
		maps = append(maps, made(t, "a great one", m, []object.Object{sized(size)}, nil))
	}
	if grown := heap() - held; grown > rounds*size/4 {
		t.Errorf("%d maps keep %d bytes", len(maps), grown)
	}
	runtime.KeepAlive(maps)
}

// heap tells how many bytes are in use.
func heap() int64 {
	var m runtime.MemStats
	runtime.GC()
	runtime.ReadMemStats(&m)
	return int64(m.HeapAlloc)
}

// Maps that are made are not one another's.
func TestNewOfSeveral(t *testing.T) {
	all := []object.Object{sized(4)}
	a := place(0, 1, 64)
	a.Syms = named("f").Syms
	first := made(t, "the first", a, all, nil)
	second := made(t, "the second", place(0, 1, 128), all, nil)
	wantRefused(t, "one that is refused", place(0, 1, top), all, nil, api.ErrMap)
	wantOut(t, first, 0, 1, 64, true)
	wantOut(t, second, 0, 1, 128, true)
	wantImages(t, first, 64, 68)
	wantImages(t, second, 128, 132)
	wantSym(t, first, "f", 1)
	wantSym(t, second, "f", api.Tomb)
}

// refusal is what New refuses a map with, by the chapter's words.
func refusal(g given) api.Errno {
	if len(g.m.Places) > 200 || len(g.m.Syms) > 200 {
		return api.ErrMap
	}
	for i, p := range g.m.Places {
		if p.Obj < 0 || p.Obj >= len(g.all) || p.Sect < 0 || p.Sect >= len(g.all[p.Obj].Sections) {
			return api.ErrMap
		}
		s := g.all[p.Obj].Sections[p.Sect]
		sum, over := bits.Add64(p.Addr, uint64(len(s.Data)), 0)
		if s.Flags&2 == 0 || over != 0 || sum == top {
			return api.ErrMap
		}
		if p.Obj < len(g.left) && p.Sect < len(g.left[p.Obj]) && g.left[p.Obj][p.Sect] {
			return api.ErrMap
		}
		for _, ahead := range g.m.Places[:i] {
			if ahead.Obj == p.Obj && ahead.Sect == p.Sect {
				return api.ErrMap
			}
		}
	}
	for i, n := range g.m.Syms {
		if n.Name == "" || len(n.Name) > 200 || strings.Contains(n.Name, "\x00") {
			return api.ErrMap
		}
		for _, ahead := range g.m.Syms[:i] {
			if ahead.Name == n.Name {
				return api.ErrMap
			}
		}
	}
	for i, p := range g.m.Places {
		for _, q := range g.m.Places[:i] {
			if max(p.Addr, q.Addr) < min(p.Addr+g.size(p), q.Addr+g.size(q)) {
				return api.ErrClash
			}
		}
	}
	return api.OK
}

// size is how many bytes the section of a place has.
func (g given) size(p api.Place) uint64 { return uint64(len(g.all[p.Obj].Sections[p.Sect].Data)) }
