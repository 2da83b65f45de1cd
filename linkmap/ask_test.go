package linkmap_test

import (
	"fmt"
	"math"
	"math/rand"
	"reflect"
	"sort"
	"strings"
	"testing"

	"sindri/api"
	"sindri/linkmap"
	"sindri/object"
)

// three is a map of three images, of which two touch, and of a section without
// bytes: 64 to 79 (section 2 of object 0), 4096 to 4103 (1 of 0), 4104 to 4107
// (1 of 1).
func three(t *testing.T) *linkmap.Linked {
	t.Helper()
	m := api.Map{
		Places: []api.Place{{Obj: 0, Sect: 1, Addr: 4096}, {Obj: 1, Sect: 2, Addr: 300}, {Obj: 1, Sect: 1, Addr: 4104}, {Obj: 0, Sect: 2, Addr: 64}},
		Syms:   []api.Named{{Name: "f", Addr: 9}, {Name: "zero", Addr: 0}, {Name: "tomb", Addr: api.Tomb}},
	}
	return made(t, "three images", m, []object.Object{sized(8, 16, 4), sized(4, 0)}, nil)
}

// edges is a map of an image at each end of the addresses.
func edges(t *testing.T) *linkmap.Linked {
	t.Helper()
	return made(t, "images at the ends", rowed(0, top-9), []object.Object{sized(4, 8)}, nil)
}

// P11.2

func TestOut(t *testing.T) {
	l := three(t)
	wantOut(t, l, 0, 1, 4096, true)
	wantOut(t, l, 0, 2, 64, true)
	wantOut(t, l, 1, 1, 4104, true)
	wantOut(t, l, 1, 2, 300, true)
	for _, p := range [][2]int{{0, 0}, {0, 3}, {0, 4}, {1, 0}, {1, 3}, {2, 0}, {2, 1}, {2, 2}, {5, 1}} {
		wantOut(t, l, p[0], p[1], 0, false)
	}
	for _, n := range []int{math.MinInt, -1 << 32, -2, -1, 1 << 31, 1 << 32, 1<<32 + 1, math.MaxInt} {
		wantOut(t, l, n, 1, 0, false)
		wantOut(t, l, 0, n, 0, false)
		wantOut(t, l, n, n, 0, false)
	}
	wantOut(t, edges(t), 0, 1, 0, true) // an address 0 is one
	wantOut(t, edges(t), 0, 2, top-9, true)
}

func TestIn(t *testing.T) {
	l := three(t)
	for off := range uint64(16) {
		wantIn(t, l, 64+off, 0, 2, off)
	}
	for off := range uint64(8) {
		wantIn(t, l, 4096+off, 0, 1, off)
	}
	for off := range uint64(4) {
		wantIn(t, l, 4104+off, 1, 1, off)
	}
	wantNowhere(t, l, 0, 1, 62, 63, 80, 81, 299, 300, 301, 4094, 4095, 4108, 4109, 1<<32+64, 1<<63+64, top-1, top)
}

func TestInAtTheEnds(t *testing.T) {
	l := edges(t)
	for off := range uint64(4) {
		wantIn(t, l, off, 0, 1, off)
	}
	for off := range uint64(8) {
		wantIn(t, l, top-9+off, 0, 2, off)
	}
	wantNowhere(t, l, 4, 5, 1<<63, top-10, top-1, top)
}

func TestInOfOneByte(t *testing.T) {
	l := made(t, "one byte", place(0, 1, 77), []object.Object{sized(1)}, nil)
	wantIn(t, l, 77, 0, 1, 0)
	wantNowhere(t, l, 0, 76, 78, top)
}

func TestWhole(t *testing.T) {
	l := three(t)
	for _, x := range []struct {
		lo, hi uint64
		want   bool
	}{
		{64, 80, true}, {64, 79, true}, {65, 80, true}, {64, 65, true}, {79, 80, true}, {70, 71, true},
		{63, 80, false}, {63, 64, false}, {64, 81, false}, {79, 81, false}, {80, 81, false}, {63, 81, false}, {62, 63, false},
		{4096, 4104, true}, {4104, 4108, true}, {4103, 4104, true}, {4104, 4105, true},
		{4096, 4108, false}, {4096, 4105, false}, {4103, 4105, false}, {4100, 4106, false}, // over two that touch
		{64, 4104, false}, {64, 4097, false}, {79, 4108, false}, // over two that do not
		{64, 64, false}, {70, 70, false}, {79, 79, false}, {80, 80, false}, {4104, 4104, false}, {300, 300, false}, {0, 0, false}, {top, top, false}, // without an address
		{65, 64, false}, {80, 64, false}, {79, 70, false}, {70, 0, false}, {4100, 70, false}, {top, 0, false}, // Lo above Hi
		{0, 1, false}, {0, top, false}, {64, top, false}, {4100, top, false}, {300, 301, false}, {top - 1, top, false}, {0, 64, false}, {80, 4096, false},
	} {
		wantWhole(t, l, x.lo, x.hi, x.want)
	}
}

func TestWholeAtTheEnds(t *testing.T) {
	l := edges(t)
	wantWhole(t, l, 0, 4, true)
	wantWhole(t, l, 0, 1, true)
	wantWhole(t, l, 0, 5, false)
	wantWhole(t, l, 0, 0, false)
	wantWhole(t, l, 3, 2, false)
	wantWhole(t, l, top-9, top-1, true)
	wantWhole(t, l, top-2, top-1, true)
	wantWhole(t, l, top-9, top, false)
	wantWhole(t, l, top-10, top-1, false)
	wantWhole(t, l, top-1, top, false)
	wantWhole(t, l, 0, top-1, false)
	wantWhole(t, l, 0, top, false)
	wantWhole(t, l, top-2, 1, false)
}

// P11.3

func TestSym(t *testing.T) {
	l := three(t)
	wantSym(t, l, "f", 9)
	wantSym(t, l, "zero", 0)
	wantSym(t, l, "tomb", api.Tomb)
	for _, name := range []string{"", "g", "F", "f ", " f", "ff", "f\x00", "\x00", "zer", "zeros", ".text", strings.Repeat("x", 200), strings.Repeat("x", 70000)} {
		wantSym(t, l, name, api.Tomb)
	}
}

func TestImages(t *testing.T) {
	wantImages(t, three(t), 64, 80, 4096, 4104, 4104, 4108)
	wantImages(t, edges(t), 0, 4, top-9, top-1)
	all := []object.Object{sized(1, 2, 3, 0)}
	for _, m := range orders(rowed(4096, 64, 512, 100)) {
		wantImages(t, made(t, "places in some order", m, all, nil), 64, 66, 512, 515, 4096, 4097)
	}
	wantImages(t, made(t, "no image with an address", rowed(0, 1, 77), []object.Object{sized(0, 0, 0)}, nil))
}

func TestImagesAreNewMemory(t *testing.T) {
	l := three(t)
	first, second := l.Images(), l.Images()
	for i := range first[:cap(first)] {
		first[:cap(first)][i] = api.Range{Lo: 1, Hi: 2}
	}
	if want := []api.Range{{Lo: 64, Hi: 80}, {Lo: 4096, Hi: 4104}, {Lo: 4104, Hi: 4108}}; !reflect.DeepEqual(second, want) {
		t.Errorf("the images handed out beside these are now %v", second)
	}
	wantImages(t, l, 64, 80, 4096, 4104, 4104, 4108)
	wantIn(t, l, 64, 0, 2, 0)
	wantNowhere(t, l, 1)
}

func TestNobody(t *testing.T) {
	var none *linkmap.Linked
	var zero linkmap.Linked
	for _, l := range []*linkmap.Linked{none, &zero, new(linkmap.Linked)} {
		wantNothing(t, l)
		wantNothing(t, l)
	}
}

// Asking changes nothing.
func TestAskedAgain(t *testing.T) {
	l := three(t)
	for range 3 {
		wantOut(t, l, 9, 9, 0, false)
		wantOut(t, l, 0, 1, 4096, true)
		wantSym(t, l, "g", api.Tomb)
		wantSym(t, l, "f", 9)
		wantNowhere(t, l, 80)
		wantIn(t, l, 79, 0, 2, 15)
		wantImages(t, l, 64, 80, 4096, 4104, 4104, 4108)
	}
}

// P11.5

// chance makes what New is handed: sometimes something that is refused.
func chance(r *rand.Rand) given {
	var g given
	for range 1 + r.Intn(3) {
		o := of()
		for range r.Intn(4) {
			o.Sections = append(o.Sections, memory([]int{0, 1, 2, 5, 9}[r.Intn(5)]))
		}
		if r.Intn(8) == 0 {
			o.Sections[len(o.Sections)-1].Flags = uint64(r.Intn(8))
		}
		g.all = append(g.all, o)
	}
	base := []uint64{0, 4096, 1 << 63, top - 90}[r.Intn(4)]
	for i, o := range g.all {
		row := make([]bool, r.Intn(5))
		for j := range o.Sections {
			if j > 0 && r.Intn(4) > 0 {
				g.m.Places = append(g.m.Places, api.Place{Obj: i, Sect: j, Addr: base + uint64(r.Intn(88))})
			}
		}
		if len(row) > 0 && r.Intn(8) == 0 {
			row[r.Intn(len(row))] = true
		}
		g.left = append(g.left, row)
	}
	if len(g.m.Places) > 0 && r.Intn(8) == 0 {
		p := g.m.Places[r.Intn(len(g.m.Places))]
		p.Addr = base + uint64(r.Intn(100)) // it may be beyond 2 to the 64
		g.m.Places = append(g.m.Places, p)
		if r.Intn(2) == 0 {
			g.m.Places = g.m.Places[1:]
		}
	}
	r.Shuffle(len(g.m.Places), func(i, j int) { g.m.Places[i], g.m.Places[j] = g.m.Places[j], g.m.Places[i] })
	for i := range r.Intn(4) {
		g.m.Syms = append(g.m.Syms, api.Named{Name: fmt.Sprintf("s%d", r.Intn(9)+i*r.Intn(9)), Addr: r.Uint64()})
	}
	return g
}

func TestMapsByChance(t *testing.T) {
	r := rand.New(rand.NewSource(11))
	met := map[api.Errno]int{}
	for range 20000 {
		g := chance(r)
		e := refusal(g)
		met[e]++
		if e != api.OK {
			wantRefused(t, show(g), g.m, g.all, g.left, e)
		} else {
			wantAsked(t, g, made(t, show(g), g.m, g.all, g.left))
		}
		if t.Failed() {
			t.Fatalf("of %s", show(g))
		}
	}
	for _, e := range []api.Errno{api.OK, api.ErrMap, api.ErrClash} {
		if met[e] < 1000 {
			t.Errorf("%d was told just %d times", e, met[e])
		}
	}
}

// wantAsked looks at all that a map tells, by the chapter's words.
func wantAsked(t *testing.T, g given, l *linkmap.Linked) {
	t.Helper()
	var ends []uint64
	var addrs []uint64
	for i, o := range g.all {
		for j := range o.Sections {
			addr, ok := g.at(i, j)
			wantOut(t, l, i, j, addr, ok)
		}
	}
	for _, p := range g.m.Places {
		size := g.size(p)
		addrs = append(addrs, p.Addr-1, p.Addr, p.Addr+size, p.Addr+size+1)
		for off := range size {
			addrs = append(addrs, p.Addr+off)
			wantIn(t, l, p.Addr+off, p.Obj, p.Sect, off)
		}
		if size > 0 {
			ends = append(ends, p.Addr, p.Addr+size)
		}
	}
	sort.Slice(ends, func(i, j int) bool { return ends[i] < ends[j] })
	wantImages(t, l, ends...)
	for _, addr := range addrs {
		p, ok := g.over(addr)
		if !ok {
			wantNowhere(t, l, addr)
		}
		for _, hi := range addrs {
			wantWhole(t, l, addr, hi, ok && addr < hi && hi <= p.Addr+g.size(p))
		}
	}
	for _, n := range g.m.Syms {
		wantSym(t, l, n.Name, n.Addr)
	}
	wantSym(t, l, "s", api.Tomb)
}

// at is where a section is placed.
func (g given) at(obj, sect int) (uint64, bool) {
	for _, p := range g.m.Places {
		if p.Obj == obj && p.Sect == sect {
			return p.Addr, true
		}
	}
	return 0, false
}

// over is the place of which the image has an address.
func (g given) over(addr uint64) (api.Place, bool) {
	for _, p := range g.m.Places {
		if p.Addr <= addr && addr-p.Addr < g.size(p) {
			return p, true
		}
	}
	return api.Place{}, false
}

// Images rise, and no two touch the same address, of the most places, too.
func TestMostImages(t *testing.T) {
	r := rand.New(rand.NewSource(3))
	for range 30 {
		m, all := many(200)
		for i := range m.Places {
			m.Places[i].Addr = uint64(i)
		}
		r.Shuffle(200, func(i, j int) { m.Places[i], m.Places[j] = m.Places[j], m.Places[i] })
		l := made(t, "the most", m, all, nil)
		var ends []uint64
		for i := range uint64(200) {
			ends = append(ends, i, i+1)
		}
		wantImages(t, l, ends...)
		for _, p := range m.Places {
			wantIn(t, l, p.Addr, p.Obj, p.Sect, 0)
			wantWhole(t, l, p.Addr, p.Addr+1, true)
			wantWhole(t, l, p.Addr, p.Addr+2, false)
		}
		wantNowhere(t, l, 200, top)
		m.Places[r.Intn(200)].Addr = m.Places[0].Addr + 1
		m.Places[0].Addr = m.Places[1].Addr
		wantRefused(t, "the most, of which two clash", m, all, nil, api.ErrClash)
	}
}
