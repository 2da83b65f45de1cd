package reloc_test

import (
	"bytes"
	"fmt"
	"math/big"
	"math/rand"
	"reflect"
	"testing"

	"sindri/api"
	"sindri/linkmap"
	"sindri/object"
	"sindri/reloc"
)

// modulo is a sum of whole numbers, modulo 2 to the 64.
func modulo(l ...*big.Int) uint64 {
	n := new(big.Int)
	for _, v := range l {
		n.Add(n, v)
	}
	return n.Mod(n, new(big.Int).Lsh(big.NewInt(1), 64)).Uint64()
}

// whole is a number without its type's range.
func whole(n uint64) *big.Int { return new(big.Int).SetUint64(n) }

// asked is what a relocation makes, by the chapter's words, of a map's lists.
func asked(o object.Object, obj int, r api.Rela, m api.Map) (uint64, api.Errno) {
	if r.Sym < 0 || r.Sym >= len(o.Syms) {
		return 0, api.ErrRel
	}
	s, add := o.Syms[r.Sym], big.NewInt(r.Add)
	if s.Sect >= 65522 || s.Sect < 65521 && (s.Sect < 0 || s.Sect >= len(o.Sections)) {
		return 0, api.ErrRel
	}
	if s.Sect == 65521 {
		return modulo(whole(s.Value), add), api.OK
	}
	if s.Sect == 0 {
		if s.Name == "" {
			return modulo(add), api.OK
		}
		for _, n := range m.Syms {
			if n.Name == s.Name && n.Addr != api.Tomb {
				return modulo(whole(n.Addr), add), api.OK
			}
		}
		return api.Tomb, api.OK
	}
	if o.Sections[s.Sect].Flags/2%2 == 0 {
		return modulo(whole(s.Value), add), api.OK
	}
	for _, p := range m.Places {
		if p.Obj == obj && p.Sect == s.Sect {
			return modulo(whole(p.Addr), whole(s.Value), add), api.OK
		}
	}
	return api.Tomb, api.OK
}

// applied is a section with its relocations applied, by the chapter's words.
func applied(o object.Object, obj, sect int, m api.Map) ([]byte, api.Errno) {
	if sect < 0 || sect >= len(o.Sections) {
		return nil, api.ErrSect
	}
	b := append([]byte(nil), o.Sections[sect].Data...)
	if sect >= len(o.Relas) {
		return b, api.OK
	}
	for _, r := range o.Relas[sect] {
		size := sizes()[pair{o.Machine, r.Type}]
		end := new(big.Int).Add(whole(r.Off), big.NewInt(int64(size)))
		if size == 0 || end.Cmp(big.NewInt(int64(len(b)))) > 0 {
			return nil, api.ErrRel
		}
		v, e := asked(o, obj, r, m)
		if e != api.OK {
			return nil, e
		}
		if size == 4 && v >= 1<<32 && v != api.Tomb {
			return nil, api.ErrRel
		}
		for range size {
			b[r.Off], r.Off, v = byte(v%256), r.Off+1, v/256
		}
	}
	return b, api.OK
}

// pick is one of some.
func pick[T any](r *rand.Rand, l ...T) T { return l[r.Intn(len(l))] }

// chance is a map and two objects, of which all numbers are near edges.
func chance(r *rand.Rand) (api.Map, []object.Object) {
	names := []string{"", "a", "b", "c", "d"}
	all := make([]object.Object, 2)
	var m api.Map
	addr := uint64(4096)
	for i := range all {
		o := object.Object{Machine: pick(r, 62, 62, 183, 183, 0), Sections: []api.Section{{}}}
		for range 1 + r.Intn(5) {
			s := api.Section{Flags: pick(r, uint64(0), 2, 2, 4, 6, 1), Data: numbered(r.Intn(40))}
			if s.Flags&2 != 0 && r.Intn(3) > 0 {
				m.Places = append(m.Places, api.Place{Obj: i, Sect: len(o.Sections), Addr: addr})
				addr += uint64(len(s.Data)) + pick(r, uint64(0), 1, 1<<31, 1<<40)
			}
			o.Sections = append(o.Sections, s)
		}
		for range r.Intn(12) {
			o.Syms = append(o.Syms, api.Symbol{
				Name:  pick(r, names...),
				Sect:  pick(r, 0, 0, 0, 1, 2, 3, 4, 5, r.Intn(6), plain, plain, plain-1, plain+1, 65535, -1),
				Value: pick(r, uint64(0), 8, 1<<32-1, 1<<32, 1<<64-4096, top, r.Uint64()),
			})
		}
		for sect := range r.Intn(len(o.Sections) + 1) {
			var row []api.Rela
			for range r.Intn(4) {
				row = append(row, chanceRela(r, o, sect))
			}
			o.Relas = append(o.Relas, row)
		}
		all[i] = o
	}
	for _, n := range names[1 : 1+r.Intn(4)] {
		m.Syms = append(m.Syms, api.Named{Name: n, Addr: pick(r, uint64(0), 77, 1<<32, top-1, top)})
	}
	return m, all
}

// chanceRela is a relocation of a section, that mostly may be.
func chanceRela(r *rand.Rand, o object.Object, sect int) api.Rela {
	size := len(o.Sections[sect].Data)
	return api.Rela{
		Off:  pick(r, uint64(r.Intn(size+1)), uint64(r.Intn(size+1)), uint64(r.Intn(size+1)), 0, uint64(max(size-4, 0)), uint64(max(size-8, 0)), top-uint64(r.Intn(9))),
		Sym:  pick(r, r.Intn(len(o.Syms)+1), r.Intn(len(o.Syms)+1), r.Intn(len(o.Syms)+1), r.Intn(14)-1),
		Type: pick(r, 1, 10, 11, 257, 258, 1, 10, 11, 257, 258, 1, 10, 257, 258, 2, 0),
		Add:  pick(r, int64(0), 0, 0, 1, -1, -8, 4, -4096, 1<<32-1, 1<<32, most, least),
	}
}

// Of objects and maps of all kinds each answer is that of the chapter's words.
func TestByTheWords(t *testing.T) {
	r := rand.New(rand.NewSource(12))
	told := map[api.Errno]int{}
	for range 5000 {
		m, all := chance(r)
		l, e := linkmap.New(m, all, nil)
		if e != api.OK {
			t.Fatalf("linkmap.New: %d", e)
		}
		for i, o := range all {
			o = roomy(o)
			for sect := -1; sect <= len(o.Sections); sect++ {
				want, e := applied(o, i, sect, m)
				told[e]++
				if e != api.OK {
					wantRefused(t, "by the words", o, i, sect, l, e)
				} else {
					wantBytes(t, "by the words", o, i, sect, l, want)
				}
			}
			for range 8 {
				rela := chanceRela(r, o, 0)
				want, e := asked(o, i, rela, m)
				if e != api.OK {
					wantNoValue(t, "by the words", o, i, rela, l)
				} else {
					wantValue(t, "by the words", o, i, rela, l, want)
				}
			}
		}
		if t.Failed() {
			t.Fatalf("of %+v and %+v", m, all)
		}
	}
	if told[api.OK] < 5000 || told[api.ErrRel] < 5000 || told[api.ErrSect] < 5000 {
		t.Errorf("told so often: %v", told)
	}
}

// P12.4

func TestUncoveredBytesStay(t *testing.T) {
	l := starterLink(t)
	r := rand.New(rand.NewSource(4))
	for range 3000 {
		b := make([]byte, 8+r.Intn(60))
		r.Read(b)
		covered := make([]bool, len(b))
		var list []api.Rela
		for range r.Intn(5) {
			kind := pick(r, 1, 10, 11)
			size := reloc.Size(api.X86, kind)
			at := r.Intn(len(b) - size + 1)
			list = append(list, api.Rela{Off: uint64(at), Sym: pick(r, first, inMain, lost, part, known, gone), Type: kind, Add: 5})
			for i := range size {
				covered[at+i] = true
			}
		}
		got, e := reloc.Apply(related(b, list...), 0, info, l)
		if len(got) != len(b) || e != api.OK {
			t.Fatalf("Apply = %s, %d", show(got), e)
		}
		for i := range b {
			if !covered[i] && got[i] != b[i] {
				t.Fatalf("byte %d of % x became %d by %v", i, b, got[i], list)
			}
		}
	}
}

// orders are all orders of some relocations.
func orders(l []api.Rela) [][]api.Rela {
	if len(l) == 0 {
		return [][]api.Rela{nil}
	}
	var all [][]api.Rela
	for i := range l {
		rest := append(append([]api.Rela(nil), l[:i]...), l[i+1:]...)
		for _, o := range orders(rest) {
			all = append(all, append([]api.Rela{l[i]}, o...))
		}
	}
	return all
}

func TestAnyOrder(t *testing.T) {
	l := starterLink(t)
	list := []api.Rela{ // one close behind the other, from the beginning to the end
		{Off: 0, Sym: inMain, Type: 1, Add: 4}, {Off: 8, Sym: known, Type: 10}, {Off: 12, Sym: lost, Type: 11},
		{Off: 17, Sym: number, Type: 1, Add: -1}, {Off: 25, Sym: part, Type: 10, Add: 3},
	}
	want := with(numbered(29), 0, 0x0c, 0x10, 0, 0, 0, 0, 0, 0, 0, 0x10, 0x40, 0, 255, 255, 255, 255)
	want = with(want, 17, 255, 255, 255, 255, 0, 0, 0, 0, 11, 0, 0, 0)
	for _, o := range orders(list) {
		wantBytes(t, fmt.Sprint(o), related(numbered(29), o...), 0, info, l, want)
	}
}

// Where all sections are retained, a section's symbols move with it, and no others.
func TestMovedSection(t *testing.T) {
	o := starter(append(symbols(), api.Symbol{Name: "there", Sect: data, Value: 3})...)
	const there = number + 1
	for _, by := range []uint64{0, 1, 16, 4096, 1 << 32, 1 << 62} {
		at := func(by uint64) *linkmap.Linked {
			return made(t, api.Map{
				Places: []api.Place{{Sect: text, Addr: 4096 + by}, {Sect: data, Addr: 256}},
				Syms:   starterMap().Syms,
			}, o)
		}
		old, moved := at(0), at(by)
		for sym := range o.Syms {
			for _, add := range []int64{0, 4, -4, -8192, most, least} {
				r := api.Rela{Sym: sym, Type: 1, Add: add}
				n, e := reloc.Value(o, 0, r, old)
				m, f := reloc.Value(o, 0, r, moved)
				want := n
				if sym == inMain {
					want += by
				}
				if m != want || e != api.OK || f != api.OK {
					t.Errorf("%s and %d: %#x, %d, and moved by %#x %#x, %d", o.Syms[sym].Name, add, n, e, by, m, f)
				}
			}
		}
		p := o
		p.Relas = [][]api.Rela{nil, nil, nil, {{Off: 8, Sym: inMain, Type: 1, Add: 4}, {Off: 20, Sym: there, Type: 10}}}
		b, e := reloc.Apply(p, 0, info, old)
		c, f := reloc.Apply(p, 0, info, moved)
		if e != api.OK || f != api.OK || !bytes.Equal(b[:8], c[:8]) || !bytes.Equal(b[16:], c[16:]) {
			t.Fatalf("Apply = %s, %d, and moved by %#x %s, %d", show(b), e, by, show(c), f)
		}
		if n, m := number8(b[8:]), number8(c[8:]); n != 4108 || m != n+by {
			t.Errorf("moved by %#x: %#x became %#x", by, n, m)
		}
	}
}

// number8 is the number of eight bytes, the lowest first.
func number8(b []byte) uint64 {
	var n uint64
	for i, v := range b[:8] {
		n += uint64(v) << (8 * i)
	}
	return n
}

// Which map it is counts, not which call made it.
func TestSameMap(t *testing.T) {
	o := related(numbered(16), api.Rela{Off: 8, Sym: inMain, Type: 1, Add: 4}, api.Rela{Sym: known, Type: 10})
	one, e := reloc.Apply(o, 1, info, starterLink(t))
	two, f := reloc.Apply(o, 1, info, starterLink(t))
	if e != api.OK || f != api.OK || !reflect.DeepEqual(one, two) {
		t.Errorf("Apply = %s, %d, then %s, %d", show(one), e, show(two), f)
	}
	if want := with(with(numbered(16), 0, 0, 0x10, 0x40, 0), 8, 12, 0, 1, 0, 0, 0, 0, 0); !bytes.Equal(one, want) {
		t.Errorf("Apply = %s, want %s", show(one), show(want))
	}
}
