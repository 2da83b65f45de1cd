package tables_test

import (
	"math/rand"
	"slices"
	"testing"

	"sindri/api"
	"sindri/tables"
)

// P16.4

// pick is one of some.
func pick[T any](r *rand.Rand, l ...T) T { return l[r.Intn(len(l))] }

// number is a number of any size.
func number(r *rand.Rand) uint64 {
	return pick(r, 0, uint64(r.Intn(300)), half, half+1, top, r.Uint64(), r.Uint64()>>r.Intn(64))
}

// chance is a table that may be.
func (s sort) chance(r *rand.Rand) part {
	p := part{wide: r.Intn(2) == 0}
	for range pick(r, 0, 1, r.Intn(5), r.Intn(40)) {
		p.items = append(p.items, number(r)&s.greatest(p.wide))
	}
	return p
}

// Tables that are put one behind the other are taken as they were, and their items found
// by their bases; each item stands at its table's base and so many sizes behind it.
func TestWhatIsPutIsTaken(t *testing.T) {
	r := rand.New(rand.NewSource(16))
	for _, s := range sorts() {
		for range 300 {
			var section []byte
			var want []tables.Table
			for range r.Intn(most + 1) {
				p := s.chance(r)
				b, e := s.put(p.wide, p.items)
				if e != api.OK {
					t.Fatalf("Put%s(%v, %v) = %d", s.name, p.wide, p.items, e)
				}
				section = append(section, b...)
				base := uint64(len(section) - len(p.items)*s.size(p.wide))
				want = append(want, tables.Table{Wide: p.wide, Base: base, Items: p.items})
			}
			s.wantTake(t, "by chance", section, want)
			l, _ := s.take(section)
			for _, x := range l {
				s.wantItems(t, section, l, x)
			}
			if t.Failed() {
				t.Fatalf("%s of %x", s.name, section)
			}
		}
	}
}

// wantItems looks at where a table's items stand in a section, and that they are found.
func (s sort) wantItems(t *testing.T, section []byte, l []tables.Table, x tables.Table) {
	t.Helper()
	size := s.size(x.Wide)
	for i, n := range x.Items {
		at := int(x.Base) + i*size
		if got := section[at : at+size]; string(got) != string(fixed(n, size)) {
			t.Errorf("%s: item %d of %+v stands not at %d: %x", s.name, i, x, at, got)
		}
		wantAt(t, l, x.Base, uint64(i), n, true)
	}
	wantAt(t, l, x.Base, uint64(len(x.Items)), 0, false)
}

// refuse panics with an error if something is so.
func refuse(so bool, e api.Errno) {
	if so {
		panic(e)
	}
}

// reader reads a section by the chapter's words, and panics with what is refused.
type reader struct {
	b  []byte
	at int
}

func (r *reader) number(size int) (n uint64) {
	refuse(size > len(r.b)-r.at, api.ErrShort)
	for i := size - 1; i >= 0; i-- {
		n = n*256 + uint64(r.b[r.at+i])
	}
	r.at += size
	return n
}

// length reads a length, and tells how many bytes an offset has.
func (r *reader) length() (n uint64, off int) {
	n = r.number(4)
	switch {
	case n == 1<<32-1:
		return r.number(8), 8
	case n >= 4294967280:
		panic(api.ErrLength)
	}
	return n, 4
}

// table reads a table of offsets, or of addresses.
func (r *reader) table(offsets bool) (x tables.Table) {
	n, size := r.length()
	refuse(n > uint64(len(r.b)-r.at), api.ErrShort)
	in := &reader{b: r.b[:r.at+int(n)], at: r.at}
	r.at += int(n)
	x.Wide = size == 8
	if offsets {
		five, nought := in.number(2), in.number(2)
		refuse(five != 5 || nought != 0, api.ErrUnit)
	} else {
		five, eight, nought := in.number(2), in.number(1), in.number(1)
		refuse(five != 5 || eight != 8 || nought != 0, api.ErrUnit)
		size = 8
	}
	x.Base = uint64(in.at)
	for in.at < len(in.b) {
		x.Items = append(x.Items, in.number(size))
	}
	return x
}

// read is what a section tells by the chapter's words.
func read(b []byte, offsets bool) (l []tables.Table, e api.Errno) {
	defer func() {
		if v := recover(); v != nil {
			l, e = nil, v.(api.Errno)
		}
	}()
	r := &reader{b: b}
	for r.at < len(b) {
		l = append(l, r.table(offsets))
		refuse(len(l) > 60, api.ErrBig)
	}
	return l, api.OK
}

// spoil changes something of a section, which may be or not then.
func (s sort) spoil(r *rand.Rand, b []byte, l []tables.Table) []byte {
	if len(l) == 0 {
		return cat(b, fixed(r.Uint64(), r.Intn(8)))
	}
	x := pick(r, l...)
	numbers := int(x.Base) - 4
	off := numbers - len(long(0, x.Wide))
	end := int(x.Base) + len(x.Items)*s.size(x.Wide)
	switch r.Intn(8) {
	case 0: // a part of the length
		b[off+r.Intn(4)] = byte(pick(r, 0, 1, 255, 254, r.Intn(256)))
	case 1: // a shorter table
		return cat(b[:off], wrap(x.Wide, b[numbers:numbers+r.Intn(end-numbers)]), b[end:])
	case 2, 3: // one of the numbers ahead of the items
		b[numbers+r.Intn(4)] = byte(pick(r, 0, 1, 4, 5, 6, 7, 8, 9, r.Intn(256)))
	case 4: // it ends
		return b[:r.Intn(len(b))]
	case 5: // another number in a shorter table
		b[numbers+r.Intn(4)] ^= byte(1 + r.Intn(15))
		return cat(b[:off], wrap(x.Wide, b[numbers:min(end, numbers+r.Intn(12))]), b[end:])
	case 6: // a reserved length
		copy(b[off:], fixed(uint64(0xfffffff0+r.Intn(16)), 4))
	case 7:
		b[r.Intn(len(b))] = byte(r.Intn(256))
	}
	return b
}

// Of sections of all kinds each answer is that of the chapter's words.
func TestTakeByTheWords(t *testing.T) {
	r := rand.New(rand.NewSource(161))
	told := map[api.Errno]int{}
	for range 30000 {
		s := pick(r, sorts()...)
		from := s
		if r.Intn(20) == 0 { // a section of the other sort
			from = pick(r, sorts()...)
		}
		var parts []part
		for range pick(r, r.Intn(3), r.Intn(5), r.Intn(5), most-1+r.Intn(4)) {
			parts = append(parts, from.chance(r))
		}
		section, l := from.layAll(parts...)
		if r.Intn(4) > 0 {
			section = from.spoil(r, section, l)
		}
		want, e := read(section, s.name == "Strs")
		told[e]++
		if e == api.OK {
			s.wantTake(t, "by chance", section, want)
		} else {
			s.wantRefused(t, "by chance", section, e)
		}
		if t.Failed() {
			t.Fatalf("of %x", section)
		}
	}
	for _, e := range []api.Errno{api.OK, api.ErrShort, api.ErrLength, api.ErrUnit, api.ErrBig} {
		if told[e] < 500 {
			t.Errorf("told so often: %v", told)
		}
	}
}

// Of items of all kinds each answer is that of the chapter's words.
func TestPutByTheWords(t *testing.T) {
	r := rand.New(rand.NewSource(162))
	told := map[bool]int{}
	for range 20000 {
		s := pick(r, sorts()...)
		p := part{wide: r.Intn(2) == 0}
		for range r.Intn(5) {
			p.items = append(p.items, number(r))
		}
		ok := !slices.ContainsFunc(p.items, func(n uint64) bool { return n > s.greatest(p.wide) })
		told[ok]++
		if ok {
			s.wantPut(t, "by chance", p, s.lay(p))
		} else {
			s.wantWrong(t, "by chance", p)
		}
	}
	if told[true] < 1000 || told[false] < 1000 {
		t.Errorf("told so often: %v", told)
	}
}

// Of tables of all kinds, with bases that stand twice among them, the first one with a base
// is asked.
func TestAtByTheWords(t *testing.T) {
	r := rand.New(rand.NewSource(163))
	told := map[bool]int{}
	for range 20000 {
		var l []tables.Table
		for range r.Intn(8) {
			l = append(l, tables.Table{Wide: r.Intn(2) == 0, Base: pick(r, uint64(r.Intn(6)), top, 1<<32), Items: strs().chance(r).items})
		}
		base := pick(r, uint64(r.Intn(6)), top, 1<<32, number(r))
		i := pick(r, 0, uint64(r.Intn(3)), uint64(r.Intn(50)), number(r))
		var want uint64
		is := false
		for _, x := range slices.Backward(l) { // the first one is met last
			if x.Base == base {
				want, is = 0, i < uint64(len(x.Items))
				if is {
					want = x.Items[i]
				}
			}
		}
		told[is]++
		wantAt(t, l, base, i, want, is)
	}
	if told[true] < 1000 || told[false] < 1000 {
		t.Errorf("told so often: %v", told)
	}
}
