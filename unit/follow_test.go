package unit_test

import (
	"bytes"
	"fmt"
	"math/rand"
	"testing"

	"sindri/api"
	"sindri/unit"
)

// P15.4

// pick is one of some.
func pick[T any](r *rand.Rand, l ...T) T { return l[r.Intn(len(l))] }

// number is a number of any size.
func number(r *rand.Rand) uint64 {
	return pick(r, 0, uint64(r.Intn(300)), half, half+1, top, r.Uint64(), r.Uint64()>>r.Intn(64))
}

// chance is a unit that may be.
func chance(r *rand.Rand) part {
	p := part{h: unit.Head{Kind: pick(r, kinds...), Wide: r.Intn(2) == 0}}
	p.h.Abbrev = number(r) & greatest(p.h.Wide)
	if p.h.Kind == typed {
		p.h.Sig, p.h.Type = number(r), number(r)&greatest(p.h.Wide)
	}
	p.body = make([]byte, pick(r, 0, 1, r.Intn(10), r.Intn(300)))
	r.Read(p.body)
	return p
}

// Units that are put one behind the other are all that there is, each where the sizes
// ahead of it say, and each place is of one unit's entries, or of none.
func TestWhatIsPutIsAll(t *testing.T) {
	r := rand.New(rand.NewSource(15))
	for range 400 {
		var section []byte
		var want []unit.Head
		var of []int // the unit in whose entries each place lies
		for i := range r.Intn(most + 1) {
			p := chance(r)
			b, e := unit.Put(p.h, p.body)
			if e != api.OK {
				t.Fatalf("Put(%+v) = %d", p.h, e)
			}
			h := p.h
			h.Off = uint64(len(section))
			h.First = h.Off + uint64(unit.Size(h.Kind, h.Wide))
			h.End = h.First + uint64(len(p.body))
			section, want = cat(section, b), append(want, h)
			for off := h.Off; off < h.End; off++ {
				of = append(of, i)
				if off < h.First {
					of[off] = -1
				}
			}
			if !bytes.Equal(section[min(h.First, uint64(len(section))):], p.body) {
				t.Fatalf("Put(%+v, %x) = %x", p.h, p.body, b)
			}
		}
		wantAll(t, "by chance", section, want)
		for off, i := range of {
			if got := unit.Of(want, uint64(off)); got != i {
				t.Fatalf("Of(%s, %d) = %d, want %d", show(want), off, got, i)
			}
		}
		if got := unit.Of(want, uint64(len(section))); got != -1 {
			t.Fatalf("Of, behind the section, = %d", got)
		}
	}
}

// refuse panics with an error if something is so.
func refuse(so bool, e api.Errno) {
	if so {
		panic(e)
	}
}

// reader reads a section by the chapter's words, and panics with what is refused.
type reader struct {
	b  []byte
	at int
}

func (r *reader) number(size int) (n uint64) {
	refuse(size > len(r.b)-r.at, api.ErrShort)
	for i := size - 1; i >= 0; i-- {
		n = n*256 + uint64(r.b[r.at+i])
	}
	r.at += size
	return n
}

// length reads a length, and tells how many bytes an offset has.
func (r *reader) length() (n uint64, off int) {
	n = r.number(4)
	switch {
	case n == 1<<32-1:
		return r.number(8), 8
	case n >= 4294967280:
		panic(api.ErrLength)
	}
	return n, 4
}

func (r *reader) unit() unit.Head {
	h := unit.Head{Off: uint64(r.at)}
	n, off := r.length()
	refuse(n > uint64(len(r.b)-r.at), api.ErrShort)
	in := &reader{b: r.b[:r.at+int(n)], at: r.at}
	refuse(in.number(2) != 5, api.ErrUnit)
	kind := in.number(1)
	refuse(kind != 1 && kind != 2 && kind != 3, api.ErrUnit)
	refuse(in.number(1) != 8, api.ErrUnit)
	h.Kind, h.Wide, h.Abbrev = int(kind), off == 8, in.number(off)
	if kind == 2 {
		h.Sig = in.number(8)
		h.Type = in.number(off)
	}
	h.First, h.End = uint64(in.at), uint64(len(in.b))
	r.at = len(in.b)
	return h
}

// read is what a section tells by the chapter's words.
func read(b []byte) (l []unit.Head, e api.Errno) {
	defer func() {
		if v := recover(); v != nil {
			l, e = nil, v.(api.Errno)
		}
	}()
	r := &reader{b: b}
	for r.at < len(b) {
		l = append(l, r.unit())
		refuse(len(l) > 60, api.ErrBig)
	}
	return l, api.OK
}

// spoil changes something of a section, which may be or not then.
func spoil(r *rand.Rand, b []byte, heads []unit.Head) []byte {
	if len(heads) == 0 {
		return cat(b, fixed(r.Uint64(), r.Intn(8)))
	}
	h := pick(r, heads...)
	numbers := int(h.Off) + 4
	if h.Wide {
		numbers += 8
	}
	switch r.Intn(8) {
	case 0: // a part of the length
		b[int(h.Off)+r.Intn(4)] = byte(pick(r, 0, 1, 255, 254, r.Intn(256)))
	case 1: // a shorter unit
		return cat(b[:h.Off], wrap(h.Wide, b[numbers:numbers+r.Intn(int(h.End)-numbers)]), b[h.End:])
	case 2, 3: // one of the first numbers
		b[numbers+r.Intn(4)] = byte(pick(r, 0, 1, 2, 3, 4, 5, 6, 7, 8, 9, r.Intn(256)))
	case 4: // it ends
		return b[:r.Intn(len(b))]
	case 5: // a unit ends, which is wrong
		b[numbers+r.Intn(4)] ^= byte(1 + r.Intn(15))
		return cat(b[:h.Off], wrap(h.Wide, b[numbers:numbers+r.Intn(6)]), b[h.End:])
	case 6: // a reserved length
		copy(b[h.Off:], fixed(uint64(0xfffffff0+r.Intn(16)), 4))
	case 7:
		b[r.Intn(len(b))] = byte(r.Intn(256))
	}
	return b
}

// Of sections of all kinds each answer is that of the chapter's words.
func TestAllByTheWords(t *testing.T) {
	r := rand.New(rand.NewSource(151))
	told := map[api.Errno]int{}
	for range 30000 {
		var l []part
		for range pick(r, r.Intn(3), r.Intn(5), r.Intn(5), most-1+r.Intn(4)) {
			l = append(l, chance(r))
		}
		section, heads := layAll(l...)
		if r.Intn(4) > 0 {
			section = spoil(r, section, heads)
		}
		want, e := read(section)
		told[e]++
		if e == api.OK {
			wantAll(t, "by chance", section, want)
		} else {
			wantRefused(t, "by chance", section, e)
		}
		if t.Failed() {
			t.Fatalf("of %x", section)
		}
	}
	for _, e := range []api.Errno{api.OK, api.ErrShort, api.ErrLength, api.ErrUnit, api.ErrBig} {
		if told[e] < 500 {
			t.Errorf("told so often: %v", told)
		}
	}
}

// may tells whether a head may be put, by the chapter's words.
func may(h unit.Head) bool {
	switch {
	case h.Kind != 1 && h.Kind != 2 && h.Kind != 3:
		return false
	case h.Abbrev > greatest(h.Wide):
		return false
	case h.Kind == 2:
		return h.Type <= greatest(h.Wide)
	}
	return h.Sig == 0 && h.Type == 0
}

// Of heads of all kinds Put and Size answer by the chapter's words.
func TestPutByTheWords(t *testing.T) {
	r := rand.New(rand.NewSource(152))
	told := map[bool]int{}
	for range 20000 {
		h := unit.Head{Kind: pick(r, 1, 2, 2, 3, r.Intn(6)-1), Wide: r.Intn(2) == 0, Abbrev: number(r), Sig: number(r) * uint64(r.Intn(2)), Type: number(r) * uint64(r.Intn(2))}
		h.Off, h.First, h.End = number(r), number(r), number(r)
		body := chance(r).body
		ok := may(h)
		told[ok]++
		what := fmt.Sprintf("by chance, %+v", h)
		if ok {
			wantPut(t, what, h, body, lay(part{h, body}))
		} else {
			wantWrong(t, what, h)
		}
		if t.Failed() {
			return
		}
	}
	if told[true] < 2000 || told[false] < 2000 {
		t.Errorf("told so often: %v", told)
	}
}
