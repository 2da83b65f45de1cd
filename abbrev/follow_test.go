package abbrev_test

import (
	"bytes"
	"fmt"
	"math/big"
	"math/rand"
	"testing"

	"sindri/abbrev"
	"sindri/api"
	"sindri/cursor"
)

// P13.4

// pick is one of some.
func pick[T any](r *rand.Rand, l ...T) T { return l[r.Intn(len(l))] }

// number is a tag, an attribute or a form that may be.
func number(r *rand.Rand) int {
	return pick(r, 1+r.Intn(127), 1+r.Intn(127), 1+r.Intn(65535), 1, 127, 128, 65535)
}

// chance is a table that may be, in no order.
func chance(r *rand.Rand, most int) []api.Abbrev {
	var l []api.Abbrev
	codes := map[uint64]bool{0: true}
	for range r.Intn(most + 1) {
		a := api.Abbrev{Code: pick(r, uint64(r.Intn(200)), r.Uint64(), r.Uint64()>>r.Intn(64), top), Tag: number(r), Kids: r.Intn(2) == 0}
		if codes[a.Code] {
			continue
		}
		codes[a.Code] = true
		met := map[int]bool{}
		for range r.Intn(pick(r, 2, 6, pairs+1)) {
			p := api.Spec{At: number(r), Form: number(r)}
			if r.Intn(4) == 0 {
				p.Form = constant
			}
			if p.Form == constant {
				p.Implicit = pick(r, int64(r.Uint64()), int64(r.Uint64())>>r.Intn(64), 0, -1, 63, 64, -64, -65)
			}
			if !met[p.At] {
				met[p.At] = true
				a.Specs = append(a.Specs, p)
			}
		}
		l = append(l, a)
	}
	return l
}

func TestWhatIsPutIsTaken(t *testing.T) {
	r := rand.New(rand.NewSource(13))
	for range 3000 {
		l := chance(r, pick(r, 3, 12, 60))
		if !abbrev.Right(l) {
			t.Fatalf("Right = false of %+v", l)
		}
		ahead, behind := make([]byte, r.Intn(5)), make([]byte, r.Intn(5))
		r.Read(ahead)
		r.Read(behind)
		b, e := abbrev.Put(bytes.Clone(ahead), l)
		if e != api.OK || !bytes.HasPrefix(b, ahead) {
			t.Fatalf("Put = %x, %d, of %+v", b, e, l)
		}
		size := len(b)
		b = cat(b, behind)
		c := cursor.New(b)
		c.Seek(uint64(len(ahead)))
		got, e := abbrev.Take(c)
		if !same(got, l) || e != api.OK || c.At() != size || !bytes.Equal(c.Bytes(uint64(len(behind))), behind) {
			t.Fatalf("Take = %s, %d, and the cursor stands at %d of %d, of %+v", show(got), e, c.At(), size, l)
		}
		wantAt(t, "what is put", b, uint64(len(ahead)), l, api.OK)
		for _, a := range l {
			wantFound(t, "what is taken", got, a.Code, a)
		}
		if again, e := abbrev.Put(nil, got); !bytes.Equal(again, b[len(ahead):size]) || e != api.OK {
			t.Fatalf("Put, of what is taken, = %x, %d, of %+v", again, e, l)
		}
	}
}

// Tables that are put one behind the other are taken so.
func TestTablesOneBehindTheOther(t *testing.T) {
	r := rand.New(rand.NewSource(31))
	for range 200 {
		var b []byte
		var all [][]api.Abbrev
		var places []int
		for range r.Intn(8) {
			l := chance(r, 10)
			all, places = append(all, l), append(places, len(b))
			var e api.Errno
			if b, e = abbrev.Put(b, l); e != api.OK {
				t.Fatalf("Put: %d", e)
			}
		}
		c := cursor.New(b)
		for i, l := range all {
			wantAt(t, "each table", b, uint64(places[i]), l, api.OK)
			if got, e := abbrev.Take(c); !same(got, l) || e != api.OK {
				t.Fatalf("Take = %s, %d, want %s", show(got), e, show(l))
			}
		}
		if c.End() != api.OK {
			t.Fatalf("End = %d", c.End())
		}
	}
}

// reader reads a table by the chapter's words, and panics with what is refused.
type reader struct {
	b  []byte
	at int
}

func (r *reader) octet() byte {
	if r.at == len(r.b) {
		panic(api.ErrShort)
	}
	r.at++
	return r.b[r.at-1]
}

// leb reads a number of 7-bit bytes, whatever it is, and tells how many bits it has.
func (r *reader) leb() (n *big.Int, width uint) {
	n = new(big.Int)
	for range 10 {
		v := r.octet()
		n.Add(n, new(big.Int).Lsh(big.NewInt(int64(v%128)), width))
		width += 7
		if v < 128 {
			return n, width
		}
	}
	panic(api.ErrLeb)
}

func (r *reader) unsigned() uint64 {
	n, _ := r.leb()
	if !n.IsUint64() {
		panic(api.ErrLeb)
	}
	return n.Uint64()
}

func (r *reader) signed() int64 {
	n, width := r.leb()
	if n.Bit(int(width)-1) == 1 {
		n.Sub(n, new(big.Int).Lsh(big.NewInt(1), width))
	}
	if !n.IsInt64() {
		panic(api.ErrLeb)
	}
	return n.Int64()
}

// refuse panics with an error if something is so.
func refuse(so bool, e api.Errno) {
	if so {
		panic(e)
	}
}

func (r *reader) table() []api.Abbrev {
	var l []api.Abbrev
	for {
		code := r.unsigned()
		if code == 0 {
			break
		}
		refuse(len(l) == 300, api.ErrBig)
		tag := r.unsigned()
		refuse(tag >= 65536, api.ErrAbbrev)
		kids := r.octet()
		refuse(kids >= 2, api.ErrAbbrev)
		a := api.Abbrev{Code: code, Tag: int(tag), Kids: kids == 1}
		for {
			at := r.unsigned()
			form := r.unsigned()
			if at == 0 && form == 0 {
				break
			}
			refuse(at == 0 || form == 0 || at >= 65536 || form >= 65536, api.ErrAbbrev)
			refuse(len(a.Specs) == 40, api.ErrBig)
			p := api.Spec{At: int(at), Form: int(form)}
			if form == 33 {
				p.Implicit = r.signed()
			}
			a.Specs = append(a.Specs, p)
		}
		l = append(l, a)
	}
	refuse(!may(l), api.ErrAbbrev)
	return l
}

// may tells, pair by pair, whether a table may be.
func may(l []api.Abbrev) bool {
	ok := len(l) <= 300
	for i, a := range l {
		for _, b := range l[:i] {
			ok = ok && a.Code != b.Code
		}
		ok = ok && a.Code > 0 && a.Tag > 0 && a.Tag < 65536 && len(a.Specs) <= 40
		for j, p := range a.Specs {
			for _, q := range a.Specs[:j] {
				ok = ok && p.At != q.At
			}
			ok = ok && p.At > 0 && p.At < 65536 && p.Form > 0 && p.Form < 65536 && (p.Form == 33 || p.Implicit == 0)
		}
	}
	return ok
}

// read is what a table's bytes tell by the chapter's words, how many they are, and
// what is refused.
func read(b []byte) (l []api.Abbrev, size int, e api.Errno) {
	r := &reader{b: b}
	defer func() {
		if x := recover(); x != nil {
			l, size, e = nil, r.at, x.(api.Errno)
		}
	}()
	l = r.table()
	return l, r.at, api.OK
}

// noisy is a table's bytes with numbers of too many bytes and faults here and there.
func noisy(r *rand.Rand) []byte {
	fault := func() bool { return r.Intn(120) == 0 }
	number := func(n uint64) []byte {
		if fault() {
			return pick(r, tooLong(), nil, u(0), u(65535), u(65536), u(top), []byte{0x80}, []byte{1})
		}
		return long(u(n), pick(r, 1, 1, 1, 2, 5, 10), 0)
	}
	var b []byte
	for _, a := range chance(r, 6) {
		if fault() {
			a.Code = pick(r, 1, 2, a.Code)
		}
		b = cat(b, number(a.Code), number(uint64(a.Tag)))
		kids := byte(r.Intn(2))
		if fault() {
			kids = byte(r.Intn(256))
		}
		b = append(b, kids)
		if fault() {
			a.Specs = append(a.Specs, pick(r, a.Specs, pile(1), pile(pairs), pile(pairs+1))...)
		}
		for _, p := range a.Specs {
			b = cat(b, number(uint64(p.At)), number(uint64(p.Form)))
			if p.Form == constant {
				b = cat(b, pick(r, s(p.Implicit), s(p.Implicit), s(p.Implicit), long(s(p.Implicit), 10, byte(uint64(p.Implicit)>>63)*127)))
			}
		}
		b = cat(b, number(0), number(0))
	}
	b = cat(b, number(0), []byte{1, 2, 3}[:r.Intn(4)])
	if fault() {
		b = b[:r.Intn(len(b)+1)]
	}
	if len(b) > 0 && fault() {
		b[r.Intn(len(b))] ^= 1 << r.Intn(8)
	}
	return b
}

// Of bytes of all kinds each answer is that of the chapter's words.
func TestByTheWords(t *testing.T) {
	r := rand.New(rand.NewSource(133))
	told := map[api.Errno]int{}
	for i := range 40000 {
		b := noisy(r)
		if i%4 == 0 {
			b = make([]byte, r.Intn(30))
			for j := range b {
				b[j] = pick(r, 0, 0, 1, 1, 2, 3, constant, 127, 128, 255, byte(r.Intn(256)))
			}
		}
		want, size, e := read(b)
		told[e]++
		c := cursor.New(b)
		l, got := abbrev.Take(c)
		if !same(l, want) || got != e || c.Err() != e || c.At() != size {
			t.Fatalf("%x: Take = %s, %d, and the cursor stands at %d with %d, want %s, %d at %d", b, show(l), got, c.At(), c.Err(), show(want), e, size)
		}
		off := r.Intn(len(b) + 2)
		if off < len(b) {
			want, _, e = read(b[off:])
		} else {
			want, e = nil, api.ErrShort
		}
		wantAt(t, fmt.Sprintf("%x", b), b, uint64(off), want, e)
	}
	for _, e := range []api.Errno{api.OK, api.ErrShort, api.ErrLeb, api.ErrAbbrev, api.ErrBig} {
		if told[e] < 100 {
			t.Errorf("told so often: %v", told)
		}
	}
}

// Of tables of all kinds Right and Put answer by the chapter's words.
func TestRightByTheWords(t *testing.T) {
	r := rand.New(rand.NewSource(1313))
	told := map[bool]int{}
	for range 5000 {
		l := chance(r, pick(r, 3, 12))
		for range r.Intn(3) {
			if len(l) > 0 {
				spoil(r, l)
			}
		}
		ok := may(l)
		told[ok]++
		if ok {
			wantPut(t, fmt.Sprintf("%+v", l), roomy(l), layAll(l...))
		} else {
			wantWrong(t, fmt.Sprintf("%+v", l), roomy(l))
		}
	}
	if told[true] < 500 || told[false] < 500 {
		t.Errorf("told so often: %v", told)
	}
}

// spoil changes something of a table, which may be or not then.
func spoil(r *rand.Rand, l []api.Abbrev) {
	a := &l[r.Intn(len(l))]
	n := pick(r, 0, 1, -1, 65535, 65536, number(r))
	switch r.Intn(4) {
	case 0:
		a.Code = pick(r, 0, l[0].Code, r.Uint64())
	case 1:
		a.Tag = n
	default:
		if len(a.Specs) == 0 {
			return
		}
		p := &a.Specs[r.Intn(len(a.Specs))]
		switch r.Intn(5) {
		case 0:
			p.At = n
		case 1:
			p.Form = n
		case 2:
			p.At = a.Specs[0].At
		case 3:
			p.Implicit = int64(n)
		case 4:
			p.Form = constant
		}
	}
}
