package die_test

import (
	"bytes"
	"math/big"
	"math/rand"
	"slices"
	"strings"
	"testing"

	"sindri/api"
	"sindri/die"
	"sindri/unit"
)

// P17.4

// pick is one of some.
func pick[T any](r *rand.Rand, l ...T) T { return l[r.Intn(len(l))] }

// some is bytes by chance.
func some(r *rand.Rand, size int) []byte {
	b := make([]byte, size)
	r.Read(b)
	return b
}

// What a form's bytes are.
const (
	number  = iota // a number of so many bytes
	numberU        // a number U
	sized          // a size of so many bytes, and as many bytes
	sizedU         // a size U, and as many bytes
	plain          // just so many bytes
	signed         // a number S
	text           // a text
	pair           // none: the pair has the number
	always         // none: it is 1
	no             // there is no such form
)

// shape is a form's of chapter 14's table: what its bytes are, and of how many.
func shape(form int, wide bool) (what, size int) {
	switch form {
	case 14, 16, 23, 31:
		if wide {
			return number, 8
		}
		return number, 4
	case 11, 12, 17, 37, 41:
		return number, 1
	case 5, 18, 38, 42:
		return number, 2
	case 39, 43:
		return number, 3
	case 6, 19, 40, 44:
		return number, 4
	case 1, 7, 20, 32:
		return number, 8
	case 15, 21, 26, 27, 34, 35:
		return numberU, 10
	case 10:
		return sized, 1
	case 3:
		return sized, 2
	case 4:
		return sized, 4
	case 9, 24:
		return sizedU, 10
	case 30:
		return plain, 16
	case 13:
		return signed, 0
	case 8:
		return text, 0
	case implicit:
		return pair, 0
	case 25:
		return always, 0
	}
	return no, 0
}

// known is all forms that have a kind.
func known() []int {
	var l []int
	for form := range 60 {
		if what, _ := shape(form, false); what != no {
			l = append(l, form)
		}
	}
	return l
}

// greatest is the greatest number of so many bytes.
func greatest(size int) uint64 {
	if size < 8 {
		return 1<<(8*size) - 1
	}
	return top
}

// bytesOf is a value's bytes by chapter 14's words, and whether it may be.
func bytesOf(x api.Raw, wide bool) (b []byte, ok bool) {
	what, size := shape(x.Form, wide)
	alone := api.Raw{Form: x.Form}
	switch what {
	case number:
		alone.U, b, ok = x.U, fixed(x.U, size), x.U <= greatest(size)
	case numberU:
		alone.U, b, ok = x.U, u(x.U), true
	case sized:
		n := uint64(len(x.B))
		alone.B, b, ok = x.B, cat(fixed(n, size), x.B), n <= greatest(size) && n <= mostBytes
	case sizedU:
		alone.B, b, ok = x.B, cat(u(uint64(len(x.B))), x.B), len(x.B) <= mostBytes
	case plain:
		alone.B, b, ok = x.B, x.B, len(x.B) == 16
	case signed:
		alone.S, b, ok = x.S, s(x.S), true
	case text:
		alone.Text, b, ok = x.Text, append([]byte(x.Text), 0), len(x.Text) <= longest && !strings.Contains(x.Text, "\x00")
	case pair:
		alone.S, ok = x.S, true
	case always:
		alone.U, ok = 1, true
	}
	return b, ok && sameRaw(x, alone)
}

// anyNumber is a number of any size.
func anyNumber(r *rand.Rand) uint64 {
	return pick(r, 0, 1, uint64(r.Intn(300)), top, r.Uint64(), r.Uint64()>>r.Intn(64))
}

// chanceValue is a value of a form that may be; of form 33 it is the number given.
func chanceValue(r *rand.Rand, form int, wide bool, constant int64) api.Raw {
	x := api.Raw{Form: form}
	what, size := shape(form, wide)
	switch what {
	case number:
		x.U = anyNumber(r) & greatest(size)
	case numberU:
		x.U = anyNumber(r)
	case sized, sizedU:
		x.B = some(r, pick(r, 0, 1, r.Intn(10), r.Intn(10), r.Intn(256)))
	case plain:
		x.B = some(r, 16)
	case signed:
		x.S = int64(anyNumber(r))
	case text:
		x.Text = strings.ReplaceAll(string(some(r, pick(r, 0, r.Intn(10), r.Intn(10), longest, r.Intn(longest+1)))), "\x00", "z")
	case pair:
		x.S = constant
	case always:
		x.U = 1
	}
	return x
}

// chanceTable is abbreviations that may be, in any order, of which the first two
// have children.
func chanceTable(r *rand.Rand) []api.Abbrev {
	var l []api.Abbrev
	codes := r.Perm(200)
	for i := range 2 + r.Intn(6) {
		a := api.Abbrev{Code: uint64(codes[i] + 1), Tag: 1 + r.Intn(pick(r, 60, 65535)), Kids: i < 2 || r.Intn(2) == 0}
		if r.Intn(10) == 0 {
			a.Code = r.Uint64() | 1<<32
		}
		for _, at := range r.Perm(120)[:pick(r, 0, 1, r.Intn(4), r.Intn(6))] {
			p := api.Spec{At: at + 1, Form: pick(r, append(known(), 8, 8, 8, 24)...)}
			if p.Form == implicit {
				p.Implicit = int64(anyNumber(r))
			}
			a.Specs = append(a.Specs, p)
		}
		l = append(l, a)
	}
	return l
}

// chanceEntries are entries by a table that may be put, with a depth of so much at most.
// Their places and parents are none.
func chanceEntries(r *rand.Rand, table []api.Abbrev, count, deep int, wide bool) []die.Entry {
	var l []die.Entry
	open := 0
	for i := range count {
		a := pick(r, table...)
		if i == 0 || r.Intn(3) == 0 {
			a = table[r.Intn(2)]
		}
		e := die.Entry{Code: a.Code, Tag: a.Tag, Parent: -9, Off: 99}
		if i > 0 {
			e.Depth = 1 + r.Intn(open)
			if r.Intn(2) == 0 {
				e.Depth = open
			}
			e.Depth = min(e.Depth, deep)
		}
		for _, p := range a.Specs {
			e.Attrs = append(e.Attrs, die.Attr{At: p.At, Val: chanceValue(r, p.Form, wide, p.Implicit)})
		}
		open = e.Depth
		if a.Kids {
			open++
		}
		l = append(l, e)
	}
	return l
}

// layer puts entries by the chapter's words, and tells where they stand.
type layer struct {
	l    []die.Entry
	kids func(code uint64) bool
	wide bool
	at   int // which one is put next
	b    []byte
}

// below puts the next entry with those below it.
func (y *layer) below() {
	e := &y.l[y.at]
	y.at++
	e.Off = uint64(len(y.b))
	y.b = append(y.b, u(e.Code)...)
	for _, x := range e.Attrs {
		b, _ := bytesOf(x.Val, y.wide)
		y.b = append(y.b, b...)
	}
	for y.at < len(y.l) && y.l[y.at].Depth > e.Depth {
		y.below()
	}
	if y.kids(e.Code) {
		y.b = append(y.b, 0)
	}
}

// layOf is entries' bytes, and those entries with their places and parents.
func layOf(x putting) ([]byte, []die.Entry) {
	y := &layer{l: slices.Clone(x.l), wide: x.wide}
	y.kids = func(code uint64) bool {
		return x.table[slices.IndexFunc(x.table, func(a api.Abbrev) bool { return a.Code == code })].Kids
	}
	y.below()
	for i := range y.l {
		y.l[i].Parent = -1
		for j := range i { // the last one ahead is met last
			if y.l[j].Depth == y.l[i].Depth-1 {
				y.l[i].Parent = j
			}
		}
	}
	return y.b, y.l
}

// Entries that are put behind units' heads, one unit behind the other, are taken as they
// were.
func TestWhatIsPutIsTaken(t *testing.T) {
	r := rand.New(rand.NewSource(17))
	for range 400 {
		var section []byte
		var units []putting
		for range 1 + r.Intn(5) {
			x := putting{table: chanceTable(r), wide: r.Intn(2) == 0}
			x.l = chanceEntries(r, x.table, 1+pick(r, 0, r.Intn(5), r.Intn(40), r.Intn(40)), pick(r, 3, deepest), x.wide)
			b, e := die.Put(x.l, x.table, x.wide)
			if e != api.OK {
				t.Fatalf("Put(%s) = %d", show(x.l), e)
			}
			h := unit.Head{Kind: 1 + r.Intn(3), Wide: x.wide}
			b, e = unit.Put(h, cat(b, make([]byte, r.Intn(3))))
			if e != api.OK {
				t.Fatalf("unit.Put = %d", e)
			}
			section = append(section, b...)
			units = append(units, x)
		}
		heads, e := unit.All(section)
		if len(heads) != len(units) || e != api.OK {
			t.Fatalf("All = %+v, %d", heads, e)
		}
		for i, h := range heads {
			_, want := layOf(units[i])
			for j := range want {
				want[j].Off += h.First
			}
			wantTake(t, "by chance", taking{section, h, units[i].table}, want)
			wantParts(t, want, units[i].l)
		}
		if t.Failed() {
			t.FailNow()
		}
	}
}

// wantParts looks at which parts of entries are told of those that were put, and that
// each is found by its place, with its values.
func wantParts(t *testing.T, l, put []die.Entry) {
	t.Helper()
	for i, e := range l {
		if e.Code != put[i].Code || e.Tag != put[i].Tag || e.Depth != put[i].Depth || !slices.EqualFunc(e.Attrs, put[i].Attrs, sameAttr) {
			t.Errorf("entry %d: %+v was %+v", i, e, put[i])
		}
		wantFind(t, l, e.Off, i)
		for _, x := range e.Attrs {
			wantGet(t, e, x.At, x.Val, true)
		}
	}
}

// refuse panics with an error if something is so.
func refuse(so bool, e api.Errno) {
	if so {
		panic(e)
	}
}

// reader reads a unit's entries by the chapters' words, and panics with what is refused.
type reader struct {
	taking
	at int
	l  []die.Entry
}

// next reads a byte.
func (r *reader) next() byte {
	refuse(r.at == int(r.h.End), api.ErrShort)
	r.at++
	return r.section[r.at-1]
}

// sevens reads a number of 7-bit bytes, and tells how many bits it has.
func (r *reader) sevens() (*big.Int, uint) {
	n := new(big.Int)
	for i := range uint(10) {
		b := r.next()
		n.Or(n, new(big.Int).Lsh(big.NewInt(int64(b%128)), 7*i))
		if b < 128 {
			return n, 7 * (i + 1)
		}
	}
	panic(api.ErrLeb)
}

// u reads a number U.
func (r *reader) u() uint64 {
	n, _ := r.sevens()
	refuse(!n.IsUint64(), api.ErrLeb)
	return n.Uint64()
}

// s reads a number S.
func (r *reader) s() int64 {
	n, bits := r.sevens()
	if n.Bit(int(bits)-1) == 1 {
		n.Sub(n, new(big.Int).Lsh(big.NewInt(1), bits))
	}
	refuse(!n.IsInt64(), api.ErrLeb)
	return n.Int64()
}

// fixed reads a number of so many bytes: if they end, at once.
func (r *reader) fixed(size int) (n uint64) {
	for i := range size {
		n |= uint64(r.next()) << (8 * i)
	}
	return n
}

// block reads so many bytes.
func (r *reader) block(size uint64) (b []byte) {
	refuse(size > mostBytes, api.ErrBig)
	for range size {
		b = append(b, r.next())
	}
	return b
}

// value reads a pair's value.
func (r *reader) value(p api.Spec) api.Raw {
	if p.Form == indirect {
		n := r.u()
		refuse(n == implicit || n > 100, api.ErrForm)
		p.Form = int(n)
	}
	what, size := shape(p.Form, r.h.Wide)
	x := api.Raw{Form: p.Form}
	switch what {
	case no:
		panic(api.ErrForm)
	case number:
		x.U = r.fixed(size)
	case numberU:
		x.U = r.u()
	case sized:
		x.B = r.block(r.fixed(size))
	case sizedU:
		x.B = r.block(r.u())
	case plain:
		x.B = r.block(uint64(size))
	case signed:
		x.S = r.s()
	case text:
		n := bytes.IndexByte(r.section[r.at:r.h.End], 0)
		refuse(n < 0, api.ErrText)
		refuse(n > longest, api.ErrBig)
		x.Text = string(r.block(uint64(n)))
		r.next()
	case pair:
		x.S = p.Implicit
	case always:
		x.U = 1
	}
	return x
}

// entry reads an entry with those below it, or tells that an end stands there.
func (r *reader) entry(parent, depth int) bool {
	e := die.Entry{Off: uint64(r.at), Parent: parent, Depth: depth}
	e.Code = r.u()
	refuse(e.Code == 0 && depth == 0, api.ErrDie)
	if e.Code == 0 {
		return false
	}
	i := slices.IndexFunc(r.table, func(a api.Abbrev) bool { return a.Code == e.Code })
	refuse(i < 0, api.ErrAbbrev)
	refuse(len(r.l) == most || depth > deepest, api.ErrBig)
	e.Tag = r.table[i].Tag
	for _, p := range r.table[i].Specs {
		e.Attrs = append(e.Attrs, die.Attr{At: p.At, Val: r.value(p)})
	}
	at := len(r.l)
	r.l = append(r.l, e)
	for r.table[i].Kids && r.entry(at, depth+1) {
	}
	return true
}

// read is what Take tells by the chapters' words.
func read(x taking) (l []die.Entry, e api.Errno) {
	defer func() {
		if v := recover(); v != nil {
			l, e = nil, v.(api.Errno)
		}
	}()
	size := uint64(len(x.section))
	refuse(x.h.First > size || x.h.End > size || x.h.End < x.h.First, api.ErrArg)
	r := &reader{taking: x, at: int(x.h.First)}
	r.entry(-1, 0)
	for r.at < int(x.h.End) {
		refuse(r.next() != 0, api.ErrDie)
	}
	return r.l, api.OK
}

// chanceTaking is entries of a unit in a section; many of them, or deep ones, now and then.
func chanceTaking(r *rand.Rand) taking {
	x := putting{table: chanceTable(r), wide: r.Intn(2) == 0}
	count, deep := 1+pick(r, 0, r.Intn(5), r.Intn(20), r.Intn(50)), 5
	switch r.Intn(30) {
	case 0:
		count = most - 1 + r.Intn(4)
		for i := range x.table {
			x.table[i].Specs = nil
		}
	case 1, 2, 3:
		x.table = x.table[:2] // all have children
		count, deep = deepest+r.Intn(60), deepest-1+r.Intn(3)
	}
	x.l = chanceEntries(r, x.table, count, deep, x.wide)
	b, _ := layOf(x)
	return in(some(r, r.Intn(20)), cat(b, make([]byte, r.Intn(4))), some(r, r.Intn(20)), x.table, x.wide)
}

// spoil changes something of what Take is handed, which may be or not then.
func spoil(r *rand.Rand, x taking) taking {
	first, end := int(x.h.First), int(x.h.End)
	at := first + r.Intn(end-first)
	switch r.Intn(12) {
	case 0: // the unit ends
		x.h.End = uint64(at)
	case 1: // the section ends
		x.section = x.section[:r.Intn(len(x.section)+1)]
	case 2: // a byte
		x.section[at] = byte(pick(r, 0, 1, 127, 128, 255, r.Intn(256)))
	case 3: // bytes are gone
		n := r.Intn(min(end-at, 3) + 1)
		x.section = slices.Delete(x.section, at, at+n)
		x.h.End -= uint64(n)
	case 4: // bytes are put between
		b := pick(r, []byte{0}, []byte{128, 0}, tooLong(), bytes.Repeat([]byte{200}, 250), some(r, r.Intn(5)))
		x.section = slices.Insert(x.section, at, b...)
		x.h.End += uint64(len(b))
	case 5: // an abbreviation is gone, or stands twice
		i := r.Intn(len(x.table))
		x.table = slices.Delete(slices.Clone(x.table), i, i+r.Intn(2))
		x.table = append(x.table, api.Abbrev{Code: uint64(r.Intn(4)), Tag: 9, Kids: r.Intn(2) == 0})
	case 6: // a pair's form
		a := x.table[r.Intn(len(x.table))]
		for i := range a.Specs {
			if r.Intn(2) == 0 {
				a.Specs[i].Form = pick(r, indirect, indirect, 2, r.Intn(50), 8, 24)
			}
		}
	case 7: // whether children follow
		i := r.Intn(len(x.table))
		x.table[i].Kids = !x.table[i].Kids
	case 8:
		x.h.Wide = !x.h.Wide
	case 9: // the unit's places
		x.h.First, x.h.End = uint64(r.Intn(len(x.section)+2)), uint64(r.Intn(len(x.section)+2))
	case 10: // the end
		x.section[end-1-r.Intn(min(end-first, 4))] = byte(pick(r, 0, 1, 128))
	case 11:
		x.section[first] = byte(r.Intn(3))
	}
	return x
}

// Of units of all kinds each answer is that of the chapter's words.
func TestTakeByTheWords(t *testing.T) {
	r := rand.New(rand.NewSource(171))
	told := map[api.Errno]int{}
	for range 20000 {
		x := chanceTaking(r)
		if r.Intn(4) > 0 {
			x = spoil(r, x)
		}
		want, e := read(x)
		told[e]++
		if e == api.OK {
			wantTake(t, "by chance", x, want)
		} else {
			wantRefused(t, "by chance", x, e)
		}
		if t.Failed() {
			t.Fatalf("of %x, %+v, %+v", x.section, x.h, x.table)
		}
	}
	for _, e := range []api.Errno{api.OK, api.ErrArg, api.ErrShort, api.ErrLeb, api.ErrText, api.ErrForm, api.ErrAbbrev, api.ErrBig, api.ErrDie} {
		if told[e] < 50 {
			t.Errorf("told so often: %v", told)
		}
	}
}

// may tells whether entries can be put, by the chapter's words.
func may(x putting) bool {
	if len(x.l) < 1 || len(x.l) > most || x.l[0].Depth != 0 {
		return false
	}
	var ahead api.Abbrev
	for i, e := range x.l {
		at := slices.IndexFunc(x.table, func(a api.Abbrev) bool { return a.Code == e.Code })
		if at < 0 || x.table[at].Tag != e.Tag || len(x.table[at].Specs) != len(e.Attrs) {
			return false
		}
		for j, p := range x.table[at].Specs {
			v := e.Attrs[j]
			if _, ok := bytesOf(v.Val, x.wide); !ok || v.At != p.At || v.Val.Form != p.Form || p.Form == implicit && v.Val.S != p.Implicit {
				return false
			}
		}
		if i > 0 {
			before := x.l[i-1].Depth
			if e.Depth < 1 || e.Depth > before+1 || e.Depth == before+1 && !ahead.Kids {
				return false
			}
		}
		ahead = x.table[at]
	}
	return true
}

// spoilPut changes something of what Put is handed, which may be or not then.
func spoilPut(r *rand.Rand, x putting) putting {
	x = x.copied()
	i := r.Intn(len(x.l))
	e := &x.l[i]
	a := &x.table[r.Intn(len(x.table))]
	switch r.Intn(10) {
	case 0:
		e.Depth += pick(r, 1, -1, 2, -2)
	case 1:
		e.Depth = r.Intn(4)
	case 2:
		e.Code, e.Tag = a.Code, a.Tag
	case 3:
		e.Tag += pick(r, 1, -1)
	case 4:
		a.Kids = !a.Kids
	case 5:
		x.l = slices.Delete(x.l, i, i+1)
	case 6:
		x.wide = !x.wide
	case 7:
		a.Code = e.Code
	case 8:
		for j := range a.Specs {
			a.Specs[j].Form = pick(r, a.Specs[j].Form, pick(r, known()...), indirect)
		}
	case 9:
		for j := range e.Attrs {
			v := &e.Attrs[j]
			switch r.Intn(4) {
			case 0:
				v.At++
			case 1:
				v.Val = chanceValue(r, pick(r, known()...), x.wide, 0)
			case 2:
				v.Val.U = anyNumber(r)
			case 3:
				v.Val.S++
			}
		}
	}
	return x
}

// Of entries of all kinds each answer is that of the chapter's words.
func TestPutByTheWords(t *testing.T) {
	r := rand.New(rand.NewSource(172))
	told := map[bool]int{}
	for range 10000 {
		x := putting{table: chanceTable(r), wide: r.Intn(2) == 0}
		x.l = chanceEntries(r, x.table, 1+pick(r, 0, r.Intn(4), r.Intn(12)), pick(r, 3, 50), x.wide)
		for range r.Intn(4) {
			if len(x.l) > 0 {
				x = spoilPut(r, x)
			}
		}
		ok := may(x)
		told[ok]++
		if ok {
			want, _ := layOf(x)
			wantPut(t, "by chance", x, want)
		} else {
			wantWrong(t, "by chance", x)
		}
		if t.Failed() {
			t.Fatalf("of %+v, %+v, wide %v", x.l, x.table, x.wide)
		}
	}
	if told[true] < 1000 || told[false] < 1000 {
		t.Errorf("told so often: %v", told)
	}
}
