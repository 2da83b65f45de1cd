package die_test

import (
	"bytes"
	"fmt"
	"slices"
	"strings"
	"testing"

	"sindri/api"
	"sindri/die"
	"sindri/unit"
)

const (
	top       = 1<<64 - 1
	most      = 1000  // the most entries of a unit
	deepest   = 40    // the greatest depth
	mostBytes = 65536 // the most bytes of a value
	longest   = 200   // the most bytes of a text
	indirect  = 22
	implicit  = 33
)

// both are the two ways.
var both = []bool{false, true}

// fixed is a number of so many bytes.
func fixed(n uint64, size int) []byte {
	b := make([]byte, size)
	for i := range b {
		b[i] = byte(n)
		n /= 256
	}
	return b
}

// u is a number of 7-bit bytes, the fewest.
func u(n uint64) []byte {
	var b []byte
	for ; n >= 128; n /= 128 {
		b = append(b, byte(n%128)+128)
	}
	return append(b, byte(n))
}

// s is a number of 7-bit bytes, the fewest, that may be below 0.
func s(n int64) []byte {
	var b []byte
	for ; n < -64 || n > 63; n >>= 7 {
		b = append(b, byte(n&127)+128)
	}
	return append(b, byte(n&127))
}

// long is a number's bytes with noughts above it, so many of them in all.
func long(b []byte, size int) []byte {
	b = bytes.Clone(b)
	for len(b) < size {
		b[len(b)-1] += 128
		b = append(b, 0)
	}
	return b
}

// tooLong is as many bytes as a number may have, none of which ends it.
func tooLong() []byte { return bytes.Repeat([]byte{128}, 10) }

// cat is parts one behind the other.
func cat(parts ...[]byte) []byte { return slices.Concat(parts...) }

// value is a pair, the value that is taken by it, and that one's bytes.
type value struct {
	pair api.Spec
	x    api.Raw
	b    []byte
}

// val makes a value of an attribute by its form.
func val(at int, x api.Raw, b []byte) value {
	v := value{api.Spec{At: at, Form: x.Form}, x, b}
	if x.Form == implicit {
		v.pair.Implicit = x.S
	}
	return v
}

// values are values of all kinds of forms, the attributes numbered from 1 on. Two of them
// have bytes that hang on the way.
func values(wide bool) []value {
	size := 4
	if wide {
		size = 8
	}
	l := []value{
		val(0, api.Raw{Form: 1, U: 0x0807060504030201}, fixed(0x0807060504030201, 8)),
		val(0, api.Raw{Form: 3, B: []byte{7, 8, 9}}, []byte{3, 0, 7, 8, 9}),
		val(0, api.Raw{Form: 4, B: []byte{6}}, []byte{1, 0, 0, 0, 6}),
		val(0, api.Raw{Form: 5, U: 513}, []byte{1, 2}),
		val(0, api.Raw{Form: 8, Text: "ab c"}, []byte("ab c\x00")),
		val(0, api.Raw{Form: 9, B: bytes.Repeat([]byte{5}, 130)}, cat(u(130), bytes.Repeat([]byte{5}, 130))),
		val(0, api.Raw{Form: 10, B: []byte{1, 2}}, []byte{2, 1, 2}),
		val(0, api.Raw{Form: 11, U: 200}, []byte{200}),
		val(0, api.Raw{Form: 12, U: 1}, []byte{1}),
		val(0, api.Raw{Form: 13, S: -300}, s(-300)),
		val(0, api.Raw{Form: 14, U: 0x04030201}, fixed(0x04030201, size)),
		val(0, api.Raw{Form: 15, U: 624485}, u(624485)),
		val(0, api.Raw{Form: 19, U: 99}, fixed(99, 4)),
		val(0, api.Raw{Form: 23, U: 1<<(8*size-1) + 5}, fixed(1<<(8*size-1)+5, size)),
		val(0, api.Raw{Form: 24, B: []byte{0x91, 0x7f}}, []byte{2, 0x91, 0x7f}),
		val(0, api.Raw{Form: 25, U: 1}, nil),
		val(0, api.Raw{Form: 30, B: bytes.Repeat([]byte{3}, 16)}, bytes.Repeat([]byte{3}, 16)),
		val(0, api.Raw{Form: 32, U: top - 1}, fixed(top-1, 8)),
		val(0, api.Raw{Form: implicit, S: -7}, nil),
		val(0, api.Raw{Form: 39, U: 0x030201}, []byte{1, 2, 3}),
	}
	for i := range l {
		l[i].pair.At = i + 1
	}
	return l
}

// tree is an entry and those below it.
type tree struct {
	code uint64
	tag  int
	may  bool // children may follow
	vals []value
	kids []tree
}

// leaf is an entry below which none may stand.
func leaf(code uint64, vals ...value) tree {
	return tree{code: code, tag: int(code%500) + 16, vals: vals}
}

// over is an entry, of another code than a leaf, with those below it.
func over(code uint64, kids ...tree) tree {
	return tree{code: code, tag: int(code%500) + 16, may: true, kids: kids}
}

// nested is entries one below the other; the last one has that depth.
func nested(depth int) tree {
	t := over(2)
	for range depth {
		t = over(2, t)
	}
	return t
}

// flat is a root and so many entries below it.
func flat(count int) tree {
	return over(2, slices.Repeat([]tree{leaf(1)}, count)...)
}

// abbrev is an entry's abbreviation.
func (t tree) abbrev() api.Abbrev {
	a := api.Abbrev{Code: t.code, Tag: t.tag, Kids: t.may}
	for _, v := range t.vals {
		a.Specs = append(a.Specs, v.pair)
	}
	return a
}

// table is the abbreviations of all entries of a tree, those of the last ones first.
func (t tree) table() []api.Abbrev {
	var l []api.Abbrev
	for _, k := range slices.Backward(t.kids) {
		l = append(l, k.table()...)
	}
	l = append(l, t.abbrev())
	met := map[uint64]bool{}
	return slices.DeleteFunc(l, func(a api.Abbrev) bool {
		was := met[a.Code]
		met[a.Code] = true
		return was
	})
}

// laid is bytes, and the entries that they have.
type laid struct {
	b []byte
	l []die.Entry
}

// lay puts a tree behind what is laid, as the chapter has it.
func (d *laid) lay(t tree, parent, depth int) {
	e := die.Entry{Off: uint64(len(d.b)), Code: t.code, Tag: t.tag, Parent: parent, Depth: depth}
	at := len(d.l)
	d.b = append(d.b, u(t.code)...)
	for _, v := range t.vals {
		e.Attrs = append(e.Attrs, die.Attr{At: v.pair.At, Val: v.x})
		d.b = append(d.b, v.b...)
	}
	d.l = append(d.l, e)
	for _, k := range t.kids {
		d.lay(k, at, depth+1)
	}
	if t.may {
		d.b = append(d.b, 0)
	}
}

// bytes is a tree's bytes.
func (t tree) bytes() []byte {
	var d laid
	d.lay(t, -1, 0)
	return d.b
}

// entries is a tree's entries, the first of which begins so far from the front.
func (t tree) entries(from uint64) []die.Entry {
	var d laid
	d.lay(t, -1, 0)
	for i := range d.l {
		d.l[i].Off += from
	}
	return d.l
}

// forest is trees of several shapes.
func forest(wide bool) map[string]tree {
	all := leaf(9, values(wide)...)
	full := tree{code: 300, tag: 65535, may: true, vals: values(wide), kids: []tree{all, leaf(1), all}}
	few := leaf(7, values(wide)[:3]...)
	return map[string]tree{
		"a root alone":                    leaf(1),
		"a root with values":              all,
		"a root without children":         over(2),
		"a root with a child":             over(2, leaf(1)),
		"a root with children":            over(2, leaf(1), few, all),
		"a child without children":        over(2, over(3)),
		"children without children":       over(2, over(3), over(3), over(3)),
		"a grandchild":                    over(2, over(3, leaf(1))),
		"siblings of a parent, behind":    over(2, over(3, leaf(1), few), leaf(1)),
		"siblings of a parent, ahead":     over(2, leaf(1), over(3, few)),
		"two parents":                     over(2, over(3, leaf(1), leaf(1)), over(4, few)),
		"two ends and a sibling":          over(2, over(3, over(4, leaf(1))), few),
		"values everywhere":               full,
		"values everywhere, and deep":     over(2, over(3, over(4, full, over(5)), full), leaf(1)),
		"one below the other":             nested(10),
		"as deep as may be":               nested(deepest),
		"as deep as may be, and siblings": over(2, nested(deepest-1), nested(3), leaf(1), nested(deepest-1)),
		"many":                            flat(300),
		"great codes":                     over(top, leaf(1<<32), over(1<<63, leaf(128, values(wide)[0])), leaf(127)),
	}
}

// same tells whether entries are the same; lists without an element may be nil or empty.
func same(a, b []die.Entry) bool {
	return slices.EqualFunc(a, b, func(x, y die.Entry) bool {
		return x.Off == y.Off && x.Code == y.Code && x.Tag == y.Tag && x.Parent == y.Parent && x.Depth == y.Depth && slices.EqualFunc(x.Attrs, y.Attrs, sameAttr)
	})
}

func sameAttr(a, b die.Attr) bool { return a.At == b.At && sameRaw(a.Val, b.Val) }

func sameRaw(a, b api.Raw) bool {
	return a.Form == b.Form && a.U == b.U && a.S == b.S && string(a.B) == string(b.B) && a.Text == b.Text
}

// short tells so much of bytes as can be read.
func short(b []byte) string { return fmt.Sprintf("%.60x of %d", b, len(b)) }

// show tells so many entries as can be read.
func show(l []die.Entry) string {
	return fmt.Sprintf("%d of %.600s", len(l), fmt.Sprintf("%+v", l[:min(len(l), 6)]))
}

// room is a list with others in the room behind it.
func room[T any](l []T, others ...T) []T { return slices.Concat(l, others)[:len(l)] }

// whole is a copy of a list with its spare room.
func whole[T any](l []T) []T { return slices.Clone(l[:cap(l)]) }

// wipe overwrites all of the memory of entries, their lists' spare room, too.
func wipe(l []die.Entry) {
	for _, e := range l {
		attrs := e.Attrs[:cap(e.Attrs)]
		for i, x := range attrs {
			b := x.Val.B[:cap(x.Val.B)]
			for j := range b {
				b[j] = 0xbd
			}
			attrs[i] = die.Attr{At: -5, Val: api.Raw{Form: -5, U: 5, S: 5, Text: "bad"}}
		}
	}
	clear(l[:cap(l)])
}

// tell tells a table, with its lists' spare room.
func tell(table []api.Abbrev) string {
	var b strings.Builder
	for _, a := range table[:cap(table)] {
		fmt.Fprintln(&b, a.Code, a.Tag, a.Kids, len(a.Specs), a.Specs[:cap(a.Specs)])
	}
	return b.String()
}

// taking is what Take is handed.
type taking struct {
	section []byte
	h       unit.Head
	table   []api.Abbrev
}

// in is a unit's entries in a section with other bytes ahead of them and behind them.
func in(ahead, b, behind []byte, table []api.Abbrev, wide bool) taking {
	h := unit.Head{Kind: 1, Wide: wide, First: uint64(len(ahead)), End: uint64(len(ahead) + len(b))}
	return taking{cat(ahead, b, behind), h, table}
}

// ways are ways to hand the same in: with nothing behind, with bytes in the room behind
// the section and abbreviations in that behind the table, and with a head whose other
// numbers are others.
func (x taking) ways() []taking {
	y, z := x, x
	y.section = room(x.section, 1, 0, 0, 0, 0, 0, 0, 0, 0, 0, 0, 0)
	y.table = room(slices.Clone(x.table), over(1, leaf(77)).table()...)
	for i := range y.table {
		y.table[i].Specs = room(y.table[i].Specs, api.Spec{At: 78, Form: 11}, api.Spec{})
	}
	z.h.Kind, z.h.Abbrev, z.h.Sig, z.h.Type, z.h.Off = 77, top, top, top, top
	return []taking{x, y, z}
}

// wantTake looks at which entries are taken, that what is handed in is left, and that what
// is answered is new memory.
func wantTake(t *testing.T, what string, x taking, want []die.Entry) {
	t.Helper()
	for _, w := range x.ways() {
		section, table := whole(w.section), tell(w.table)
		l, e := die.Take(w.section, w.h, w.table)
		if !same(l, want) || e != api.OK {
			t.Errorf("%s: Take(%s, %+v) = %s, %d, want %s, 0", what, short(w.section), w.h, show(l), e, show(want))
			return
		}
		for i := range l { // what is done with one entry is nothing to those behind it
			wipe(l[i : i+1 : i+1])
			if n := i + 1; n < len(l) && !same(l[n:min(n+2, len(l))], want[n:min(n+2, len(l))]) {
				t.Errorf("%s: entries %d and %d share memory", what, i, n)
			}
		}
		wipe(l)
		if !bytes.Equal(whole(w.section), section) || tell(w.table) != table {
			t.Errorf("%s: what was handed in is changed", what)
		}
		if l, e := die.Take(w.section, w.h, w.table); !same(l, want) || e != api.OK {
			t.Errorf("%s: Take, once more, = %s, %d, want %s, 0", what, show(l), e, show(want))
		}
	}
}

// wantRefused looks that a unit's entries are refused, and what is handed in left.
func wantRefused(t *testing.T, what string, x taking, want api.Errno) {
	t.Helper()
	for _, w := range x.ways() {
		section, table := whole(w.section), tell(w.table)
		if l, e := die.Take(w.section, w.h, w.table); len(l) != 0 || e != want {
			t.Errorf("%s: Take(%s, %+v) = %s, %d, want none, %d", what, short(w.section), w.h, show(l), e, want)
		}
		if !bytes.Equal(whole(w.section), section) || tell(w.table) != table {
			t.Errorf("%s: what was handed in is changed", what)
		}
	}
}

// abbrevs is a table of a leaf 1 without a value, of a parent 2, and of those given.
func abbrevs(others ...tree) []api.Abbrev {
	return over(2, append(others, leaf(1))...).table()
}

// around are bytes that may stand ahead of a unit's entries, and behind their end.
func around() [][2][]byte {
	return [][2][]byte{
		{nil, nil},
		{bytes.Repeat([]byte{255}, 12), nil},
		{nil, []byte{0, 1, 0}},
		{make([]byte, 300), bytes.Repeat([]byte{200}, 300)},
		{{1}, {0}},
	}
}

// wantTree looks that a tree's bytes are taken as its entries, wherever they stand and
// however many bytes 0 are behind them.
func wantTree(t *testing.T, what string, x tree, wide bool) {
	t.Helper()
	for _, a := range around() {
		for _, size := range []int{0, 1, 2, 30} {
			b := cat(x.bytes(), make([]byte, size))
			wantTake(t, fmt.Sprintf("%s, wide %v, %d bytes 0", what, wide, size), in(a[0], b, a[1], x.table(), wide), x.entries(uint64(len(a[0]))))
		}
	}
}

// wantBytes looks that bytes of entries are refused, wherever they stand.
func wantBytes(t *testing.T, what string, b []byte, table []api.Abbrev, wide bool, e api.Errno) {
	t.Helper()
	for _, a := range around() {
		wantRefused(t, fmt.Sprintf("%s, wide %v", what, wide), in(a[0], b, a[1], table, wide), e)
	}
}

// The chapter's example.
func TestExample(t *testing.T) {
	table := []api.Abbrev{{Code: 1, Tag: 17, Kids: true, Specs: []api.Spec{{At: 3, Form: 11}}}, {Code: 2, Tag: 52}}
	l := []die.Entry{{Code: 1, Tag: 17, Parent: -1, Attrs: []die.Attr{{At: 3, Val: api.Raw{Form: 11, U: 7}}}}, {Off: 2, Code: 2, Tag: 52, Depth: 1}}
	b := []byte{1, 7, 2, 0}
	for _, wide := range both {
		wantTake(t, "the example", in(nil, b, nil, table, wide), l)
		wantPut(t, "the example", putting{l, table, wide}, b)
	}
	for i, e := range l {
		if at := die.Find(l, e.Off); at != i {
			t.Errorf("Find(%d) = %d, want %d", e.Off, at, i)
		}
	}
	if x, ok := die.Get(l[0], 3); x.U != 7 || !ok {
		t.Errorf("Get = %+v, %v", x, ok)
	}
}

// The tests' own bytes are right, so that a fault in them hides none.
func TestLay(t *testing.T) {
	x := over(2, over(300, leaf(1, values(false)[3])), over(3), leaf(1, values(false)[3]))
	if got := fmt.Sprintf("%x", x.bytes()); got != "02"+"ac02"+"010102"+"00"+"03"+"00"+"010102"+"00" {
		t.Errorf("bytes: %s", got)
	}
	places := [][3]int{{10, -1, 0}, {11, 0, 1}, {13, 1, 2}, {17, 0, 1}, {19, 0, 1}}
	for i, e := range x.entries(10) {
		if got := [3]int{int(e.Off), e.Parent, e.Depth}; got != places[i] {
			t.Errorf("entry %d: %v, want %v", i, got, places[i])
		}
	}
	if got := tell(slices.Clip(x.table())); got != "1 17 false 1 [{4 5 0}]\n3 19 true 0 []\n300 316 true 0 []\n2 18 true 0 []\n" {
		t.Errorf("table: %s", got)
	}
	if l := nested(deepest).entries(0); len(l) != deepest+1 || l[deepest].Depth != deepest {
		t.Errorf("nested: %s", show(l))
	}
}
