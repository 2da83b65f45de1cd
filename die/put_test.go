package die_test

import (
	"bytes"
	"fmt"
	"slices"
	"testing"

	"sindri/api"
	"sindri/die"
)

// P17.2

// putting is what Put is handed.
type putting struct {
	l     []die.Entry
	table []api.Abbrev
	wide  bool
}

// of is a tree's entries to be put by its table.
func of(x tree, wide bool) putting { return putting{x.entries(0), x.table(), wide} }

// copied is the same with memory of its own.
func (x putting) copied() putting {
	x.l = slices.Clone(x.l)
	for i := range x.l {
		x.l[i].Attrs = slices.Clone(x.l[i].Attrs)
	}
	x.table = slices.Clone(x.table)
	for i := range x.table {
		x.table[i].Specs = slices.Clone(x.table[i].Specs)
	}
	return x
}

// roomy is the same with more in the rooms behind the lists.
func (x putting) roomy() putting {
	x = x.copied()
	x.l = room(x.l, leaf(1).entries(0)...)
	for i := range x.l {
		attrs := room(x.l[i].Attrs, die.Attr{At: 99, Val: api.Raw{Form: 11, U: 5}})
		for j, a := range attrs {
			attrs[j].Val.B = room(a.Val.B, 91, 92)
		}
		x.l[i].Attrs = attrs
	}
	x.table = room(x.table, leaf(77).abbrev())
	return x
}

// elsewhere is the same with other places and parents, which do not count.
func (x putting) elsewhere() putting {
	x = x.copied()
	offs := []uint64{top, 0, 1, 1 << 63, 7}
	parents := []int{-1 << 63, 1<<63 - 1, 0, -1, 5}
	for i := range x.l {
		x.l[i].Off = offs[i%len(offs)]
		x.l[i].Parent = parents[i%len(parents)]
	}
	return x
}

// tellAll tells all that is handed in, with its lists' spare room.
func (x putting) tellAll() string {
	var b bytes.Buffer
	for _, e := range x.l[:cap(x.l)] {
		fmt.Fprintln(&b, e.Off, e.Code, e.Tag, e.Parent, e.Depth, len(e.Attrs))
		for _, a := range e.Attrs[:cap(e.Attrs)] {
			fmt.Fprintln(&b, a, len(a.Val.B), a.Val.B[:cap(a.Val.B)])
		}
	}
	return b.String() + tell(x.table)
}

// wantPut looks at what is put, that what is handed in is left, and that what is answered
// is new memory.
func wantPut(t *testing.T, what string, x putting, want []byte) {
	t.Helper()
	for _, y := range []putting{x, x.roomy(), x.elsewhere()} {
		before := y.tellAll()
		b, e := die.Put(y.l, y.table, y.wide)
		if !bytes.Equal(b, want) || e != api.OK {
			t.Errorf("%s, wide %v: Put(%s) = %s, %d, want %s, 0", what, y.wide, show(y.l), short(b), e, short(want))
			return
		}
		clear(b[:cap(b)])
		if y.tellAll() != before {
			t.Errorf("%s, wide %v: what was handed in is changed", what, y.wide)
		}
		if b, e := die.Put(y.l, y.table, y.wide); !bytes.Equal(b, want) || e != api.OK {
			t.Errorf("%s, wide %v: Put, once more, = %s, %d, want %s, 0", what, y.wide, short(b), e, short(want))
		}
	}
}

// wantWrong looks that entries are not put, and left.
func wantWrong(t *testing.T, what string, x putting) {
	t.Helper()
	for _, y := range []putting{x, x.roomy(), x.elsewhere()} {
		before := y.tellAll()
		if b, e := die.Put(y.l, y.table, y.wide); len(b) != 0 || e != api.ErrArg {
			t.Errorf("%s, wide %v: Put(%s) = %s, %d, want none, %d", what, y.wide, show(y.l), short(b), e, api.ErrArg)
		}
		if y.tellAll() != before {
			t.Errorf("%s, wide %v: what was handed in is changed", what, y.wide)
		}
	}
}

// changed is the same with one entry changed.
func (x putting) changed(i int, change func(e *die.Entry)) putting {
	x = x.copied()
	change(&x.l[i])
	return x
}

func TestPut(t *testing.T) {
	for _, wide := range both {
		for what, x := range forest(wide) {
			wantPut(t, what, of(x, wide), x.bytes())
		}
	}
}

// The ends are put of entries of which it is known where they stand.
func TestPutEnds(t *testing.T) {
	for _, x := range []struct {
		codes  []uint64 // 1: none may stand below it
		depths []int
		want   []byte
	}{
		{[]uint64{1}, []int{0}, []byte{1}},
		{[]uint64{2}, []int{0}, []byte{2, 0}},
		{[]uint64{2, 1}, []int{0, 1}, []byte{2, 1, 0}},
		{[]uint64{2, 2}, []int{0, 1}, []byte{2, 2, 0, 0}},
		{[]uint64{2, 2, 2}, []int{0, 1, 1}, []byte{2, 2, 0, 2, 0, 0}},
		{[]uint64{2, 2, 2}, []int{0, 1, 2}, []byte{2, 2, 2, 0, 0, 0}},
		{[]uint64{2, 2, 2, 1}, []int{0, 1, 2, 1}, []byte{2, 2, 2, 0, 0, 1, 0}},
		{[]uint64{2, 2, 1, 1}, []int{0, 1, 2, 1}, []byte{2, 2, 1, 0, 1, 0}},
		{[]uint64{2, 2, 2, 1, 1, 2}, []int{0, 1, 2, 3, 1, 1}, []byte{2, 2, 2, 1, 0, 0, 1, 2, 0, 0}},
	} {
		var l []die.Entry
		for i, code := range x.codes {
			l = append(l, die.Entry{Code: code, Tag: int(code) + 16, Depth: x.depths[i]})
		}
		wantPut(t, fmt.Sprintf("codes %v, depths %v", x.codes, x.depths), putting{l, abbrevs(), false}, x.want)
	}
}

func TestPutOfHowMany(t *testing.T) {
	wantWrong(t, "none", putting{nil, abbrevs(), false})
	wantWrong(t, "none", putting{[]die.Entry{}, abbrevs(), true})
	wantWrong(t, "none, and no table", putting{})
	for _, count := range []int{most - 2, most - 1} {
		wantPut(t, fmt.Sprintf("%d and a root", count), of(flat(count), false), flat(count).bytes())
	}
	for _, count := range []int{most, most + 1, 3 * most} {
		wantWrong(t, fmt.Sprintf("%d and a root", count), of(flat(count), false))
	}
}

// family is a root with values, a parent with one child that has values, and a leaf.
func family(wide bool) tree {
	l := values(wide)
	root := tree{code: 8, tag: 17, may: true, vals: l, kids: []tree{over(2, leaf(9, l...)), leaf(1)}}
	return root
}

// each is the places in a family that have values.
var each = []int{0, 2}

func TestPutOfWrongCodes(t *testing.T) {
	x := of(family(false), false)
	for i := range x.l {
		for _, code := range []uint64{0, 3, 10, 127, 1<<32 + x.l[i].Code, top} {
			wantWrong(t, fmt.Sprintf("entry %d has code %d", i, code), x.changed(i, func(e *die.Entry) { e.Code = code }))
		}
		y := x.copied()
		y.table = slices.DeleteFunc(y.table, func(a api.Abbrev) bool { return a.Code == x.l[i].Code })
		wantWrong(t, fmt.Sprintf("the abbreviation of entry %d is not there", i), y)
	}
	wantWrong(t, "no table", putting{x.l, nil, false})
	for _, code := range []uint64{0, 3, top} { // nothing but the code is wrong of it
		wantWrong(t, "neither abbreviation nor tag", putting{[]die.Entry{{Code: code}}, abbrevs(), false})
		below := over(2).entries(0)
		wantWrong(t, "neither abbreviation nor tag, below", putting{append(below, die.Entry{Code: code, Depth: 1}), abbrevs(), false})
	}
}

// By an abbreviation of code 0 an entry of code 0 is put.
func TestPutOfCode0(t *testing.T) {
	x := over(2, tree{tag: 16, vals: values(false)[:2]}, leaf(1))
	wantPut(t, "code 0", of(x, false), x.bytes())
	x = tree{tag: 16, may: true, kids: []tree{leaf(1)}}
	wantPut(t, "code 0 as root", of(x, false), x.bytes())
}

func TestPutOfWrongTags(t *testing.T) {
	x := of(family(false), false)
	for i := range x.l {
		for _, tag := range []int{0, 1, x.l[i].Tag + 1, x.l[i].Tag - 1, -x.l[i].Tag, x.l[i].Tag + 1<<16, x.l[i].Tag + 1<<32, -1 << 63} {
			wantWrong(t, fmt.Sprintf("entry %d has tag %d", i, tag), x.changed(i, func(e *die.Entry) { e.Tag = tag }))
		}
	}
}

func TestPutOfWrongAttributes(t *testing.T) {
	for _, wide := range both {
		x := of(family(wide), wide)
		for _, i := range each {
			count := len(x.l[i].Attrs)
			for j := range count {
				what := fmt.Sprintf("entry %d, attribute %d", i, j)
				number := x.l[i].Attrs[j].At
				for _, at := range []int{0, number + 1, number - 1, -number, number + 1<<16, number + 1<<32} {
					wantWrong(t, fmt.Sprintf("%s has number %d", what, at), x.changed(i, func(e *die.Entry) { e.Attrs[j].At = at }))
				}
				wantWrong(t, what+" is left out", x.changed(i, func(e *die.Entry) { e.Attrs = slices.Delete(e.Attrs, j, j+1) }))
				wantWrong(t, what+" stands twice", x.changed(i, func(e *die.Entry) { e.Attrs = slices.Insert(e.Attrs, j, e.Attrs[j]) }))
				if j > 0 {
					wantWrong(t, what+" stands ahead", x.changed(i, func(e *die.Entry) { e.Attrs[j], e.Attrs[j-1] = e.Attrs[j-1], e.Attrs[j] }))
				}
			}
			wantWrong(t, "no attributes", x.changed(i, func(e *die.Entry) { e.Attrs = nil }))
			wantWrong(t, "one more", x.changed(i, func(e *die.Entry) { e.Attrs = append(e.Attrs, die.Attr{At: 99, Val: api.Raw{Form: 25, U: 1}}) }))
		}
		wantWrong(t, "one of none", x.changed(3, func(e *die.Entry) { e.Attrs = []die.Attr{{At: 1, Val: api.Raw{Form: 25, U: 1}}} }))
	}
}

// A value of another form is wrong, though it may be and has the same bytes.
func TestPutOfWrongForms(t *testing.T) {
	for _, wide := range both {
		x := of(family(wide), wide)
		for _, i := range each {
			for j := range x.l[i].Attrs {
				for k, v := range values(wide) {
					if j != k {
						wantWrong(t, fmt.Sprintf("value %d as %d", j, k), x.changed(i, func(e *die.Entry) { e.Attrs[j].Val = v.x }))
					}
				}
				for _, form := range []int{0, 2, indirect, 45, -1, 1 << 32} {
					wantWrong(t, fmt.Sprintf("value %d of form %d", j, form), x.changed(i, func(e *die.Entry) { e.Attrs[j].Val.Form = form }))
				}
			}
		}
	}
	for _, forms := range [][2]int{{11, 17}, {14, 31}, {14, 23}, {9, 24}, {13, implicit}, {34, 35}, {7, 32}, {26, 27}} {
		y := leaf(4, value{api.Spec{At: 3, Form: forms[0]}, api.Raw{Form: forms[1]}, nil})
		wantWrong(t, fmt.Sprintf("form %d as %d", forms[1], forms[0]), of(y, false))
		y = leaf(4, value{api.Spec{At: 3, Form: forms[1]}, api.Raw{Form: forms[0]}, nil})
		wantWrong(t, fmt.Sprintf("form %d as %d", forms[0], forms[1]), of(y, false))
	}
}

// By an abbreviation with form 22 nothing is put, nor by one with another form of no kind.
func TestPutOfForm22(t *testing.T) {
	for _, form := range []int{indirect, 0, 2, 36, 45, -1, 65535, 1 << 40} {
		for _, x := range []api.Raw{{Form: form}, {Form: form, U: 11}, {Form: 11}, {Form: 25, U: 1}, {Form: implicit}, {}} {
			y := leaf(4, value{api.Spec{At: 3, Form: form}, x, nil})
			for _, wide := range both {
				wantWrong(t, fmt.Sprintf("form %d as %d", x.Form, form), of(y, wide))
				wantWrong(t, fmt.Sprintf("form %d as %d, below", x.Form, form), of(over(2, leaf(1), y), wide))
			}
		}
	}
}

// Of form 33 the number is the abbreviation's; of others that one does not count.
func TestPutOfImplicitNumbers(t *testing.T) {
	for _, n := range []int64{0, 1, -1, 7, -7, 1 << 32, 1<<63 - 1, -1 << 63} {
		for _, m := range []int64{0, 1, -1, 7, -7, 1 << 32, 1<<63 - 1, -1 << 63} {
			x := leaf(4, value{api.Spec{At: 3, Form: implicit, Implicit: n}, api.Raw{Form: implicit, S: m}, nil})
			what := fmt.Sprintf("%d by %d", m, n)
			if n == m {
				wantPut(t, what, of(x, false), []byte{4})
			} else {
				wantWrong(t, what, of(x, true))
				wantWrong(t, what+", below", of(over(2, x), true))
			}
		}
		other := leaf(4, value{api.Spec{At: 3, Form: 13, Implicit: n}, api.Raw{Form: 13, S: 5}, []byte{5}})
		wantPut(t, "form 13", of(other, false), []byte{4, 5})
	}
}

func TestPutOfWrongValues(t *testing.T) {
	for _, x := range []api.Raw{
		{Form: 11, U: 256}, {Form: 5, U: 65536}, {Form: 6, U: 1 << 32}, {Form: 39, U: 1 << 24}, {Form: 12, U: 256},
		{Form: 25}, {Form: 25, U: 2},
		{Form: 8, Text: "a\x00b"}, {Form: 8, Text: string(bytes.Repeat([]byte{'x'}, longest+1))},
		{Form: 10, B: make([]byte, 256)}, {Form: 9, B: make([]byte, mostBytes+1)}, {Form: 24, B: make([]byte, mostBytes+1)}, {Form: 30, B: make([]byte, 15)},
		{Form: 11, S: 1}, {Form: 11, B: []byte{1}}, {Form: 11, Text: "a"}, {Form: 13, U: 1}, {Form: implicit, U: 1}, {Form: 8, U: 1}, {Form: 10, U: 1},
	} {
		v := value{pair: api.Spec{At: 3, Form: x.Form}, x: x}
		ok := values(false)[7]
		for _, wide := range both {
			for _, y := range []tree{leaf(4, v), leaf(4, ok, v), leaf(4, v, ok), over(2, leaf(1), leaf(4, v)), over(2, over(2, leaf(4, ok, v)), leaf(1))} {
				wantWrong(t, fmt.Sprintf("form %d", x.Form), of(y, wide))
			}
		}
	}
}

// An offset of more than four bytes may be if it is wide.
func TestPutOfWideValues(t *testing.T) {
	for _, form := range []int{14, 16, 23, 31} {
		for _, n := range []uint64{0, 1, 1<<32 - 1, 1 << 32, top} {
			x := leaf(4, val(3, api.Raw{Form: form, U: n}, nil))
			what := fmt.Sprintf("form %d, %d", form, n)
			wantPut(t, what, of(x, true), cat([]byte{4}, fixed(n, 8)))
			if n < 1<<32 {
				wantPut(t, what, of(x, false), cat([]byte{4}, fixed(n, 4)))
			} else {
				wantWrong(t, what, of(x, false))
			}
		}
	}
}

func TestPutOfTheFirstDepth(t *testing.T) {
	for _, y := range []tree{leaf(1), over(2), over(2, leaf(1)), nested(5)} {
		for _, depth := range []int{1, -1, 2, 40, 1<<63 - 1, -1 << 63} {
			wantWrong(t, fmt.Sprintf("depth %d", depth), of(y, false).changed(0, func(e *die.Entry) { e.Depth = depth }))
		}
		x := of(y, false)
		for i := range x.l {
			x.l[i].Depth++
		}
		wantWrong(t, "all are deeper", x)
	}
}

// run is parents of these depths.
func run(depths ...int) putting {
	var l []die.Entry
	for _, depth := range depths {
		l = append(l, die.Entry{Code: 2, Tag: 18, Depth: depth})
	}
	return putting{l, abbrevs(), false}
}

func TestPutOfFurtherDepths(t *testing.T) {
	for ahead := range 6 {
		var depths []int
		for depth := range ahead + 1 {
			depths = append(depths, depth)
		}
		for depth := 1; depth <= ahead+1; depth++ {
			want := bytes.Repeat([]byte{2}, ahead+1)
			want = cat(want, make([]byte, ahead+1-depth), []byte{2}, make([]byte, depth+1))
			wantPut(t, fmt.Sprintf("%v, and %d", depths, depth), run(append(depths, depth)...), want)
		}
		for _, depth := range []int{0, -1, -2, -ahead - 1, ahead + 2, ahead + 3, 40, 1 << 32, 1<<63 - 1, -1 << 63} {
			wantWrong(t, fmt.Sprintf("%v, and %d", depths, depth), run(append(depths, depth)...))
			wantWrong(t, fmt.Sprintf("%v, %d, and 1", depths, depth), run(append(depths, depth, 1)...))
		}
	}
	wantWrong(t, "two roots", run(0, 0))
	wantWrong(t, "two more than a lesser one", run(0, 1, 2, 1, 3))
	wantPut(t, "one more than a lesser one", run(0, 1, 2, 1, 2), []byte{2, 2, 2, 0, 0, 2, 2, 0, 0, 0})
}

// Below an entry whose abbreviation has no children none stands, beside it some may.
func TestPutBelowALeaf(t *testing.T) {
	for _, x := range []struct {
		depths []int // the last but one is the leaf's
		want   []byte
	}{
		{[]int{0, 1}, nil},
		{[]int{0, 1, 2}, nil}, {[]int{0, 1, 1}, []byte{2, 1, 2, 0, 0}},
		{[]int{0, 1, 2, 3}, nil}, {[]int{0, 1, 2, 2}, []byte{2, 2, 1, 2, 0, 0, 0}}, {[]int{0, 1, 2, 1}, []byte{2, 2, 1, 0, 2, 0, 0}},
		{[]int{0, 1, 1, 2}, nil}, {[]int{0, 1, 1, 1}, []byte{2, 2, 0, 1, 2, 0, 0}},
	} {
		y := run(x.depths...)
		i := len(y.l) - 2
		y.l[i].Code, y.l[i].Tag = 1, 17
		what := fmt.Sprintf("depths %v", x.depths)
		if x.want == nil {
			wantWrong(t, what, y)
		} else {
			wantPut(t, what, y, x.want)
		}
	}
}

// How deep entries may be when they are put, no limit says but how many there are.
func TestPutOfGreatDepths(t *testing.T) {
	for _, depth := range []int{deepest, deepest + 1, 100, most - 1} {
		x := nested(depth)
		wantPut(t, fmt.Sprintf("depth %d", depth), of(x, false), x.bytes())
	}
}

// Of abbreviations of one code the first one counts.
func TestPutOfOtherTables(t *testing.T) {
	one, two := leaf(6, values(false)[7]), leaf(6, values(false)[3])
	table := []api.Abbrev{one.abbrev(), two.abbrev()}
	wantPut(t, "the first", putting{one.entries(0), table, false}, one.bytes())
	wantWrong(t, "the second", putting{two.entries(0), table, false})
	slices.Reverse(table)
	wantPut(t, "the first", putting{two.entries(0), table, false}, two.bytes())
	wantWrong(t, "the second", putting{one.entries(0), table, false})
	odd := leaf(6, val(-3, api.Raw{Form: 11, U: 1}, []byte{1}), val(-3, api.Raw{Form: 11, U: 3}, []byte{3}))
	odd.tag = -1
	wantPut(t, "odd numbers", of(odd, false), []byte{6, 1, 3})
}
