package die_test

import (
	"bytes"
	"fmt"
	"slices"
	"strings"
	"testing"

	"sindri/api"
	"sindri/die"
	"sindri/unit"
)

// P17.1

func TestTake(t *testing.T) {
	for _, wide := range both {
		for what, x := range forest(wide) {
			wantTree(t, what, x, wide)
		}
	}
}

// Each entry's numbers are told of entries of which it is known where they stand.
func TestTakeTellsPlaces(t *testing.T) {
	table := []api.Abbrev{
		{Code: 200, Tag: 5, Kids: true, Specs: []api.Spec{{At: 3, Form: 8}, {At: 9, Form: 25}}},
		{Code: 3, Tag: 65535, Kids: true},
		{Code: 1, Tag: 1, Specs: []api.Spec{{At: 7, Form: 5}}},
	}
	b := []byte{
		200, 1, 'a', 'b', 0, // 4: the root
		3,       // 9: below it
		1, 9, 0, // 10: below that
		3,       // 13: beside it
		1, 8, 1, // 14: below that
		0,       // the end of 13
		1, 7, 0, // 18: below 9
		0,       // the end of 9
		3,       // 22: below the root
		0,       // its end
		1, 6, 0, // 24: below the root
		0, // the root's end
		0, 0,
	}
	number := func(n uint64) []die.Attr { return []die.Attr{{At: 7, Val: api.Raw{Form: 5, U: n}}} }
	want := []die.Entry{
		{Off: 4, Code: 200, Tag: 5, Parent: -1, Attrs: []die.Attr{{At: 3, Val: api.Raw{Form: 8, Text: "ab"}}, {At: 9, Val: api.Raw{Form: 25, U: 1}}}},
		{Off: 9, Code: 3, Tag: 65535, Parent: 0, Depth: 1},
		{Off: 10, Code: 1, Tag: 1, Parent: 1, Depth: 2, Attrs: number(9)},
		{Off: 13, Code: 3, Tag: 65535, Parent: 1, Depth: 2},
		{Off: 14, Code: 1, Tag: 1, Parent: 3, Depth: 3, Attrs: number(264)},
		{Off: 18, Code: 1, Tag: 1, Parent: 1, Depth: 2, Attrs: number(7)},
		{Off: 22, Code: 3, Tag: 65535, Parent: 0, Depth: 1},
		{Off: 24, Code: 1, Tag: 1, Parent: 0, Depth: 1, Attrs: number(6)},
	}
	wantTake(t, "places", in([]byte{9, 9, 9, 9}, b, []byte{1, 1}, table, false), want)
}

// Which numbers First and End are of is looked at ahead of all bytes.
func TestTakeOfPlacesOutsideTheSection(t *testing.T) {
	good := cat([]byte{0, 0, 0}, over(2, leaf(1)).bytes())
	wrong := cat([]byte{0, 0, 0}, []byte{99, 128, 128})
	for _, section := range [][]byte{nil, {}, good, wrong} {
		size := uint64(len(section))
		for _, x := range [][2]uint64{
			{0, size + 1}, {3, size + 1}, {size, size + 1}, {size + 1, size + 1}, {size + 1, size}, {size + 1, 0}, {size + 1, 3},
			{1, 0}, {4, 3}, {size + 5, size + 4}, {size + 4, size + 5},
			{0, 1 << 31}, {0, 1 << 32}, {3, 1<<32 + size}, {1 << 32, size}, {1<<32 + 3, 1<<32 + size}, {0, 1 << 63}, {3, 1<<63 + size}, {1<<63 + 3, size},
			{0, top}, {3, top}, {size, top}, {top, top}, {top, 0}, {top, size}, {top, 3}, {top - 1, top}, {top, top - 1}, {top - size, size}, {top - 3, 4},
		} {
			for _, table := range [][]api.Abbrev{nil, abbrevs()} {
				h := unit.Head{Kind: 1, First: x[0], End: x[1]}
				wantRefused(t, "not in the section", taking{section, h, table}, api.ErrArg)
			}
		}
	}
	for first := range uint64(12) {
		for end := range first {
			wantRefused(t, "End is less", taking{good, unit.Head{First: first, End: end}, abbrevs()}, api.ErrArg)
		}
	}
}

// First and End may be all places of the section, its end too.
func TestTakeOfPlacesInTheSection(t *testing.T) {
	b := over(2, leaf(1)).bytes()
	l := over(2, leaf(1)).entries(0)
	wantTake(t, "all of the section", taking{b, unit.Head{End: uint64(len(b))}, abbrevs()}, l)
	for at := range uint64(len(b) + 1) {
		wantRefused(t, fmt.Sprintf("no byte at %d of %d", at, len(b)), taking{b, unit.Head{First: at, End: at}, abbrevs()}, api.ErrShort)
	}
	wantRefused(t, "no byte at all", taking{nil, unit.Head{}, nil}, api.ErrShort)
	last := cat(b, []byte{1})
	wantTake(t, "the last byte", taking{last, unit.Head{First: 3, End: 4}, abbrevs()}, leaf(1).entries(3))
}

// cuts are the errors of a tree's bytes that end, by how many there are.
func (t tree) cuts() []api.Errno {
	l := slices.Repeat([]api.Errno{api.ErrShort}, len(u(t.code)))
	for _, v := range t.vals {
		e := api.ErrShort
		if v.x.Form == 8 {
			e = api.ErrText
		}
		l = append(l, slices.Repeat([]api.Errno{e}, len(v.b))...)
	}
	for _, k := range t.kids {
		l = append(l, k.cuts()...)
	}
	if t.may {
		l = append(l, api.ErrShort)
	}
	return l
}

func TestTakeOfWhatEnds(t *testing.T) {
	for _, wide := range both {
		for what, x := range forest(wide) {
			b := x.bytes()
			cuts := x.cuts()
			if len(cuts) != len(b) {
				t.Fatalf("%s: %d cuts of %d bytes", what, len(cuts), len(b))
			}
			for size, e := range cuts {
				what := fmt.Sprintf("%s, wide %v: %d of %d bytes", what, wide, size, len(b))
				wantRefused(t, what, in(nil, b[:size], nil, x.table(), wide), e)
				wantRefused(t, what+", and the rest behind End", in([]byte{1, 2}, b[:size], cat(b[size:], []byte{0, 0}), x.table(), wide), e)
			}
		}
	}
}

// wrong is an abbreviation's pair, bytes that may not be its value, and why.
type wrong struct {
	what string
	pair api.Spec
	b    []byte
	e    api.Errno
}

// wrongs are values that are refused, though bytes 0 may follow.
func wrongs() []wrong {
	big := bytes.Repeat([]byte{'x'}, longest+1)
	return []wrong{
		{"a number too long", api.Spec{At: 3, Form: 15}, tooLong(), api.ErrLeb},
		{"a number too great", api.Spec{At: 3, Form: 15}, cat(tooLong()[1:], []byte{2}), api.ErrLeb},
		{"a signed number too long", api.Spec{At: 3, Form: 13}, tooLong(), api.ErrLeb},
		{"a size too long", api.Spec{At: 3, Form: 24}, tooLong(), api.ErrLeb},
		{"too many bytes", api.Spec{At: 3, Form: 9}, u(mostBytes + 1), api.ErrBig},
		{"too many bytes", api.Spec{At: 3, Form: 4}, fixed(mostBytes+1, 4), api.ErrBig},
		{"too many bytes", api.Spec{At: 3, Form: 24}, u(top), api.ErrBig},
		{"a text too long", api.Spec{At: 3, Form: 8}, cat(big, []byte{0}), api.ErrBig},
		{"no form", api.Spec{At: 3, Form: 2}, []byte{0}, api.ErrForm},
		{"no form", api.Spec{At: 3, Form: 45}, []byte{0}, api.ErrForm},
		{"no form", api.Spec{At: 3, Form: -1}, nil, api.ErrForm},
		{"no form at all", api.Spec{At: 3}, nil, api.ErrForm},
		{"no form behind 22", api.Spec{At: 3, Form: indirect}, []byte{2}, api.ErrForm},
		{"22 behind 22", api.Spec{At: 3, Form: indirect}, []byte{indirect, 11, 1}, api.ErrForm},
		{"33 behind 22", api.Spec{At: 3, Form: indirect}, []byte{implicit, 1}, api.ErrForm},
		{"a form too long behind 22", api.Spec{At: 3, Form: indirect}, tooLong(), api.ErrLeb},
	}
}

// What is wrong of a value is told of the root and of a later entry, of its only value
// and of a later one.
func TestTakeOfWrongValues(t *testing.T) {
	for _, w := range wrongs() {
		bad := value{pair: w.pair, b: w.b}
		ok := val(5, api.Raw{Form: 11, U: 9}, []byte{9})
		for _, x := range []tree{
			leaf(4, bad), leaf(4, ok, bad), leaf(4, bad, ok),
			over(2, leaf(4, bad)), over(2, leaf(1), leaf(4, ok, bad)), over(2, over(3, leaf(1)), leaf(4, bad), leaf(1)), over(2, over(3, over(5, leaf(4, bad)))),
		} {
			for _, behind := range [][]byte{nil, {0, 0, 0}} {
				for _, wide := range both {
					wantBytes(t, w.what, cat(x.bytes(), behind), x.table(), wide, w.e)
				}
			}
		}
	}
	text := []byte{4, 'a', 'b'} // its end is behind the unit's
	wantRefused(t, "a text without its end", in(nil, text, []byte{0}, leaf(4, values(false)[4]).table(), false), api.ErrText)
}

func TestTakeOfWrongCodes(t *testing.T) {
	for _, wide := range both {
		for _, ahead := range [][]byte{nil, {2}, {2, 1}, {2, 2}, {2, 1, 2, 0}, {2, 2, 2, 1, 0}} {
			for _, behind := range [][]byte{nil, {0}, {1}, {0, 0, 0, 0}} {
				what := fmt.Sprintf("behind %x, ahead of %x", ahead, behind)
				wantBytes(t, "too long "+what, cat(ahead, tooLong(), behind), abbrevs(), wide, api.ErrLeb)
				wantBytes(t, "too great "+what, cat(ahead, tooLong()[1:], []byte{2}, behind), abbrevs(), wide, api.ErrLeb)
				for _, code := range []uint64{3, 127, 128, 130, 1<<32 + 1, 1<<32 + 2, 1 << 63, top} {
					wantBytes(t, fmt.Sprintf("code %d %s", code, what), cat(ahead, u(code), behind), abbrevs(), wide, api.ErrAbbrev)
				}
			}
			wantBytes(t, "nine bytes without an end", cat(ahead, tooLong()[1:]), abbrevs(), wide, api.ErrShort)
		}
		wantBytes(t, "no table", []byte{1, 0, 0}, nil, wide, api.ErrAbbrev)
		wantBytes(t, "a table without this one", []byte{2, 1, 0}, over(2).table(), wide, api.ErrAbbrev)
	}
}

// A code may have more bytes than it needs.
func TestTakeOfLongCodes(t *testing.T) {
	l := over(2, leaf(1)).entries(0)
	for size := 1; size <= 10; size++ {
		b := cat(long([]byte{2}, size), long([]byte{1}, size), long([]byte{0}, size))
		l[1].Off = uint64(size)
		wantTake(t, fmt.Sprintf("codes of %d bytes", size), in(nil, b, nil, abbrevs(), false), l)
	}
}

// with is a table with others ahead of it and behind it.
func with(table []api.Abbrev, others ...api.Abbrev) [][]api.Abbrev {
	return [][]api.Abbrev{table, slices.Concat(others, table), slices.Concat(table, others)}
}

// nought are abbreviations of code 0.
func nought() []api.Abbrev {
	return []api.Abbrev{{Tag: 17}, {Tag: 18, Kids: true}, {Tag: 19, Specs: []api.Spec{{At: 3, Form: 11}}}}
}

func TestTakeOfTheCode0AsRoot(t *testing.T) {
	for _, code := range [][]byte{{0}, {128, 0}, long([]byte{0}, 10)} {
		for _, behind := range [][]byte{nil, {0}, {0, 0, 0}, {1}, {2, 1, 0}, {99}, tooLong()} {
			for _, a := range nought() {
				for _, table := range append(with(abbrevs(), a), nil, []api.Abbrev{a}) {
					wantBytes(t, fmt.Sprintf("%x ahead of %x", code, behind), cat(code, behind), table, false, api.ErrDie)
				}
			}
		}
	}
	wantBytes(t, "half a code 0", []byte{128}, nil, false, api.ErrShort)
	wantBytes(t, "a code 0 that is too long", long([]byte{0}, 11), nil, false, api.ErrLeb)
}

// Below the root the code 0 is an end, of however many bytes, and whatever the table has.
func TestTakeOfEnds(t *testing.T) {
	for _, a := range nought() {
		for _, table := range with(abbrevs(), a) {
			for size := 1; size <= 10; size++ {
				end := long([]byte{0}, size)
				what := fmt.Sprintf("ends of %d bytes", size)
				for _, zeros := range [][]byte{nil, {0}, make([]byte, 20)} {
					wantTake(t, what, in(nil, cat([]byte{2}, end, zeros), nil, table, false), over(2).entries(0))
					wantTake(t, what, in([]byte{8}, cat([]byte{2, 1}, end, zeros), []byte{1}, table, false), over(2, leaf(1)).entries(1))
					l := over(2, over(2, over(2)), leaf(1)).entries(0)
					l[3].Off += uint64(2 * (size - 1))
					wantTake(t, what, in(nil, cat([]byte{2, 2, 2}, end, end, []byte{1}, end, zeros), nil, table, false), l)
				}
				wantRefused(t, what, in(nil, cat([]byte{2, 2}, end, end[:size-1]), end, table, false), api.ErrShort)
			}
			wantBytes(t, "an end that is too long", cat([]byte{2}, long([]byte{0}, 11)), table, false, api.ErrLeb)
		}
	}
}

// Behind the root's end stands nothing but bytes 0.
func TestTakeOfWhatStandsBehindTheRoot(t *testing.T) {
	for what, x := range map[string]tree{"without children": leaf(1), "with none": over(2), "with some": over(2, over(2, leaf(1)), leaf(1))} {
		for size := 1; size < 40; size++ {
			wantTake(t, what, in(nil, cat(x.bytes(), make([]byte, size)), []byte{1}, abbrevs(), false), x.entries(0))
			for _, other := range []byte{1, 2, 3, 127, 128, 255} {
				for _, at := range []int{0, size / 2, size - 1} {
					b := make([]byte, size)
					b[at] = other
					wantBytes(t, fmt.Sprintf("a root %s, then %x", what, b), cat(x.bytes(), b), abbrevs(), false, api.ErrDie)
				}
			}
		}
		for _, b := range [][]byte{{128, 0}, {1, 0}, {2, 0}, {99}, tooLong(), {0, 128}} {
			wantBytes(t, fmt.Sprintf("a root %s, then %x", what, b), cat(x.bytes(), b), abbrevs(), false, api.ErrDie)
		}
	}
}

func TestTakeOfManyEntries(t *testing.T) {
	for _, count := range []int{most - 2, most - 1} {
		wantTake(t, fmt.Sprintf("%d and a root", count), in(nil, cat(flat(count).bytes(), []byte{0, 0}), nil, abbrevs(), false), flat(count).entries(0))
	}
	for _, count := range []int{most, most + 1, 5 * most} {
		wantBytes(t, fmt.Sprintf("%d and a root", count), flat(count).bytes(), abbrevs(), false, api.ErrBig)
	}
	deep := slices.Repeat([]tree{nested(19)}, 50)
	wantBytes(t, "1001 in trees", over(2, deep...).bytes(), abbrevs(), false, api.ErrBig)
	deep[49] = nested(18)
	wantTake(t, "1000 in trees", in(nil, over(2, deep...).bytes(), nil, abbrevs(), false), over(2, deep...).entries(0))
}

// texts is a table of a leaf 1, of a parent 2, of a leaf 4 that has a text, and of a leaf
// 5 whose value has no form.
func texts() []api.Abbrev {
	return abbrevs(leaf(4, val(3, api.Raw{Form: 8, Text: "a"}, []byte("a\x00"))), leaf(5, value{pair: api.Spec{At: 3, Form: 2}}))
}

// One more is one as soon as its code is read, and it has an abbreviation.
func TestTakeOfOneMore(t *testing.T) {
	full := flat(most - 1).bytes()
	full = full[:len(full)-1] // without the root's end
	table := texts()
	for _, x := range []struct {
		what string
		b    []byte
		e    api.Errno
	}{
		{"no end", nil, api.ErrShort},
		{"half a code", []byte{129}, api.ErrShort},
		{"a code too long", tooLong(), api.ErrLeb},
		{"a code of no abbreviation", []byte{99}, api.ErrAbbrev},
		{"a code", []byte{1}, api.ErrBig},
		{"a parent", []byte{2}, api.ErrBig},
		{"a code of two bytes", []byte{129, 0}, api.ErrBig},
		{"a value that ends", []byte{4, 'a'}, api.ErrBig},
		{"no value", []byte{4}, api.ErrBig},
		{"a value of no form", []byte{5}, api.ErrBig},
		{"a code, then one of none", []byte{1, 99}, api.ErrBig},
		{"an end, then another byte", []byte{0, 1}, api.ErrDie},
	} {
		for size := 0; size < 3; size++ {
			if len(x.b) == 0 && size > 0 || x.e == api.ErrShort && size > 0 {
				continue // the bytes 0 would be the end
			}
			wantBytes(t, "1000 entries, then "+x.what, cat(full, x.b, make([]byte, size)), table, false, x.e)
		}
	}
}

func TestTakeOfDepths(t *testing.T) {
	for _, depth := range []int{deepest - 1, deepest} {
		wantTake(t, fmt.Sprintf("depth %d", depth), in(nil, nested(depth).bytes(), nil, abbrevs(), false), nested(depth).entries(0))
	}
	for _, depth := range []int{deepest + 1, deepest + 2, 100, 999, 1000, 3000} {
		wantBytes(t, fmt.Sprintf("depth %d", depth), nested(depth).bytes(), abbrevs(), false, api.ErrBig)
	}
	wantBytes(t, "later", over(2, nested(deepest-1), leaf(1), nested(deepest)).bytes(), abbrevs(), false, api.ErrBig)
}

// One too deep is one as soon as its code is read, and it has an abbreviation.
func TestTakeOfOneTooDeep(t *testing.T) {
	full := bytes.Repeat([]byte{2}, deepest+1)
	ends := make([]byte, deepest+1)
	table := texts()
	for _, x := range []struct {
		what string
		b    []byte
		e    api.Errno
	}{
		{"no end", nil, api.ErrShort},
		{"half a code", []byte{129}, api.ErrShort},
		{"a code too long", cat(tooLong(), ends), api.ErrLeb},
		{"a code of no abbreviation", cat([]byte{99}, ends), api.ErrAbbrev},
		{"a code", []byte{1}, api.ErrBig},
		{"a code, and all ends", cat([]byte{1}, ends), api.ErrBig},
		{"a value that ends", []byte{4, 'a'}, api.ErrBig},
		{"no value", []byte{4}, api.ErrBig},
		{"a value of no form", []byte{5}, api.ErrBig},
		{"a code, then one of none", []byte{1, 99}, api.ErrBig},
		{"all ends but one", ends[1:], api.ErrShort},
		{"all ends, and another byte", cat(ends, []byte{1}), api.ErrDie},
	} {
		wantBytes(t, "as deep as may be, then "+x.what, cat(full, x.b), table, false, x.e)
	}
	wantTake(t, "all ends", in(nil, cat(full, ends), nil, table, false), nested(deepest).entries(0))
}

// What the bytes say first is told, of whatever stands behind it.
func TestTakeTellsTheFirst(t *testing.T) {
	table := texts()
	wrong := map[api.Errno][]byte{
		api.ErrLeb:    tooLong(),
		api.ErrAbbrev: {99},
		api.ErrForm:   {5},
		api.ErrBig:    cat([]byte{4}, []byte(strings.Repeat("x", longest+1)), []byte{0}),
	}
	for e, one := range wrong {
		for other, two := range wrong {
			for _, ahead := range [][]byte{nil, {2}, {2, 1}, {2, 2, 1, 0}} {
				wantBytes(t, fmt.Sprintf("%d ahead of %d", e, other), cat(ahead, one, two, []byte{0, 0}), table, false, e)
			}
		}
		wantBytes(t, fmt.Sprintf("%d behind the root's end", e), cat([]byte{2, 0}, one), table, false, api.ErrDie)
		wantBytes(t, fmt.Sprintf("%d behind the code 0 as root", e), cat([]byte{0}, one), table, false, api.ErrDie)
		wantBytes(t, fmt.Sprintf("%d behind an entry", e), cat([]byte{2, 1}, one), table, false, e)
	}
	wantBytes(t, "an entry whose text has no end", []byte{2, 4, 'a'}, table, false, api.ErrText)
	pairs := leaf(6, value{pair: api.Spec{At: 3, Form: 15}}, value{pair: api.Spec{At: 4, Form: 2}}).table()
	wantBytes(t, "a value that ends ahead of one of no form", []byte{6, 129}, pairs, false, api.ErrShort)
	wantBytes(t, "a value that is too long ahead of one of no form", cat([]byte{6}, tooLong()), pairs, false, api.ErrLeb)
	wantBytes(t, "a value of no form", []byte{6, 1}, pairs, false, api.ErrForm)
}

// By form 22 a value is of the form that stands ahead of it.
func TestTakeOfForm22(t *testing.T) {
	for _, wide := range both {
		l := values(wide)
		l = slices.DeleteFunc(l, func(v value) bool { return v.x.Form == implicit })
		for i := range l {
			l[i].b = cat(u(uint64(l[i].x.Form)), l[i].b)
			l[i].pair.Form = indirect
		}
		wantTree(t, "form 22", leaf(8, l...), wide)
		wantTree(t, "form 22, below", over(2, leaf(8, l...), leaf(1)), wide)
	}
}

// Of abbreviations of one code the first one counts; of a pair all numbers may be.
func TestTakeOfOtherTables(t *testing.T) {
	one, two := leaf(6, values(false)[7]), leaf(6, values(false)[3])
	two.tag = 99
	for _, x := range []struct {
		root, other tree
	}{{one, two}, {two, one}} {
		table := []api.Abbrev{leaf(1).abbrev(), x.root.abbrev(), x.other.abbrev(), x.other.abbrev()}
		wantTake(t, "two of one code", in(nil, x.root.bytes(), nil, table, false), x.root.entries(0))
	}
	odd := leaf(6, val(-3, api.Raw{Form: 11, U: 1}, []byte{1}), val(0, api.Raw{Form: 11, U: 2}, []byte{2}), val(-3, api.Raw{Form: 11, U: 3}, []byte{3}), val(1<<62, api.Raw{Form: 25, U: 1}, nil))
	for _, tag := range []int{0, -1, 1 << 62, -1 << 63} {
		odd.tag = tag
		wantTake(t, "odd numbers", in(nil, odd.bytes(), nil, odd.table(), false), odd.entries(0))
	}
	var many []value
	for i := range 100 {
		many = append(many, val(i+1, api.Raw{Form: 11, U: uint64(i)}, []byte{byte(i)}))
	}
	wantTree(t, "many pairs", over(2, leaf(6, many...), leaf(6, many...)), false)
}

// Wide or not, by the head alone, is what a value's bytes hang on.
func TestTakeOfWideValues(t *testing.T) {
	for _, form := range []int{14, 16, 23, 31} {
		x := leaf(6, value{pair: api.Spec{At: 3, Form: form}})
		b := []byte{6, 1, 2, 3, 4, 0, 0, 0, 0}
		for _, wide := range both {
			l := x.entries(0)
			l[0].Attrs[0].Val = api.Raw{Form: form, U: 0x04030201}
			wantTake(t, fmt.Sprintf("form %d, wide %v", form, wide), in(nil, b, nil, x.table(), wide), l)
		}
		b = cat(b[:8], []byte{5})
		wantBytes(t, fmt.Sprintf("form %d", form), b, x.table(), false, api.ErrDie)
		l := x.entries(0)
		l[0].Attrs[0].Val = api.Raw{Form: form, U: 0x0500000004030201}
		wantTake(t, fmt.Sprintf("form %d, wide", form), in(nil, b, nil, x.table(), true), l)
		wantBytes(t, fmt.Sprintf("form %d of four bytes", form), b[:5], x.table(), true, api.ErrShort)
	}
}
