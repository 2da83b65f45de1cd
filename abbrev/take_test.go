package abbrev_test

import (
	"bytes"
	"fmt"
	"slices"
	"testing"

	"sindri/abbrev"
	"sindri/api"
	"sindri/cursor"
)

// P13.1

// one is the abbreviation 1 with tag 2, without children, with these pairs.
func one(l ...api.Spec) api.Abbrev { return api.Abbrev{Code: 1, Tag: 2, Specs: l} }

func TestTake(t *testing.T) {
	wantTake(t, "plain", layAll(plain()...), plain())
	for i, a := range plain() {
		wantTake(t, fmt.Sprintf("number %d alone", i), layAll(a), plain()[i:i+1])
		wantTake(t, fmt.Sprintf("from number %d on", i), layAll(plain()[i:]...), plain()[i:])
	}
	back := plain()
	slices.Reverse(back)
	for i := range back {
		slices.Reverse(back[i].Specs)
	}
	wantTake(t, "the other way round", layAll(back...), back)
	wantTake(t, "several", layAll(several(50)...), several(50))
}

func TestTakeOfNoAbbreviation(t *testing.T) {
	wantTake(t, "the byte 0 alone", []byte{0}, nil)
	wantRefused(t, "no byte", nil, api.ErrShort)
	wantRefused(t, "no byte", []byte{}, api.ErrShort)
}

// A table is taken from where the cursor stands, whatever stands ahead.
func TestTakeOfTablesOneBehindTheOther(t *testing.T) {
	c := cursor.New(cat([]byte{9, 9}, layAll(plain()...), []byte{0}, example, layAll(several(3)...)))
	c.Seek(2)
	for i, want := range [][]api.Abbrev{plain(), nil, {{Code: 1, Tag: 17, Kids: true, Specs: []api.Spec{{At: 3, Form: 8}}}}, several(3)} {
		if l, e := abbrev.Take(c); !same(l, want) || e != api.OK {
			t.Errorf("table %d: Take = %s, %d, want %s", i, show(l), e, show(want))
		}
	}
	if c.End() != api.OK {
		t.Errorf("End = %d", c.End())
	}
	if l, e := abbrev.Take(c); len(l) != 0 || e != api.ErrShort {
		t.Errorf("behind all: Take = %s, %d", show(l), e)
	}
}

func TestTakeOfTablesCutShort(t *testing.T) {
	for _, b := range [][]byte{
		example,
		layAll(plain()...),
		layAll(several(20)...),
		layAll(one(api.Spec{At: 300, Form: constant, Implicit: least}, api.Spec{At: 5, Form: 300})),
		cat(long([]byte{1}, 10, 0), long([]byte{2}, 10, 0), []byte{0}, long([]byte{0}, 10, 0), long([]byte{0}, 10, 0), long([]byte{0}, 10, 0)),
	} {
		for size := range len(b) {
			wantRefused(t, fmt.Sprintf("%d bytes of %d", size, len(b)), b[:size], api.ErrShort)
		}
	}
}

// Nothing behind a length is read.
func TestTakeOfSpareRoom(t *testing.T) {
	b := layAll(plain()...)
	for size := range len(b) {
		wantRefused(t, "its end in spare room", b[:size:len(b)], api.ErrShort)
		if l, e := abbrev.At(b[:size], 0); len(l) != 0 || e != api.ErrShort {
			t.Errorf("its end in spare room: At = %s, %d", show(l), e)
		}
	}
}

// places are an abbreviation's bytes and the table's end, number by number.
func places() [][]byte {
	return [][]byte{{1}, {2}, {0}, {3}, {8}, {4}, {constant}, {5}, {0}, {0}, {0}}
}

// The places of these numbers.
const (
	atCode = iota
	atTag
	atKids
	atAttr
	atForm
	atSecond
	atConstant
	atImplicit
	atNoAttr
	atNoForm
	atEnd
)

// table is what these numbers tell.
func table() []api.Abbrev {
	return []api.Abbrev{one(api.Spec{At: 3, Form: 8}, api.Spec{At: 4, Form: constant, Implicit: 5})}
}

// placed is these numbers' bytes with others at some place.
func placed(at int, b []byte) []byte {
	p := places()
	p[at] = b
	return cat(p...)
}

func TestTakeOfNumbersOfManyBytes(t *testing.T) {
	wantTake(t, "plain", cat(places()...), table())
	for at, b := range places() {
		if at == atKids {
			continue
		}
		for size := 2; size <= 10; size++ {
			wantTake(t, fmt.Sprintf("number %d of %d bytes", at, size), placed(at, long(b, size, 0)), table())
		}
	}
	var all [][]byte
	for at, b := range places() {
		if at != atKids {
			b = long(b, 3+at%8, 0)
		}
		all = append(all, b)
	}
	wantTake(t, "all numbers of many bytes", cat(all...), table())
	wantTake(t, "an end alone of many bytes", long([]byte{0}, 2, 0), nil)
	wantTake(t, "an end alone of the most bytes", long([]byte{0}, 10, 0), nil)
}

func TestTakeOfNumbersThatAreTooLong(t *testing.T) {
	for at, b := range places() {
		if at == atKids {
			continue
		}
		bad := [][]byte{tooLong(), cat(tooLong(), []byte{0}), long(b, 11, 0)}
		if at != atImplicit {
			bad = append(bad, cat(tooLong()[1:], []byte{2}), cat(tooLong()[1:], []byte{127}))
		} else {
			bad = append(bad, cat(tooLong()[1:], []byte{1}), cat(tooLong()[1:], []byte{126}))
		}
		for _, x := range bad {
			wantRefused(t, fmt.Sprintf("number %d as %x", at, x), placed(at, x), api.ErrLeb)
			ahead := cat(append(places()[:at:at], x)...)
			wantRefused(t, fmt.Sprintf("number %d as %x, and no more", at, x), ahead, api.ErrLeb)
		}
	}
}

func TestTakeOfCodes(t *testing.T) {
	for _, code := range []uint64{1, 2, 127, 128, 300, 65535, 65536, 1<<32 - 1, 1 << 32, 1 << 63, top - 1, top} {
		want := table()
		want[0].Code = code
		wantTake(t, fmt.Sprintf("code %d", code), placed(atCode, u(code)), want)
	}
}

func TestTakeOfKids(t *testing.T) {
	want := table()
	wantTake(t, "no children", placed(atKids, []byte{0}), want)
	want[0].Kids = true
	wantTake(t, "children", placed(atKids, []byte{1}), want)
	for v := 2; v < 256; v++ {
		wantRefused(t, fmt.Sprintf("a byte %d", v), placed(atKids, []byte{byte(v)}), api.ErrAbbrev)
	}
	// It is a byte, and no number of 7-bit ones.
	wantRefused(t, "1 in two bytes", placed(atKids, []byte{0x81, 0}), api.ErrAbbrev)
	wantRefused(t, "0 in two bytes", placed(atKids, []byte{0x80, 0}), api.ErrAbbrev)
}

func TestTakeOfTags(t *testing.T) {
	for _, n := range []int{1, 2, 127, 128, 255, 256, 0x4080, 65534, 65535} {
		want := table()
		want[0].Tag = n
		wantTake(t, fmt.Sprintf("tag %d", n), placed(atTag, u(uint64(n))), want)
	}
	for _, n := range []uint64{0, 65536, 65537, 1 << 31, 1 << 32, 1<<32 + 2, 1<<63 + 2, top} {
		wantRefused(t, fmt.Sprintf("tag %d", n), placed(atTag, u(n)), api.ErrAbbrev)
	}
}

func TestTakeOfAttributesAndForms(t *testing.T) {
	for _, n := range []int{1, 2, 127, 128, 255, 256, 0x2000, 65534, 65535} {
		want := table()
		want[0].Specs[0].At = n
		wantTake(t, fmt.Sprintf("attribute %d", n), placed(atAttr, u(uint64(n))), want)
		want = table()
		want[0].Specs[0].Form = n
		wantTake(t, fmt.Sprintf("form %d", n), placed(atForm, u(uint64(n))), want)
		want[0].Specs[0].At = 70
		want[0].Specs[0].Form = 70
		wantTake(t, "both the same", cat([]byte{1, 2, 0}, u(70), u(70), layPair(want[0].Specs[1]), []byte{0, 0, 0}), want)
	}
	for _, n := range []uint64{0, 65536, 65537, 1 << 31, 1 << 32, 1<<32 + 3, 1<<32 + constant, 1<<63 + 3, top} {
		wantRefused(t, fmt.Sprintf("attribute %d", n), placed(atAttr, u(n)), api.ErrAbbrev)
		wantRefused(t, fmt.Sprintf("form %d", n), placed(atForm, u(n)), api.ErrAbbrev)
		wantRefused(t, fmt.Sprintf("attribute %d of an implicit constant", n), placed(atSecond, u(n)), api.ErrAbbrev)
		wantRefused(t, fmt.Sprintf("form %d where a constant follows", n), placed(atConstant, u(n)), api.ErrAbbrev)
	}
	// Of the end of the pairs, too, both have to be 0.
	wantRefused(t, "just the form 0", placed(atNoAttr, []byte{1}), api.ErrAbbrev)
	wantRefused(t, "just the attribute 0", placed(atNoForm, []byte{1}), api.ErrAbbrev)
	wantRefused(t, "just the form 0, in many bytes", placed(atNoForm, cat([]byte{0x81}, []byte{0})), api.ErrAbbrev)
}

func TestTakeOfConstants(t *testing.T) {
	for _, n := range []int64{0, 1, -1, 5, 63, 64, -64, -65, 300, -300, 1 << 40, -1 << 40, most, most - 1, least, least + 1} {
		want := table()
		want[0].Specs[1].Implicit = n
		wantTake(t, fmt.Sprintf("constant %d", n), placed(atImplicit, s(n)), want)
		fill := byte(0)
		if n < 0 {
			fill = 127
		}
		wantTake(t, fmt.Sprintf("constant %d of many bytes", n), placed(atImplicit, long(s(n), 10, fill)), want)
	}
	// Of no other form does a number follow.
	for form := 1; form <= 65535; form++ {
		if form != constant && (form < 300 || form%997 == 0 || form%256 == constant) {
			want := []api.Abbrev{one(api.Spec{At: 3, Form: form}, api.Spec{At: 5, Form: 6})}
			wantTake(t, fmt.Sprintf("form %d", form), layAll(want...), want)
		}
	}
	// One that is missing is taken from what stands there instead.
	p := places()
	p[atImplicit] = nil
	wantRefused(t, "no constant", cat(p...), api.ErrShort)
	wantRefused(t, "no constant, and no more", cat(p[:atImplicit]...), api.ErrShort)
	wantTake(t, "the end as constant", cat(cat(p...), []byte{0}), []api.Abbrev{one(api.Spec{At: 3, Form: 8}, api.Spec{At: 4, Form: constant})})
}

// What is refused first, as the bytes stand, is told.
func TestTakeOfTwoFaults(t *testing.T) {
	type fault struct {
		at int
		b  []byte
		e  api.Errno
	}
	var faults []fault
	for at := range places() {
		if at != atKids {
			faults = append(faults, fault{at, tooLong(), api.ErrLeb})
		}
	}
	faults = append(faults, fault{atKids, []byte{2}, api.ErrAbbrev}, fault{atKids, []byte{255}, api.ErrAbbrev}, fault{atTag, u(65536), api.ErrAbbrev})
	for _, at := range []int{atForm, atConstant, atNoForm} { // a pair is refused behind both of its numbers
		for _, b := range [][]byte{u(65536), u(top)} {
			faults = append(faults, fault{at, b, api.ErrAbbrev})
		}
	}
	for _, f := range faults {
		wantRefused(t, fmt.Sprintf("%x at %d", f.b, f.at), placed(f.at, f.b), f.e)
		wantRefused(t, fmt.Sprintf("%x at %d, and no more", f.b, f.at), cat(append(places()[:f.at:f.at], f.b)...), f.e)
		for _, g := range faults {
			if g.at <= f.at {
				continue
			}
			p := places()
			p[f.at], p[g.at] = f.b, g.b
			wantRefused(t, fmt.Sprintf("%x at %d and %x at %d", f.b, f.at, g.b, g.at), cat(p...), f.e)
		}
	}
}

// An attribute is refused behind its form, and ahead of its constant.
func TestTakeOfTwoFaultsOfAPair(t *testing.T) {
	front := []byte{1, 2, 0}
	for _, ahead := range [][]byte{front, cat(front, []byte{9, 9}), cat([]byte{7, 7, 1, 0, 0}, front)} {
		for _, at := range [][]byte{u(0), u(65536), u(top)} {
			wantRefused(t, "no form", cat(ahead, at), api.ErrShort)
			wantRefused(t, "half a form", cat(ahead, at, []byte{0x81}), api.ErrShort)
			wantRefused(t, "a form that is too long", cat(ahead, at, tooLong(), []byte{0, 0, 0, 0}), api.ErrLeb)
			wantRefused(t, "a form", cat(ahead, at, []byte{8}), api.ErrAbbrev)
			wantRefused(t, "a form that is too great", cat(ahead, at, u(65536)), api.ErrAbbrev)
			wantRefused(t, "a constant's form, without it", cat(ahead, at, []byte{constant}), api.ErrAbbrev)
			wantRefused(t, "a constant that is too long", cat(ahead, at, []byte{constant}, tooLong()), api.ErrAbbrev)
		}
		wantRefused(t, "no attribute", ahead, api.ErrShort)
		wantRefused(t, "no constant", cat(ahead, []byte{3, constant}), api.ErrShort)
		wantRefused(t, "an attribute, no form", cat(ahead, []byte{3}), api.ErrShort)
		wantRefused(t, "an attribute, the form 0", cat(ahead, []byte{3, 0}), api.ErrAbbrev)
		wantRefused(t, "both too long", cat(ahead, tooLong(), tooLong()), api.ErrLeb)
		wantRefused(t, "an attribute that is too long, the form 0", cat(ahead, tooLong(), []byte{0}), api.ErrLeb)
	}
}

// At once: the cursor stands behind what is refused.
func TestTakeStandsBehindWhatIsRefused(t *testing.T) {
	many := layAll(several(abbrevs)...)
	many = many[:len(many)-1] // without the end
	full := lay(one(pile(pairs)...))
	full = full[:len(full)-2] // without the end of its pairs
	for _, x := range []struct {
		b  []byte
		at int
		e  api.Errno
	}{
		{cat([]byte{1}, u(65536), []byte{0, 0, 0, 0}), 4, api.ErrAbbrev},
		{[]byte{1, 2, 2, 0, 0, 0}, 3, api.ErrAbbrev},
		{[]byte{1, 2, 0, 0, 8, 0, 0, 0}, 5, api.ErrAbbrev},
		{[]byte{1, 2, 0, 3, 0, 0, 0, 0}, 5, api.ErrAbbrev},
		{cat([]byte{1, 2, 0}, u(65536), []byte{constant, 5, 0, 0, 0}), 7, api.ErrAbbrev},
		{cat([]byte{1, 2, 0, 3}, u(65536), []byte{0, 0, 0}), 7, api.ErrAbbrev},
		{cat(many, []byte{0x80, 1, 2, 0}), len(many) + 2, api.ErrBig},
		{cat(full, []byte{3, constant, 5, 0, 0, 0}), len(full) + 2, api.ErrBig},
		{[]byte{1, 0, 0, 0, 0, 0, 9, 9}, 6, api.ErrAbbrev},
		{[]byte{1, 2, 0, 0, 0, 1, 2, 0, 0, 0, 0, 9, 9}, 11, api.ErrAbbrev},
	} {
		c := cursor.New(x.b)
		if l, e := abbrev.Take(c); len(l) != 0 || e != x.e || c.At() != x.at || c.Err() != x.e {
			t.Errorf("%.40x: Take = %s, %d, and the cursor stands at %d with %d, want %d at %d", x.b, show(l), e, c.At(), c.Err(), x.e, x.at)
		}
	}
}

// What a table as a whole may not have is told behind its end alone.
func TestTakeOfFaultsOfTheWhole(t *testing.T) {
	p := func(at ...int) []api.Spec {
		var l []api.Spec
		for _, n := range at {
			l = append(l, api.Spec{At: n, Form: 8})
		}
		return l
	}
	for what, l := range map[string][]api.Abbrev{
		"a tag 0":                      {{Code: 1, Tag: 0}},
		"a tag 0, the second one":      {{Code: 1, Tag: 1}, {Code: 2, Tag: 0, Specs: p(1)}},
		"a code twice":                 {{Code: 1, Tag: 1}, {Code: 1, Tag: 2}},
		"all twice":                    {{Code: 7, Tag: 1, Specs: p(1)}, {Code: 7, Tag: 1, Specs: p(1)}},
		"a great code twice":           {{Code: top, Tag: 1}, {Code: 1, Tag: 1}, {Code: top, Tag: 1}},
		"a code three times":           {{Code: 1, Tag: 1}, {Code: 1, Tag: 1}, {Code: 1, Tag: 1}},
		"an attribute twice":           {{Code: 1, Tag: 1, Specs: p(3, 3)}},
		"an attribute twice, apart":    {{Code: 1, Tag: 1, Specs: p(3, 4, 5, 3)}},
		"an attribute twice, at last":  {{Code: 1, Tag: 1}, {Code: 2, Tag: 1, Specs: p(4, 3, 3)}},
		"an attribute of two forms":    {{Code: 1, Tag: 1, Specs: []api.Spec{{At: 3, Form: 8}, {At: 3, Form: 14}}}},
		"an attribute as two constant": {{Code: 1, Tag: 1, Specs: []api.Spec{{At: 3, Form: 33, Implicit: 1}, {At: 3, Form: 33, Implicit: 2}}}},
	} {
		b := layAll(l...)
		wantRefused(t, what, b, api.ErrAbbrev)
		wantRefused(t, what+", with more behind", cat(b, []byte{1, 2, 3}), api.ErrAbbrev)
		open := b[:len(b)-1]
		wantRefused(t, what+", without the end", open, api.ErrShort)
		wantRefused(t, what+", and a number that is too long", cat(open, tooLong()), api.ErrLeb)
		wantRefused(t, what+", and a code alone", cat(open, []byte{9}), api.ErrShort)
		wantRefused(t, what+", and another one", cat(open, layAll(api.Abbrev{Code: 9, Tag: 9})), api.ErrAbbrev)
		many := cat(open, layAll(several(abbrevs)...))
		wantRefused(t, what+", and too many", many, api.ErrBig)
	}
}

func TestTakeOfAnAttributeInTwo(t *testing.T) {
	l := []api.Abbrev{{Code: 1, Tag: 1, Specs: []api.Spec{{At: 3, Form: 8}}}, {Code: 2, Tag: 1, Specs: []api.Spec{{At: 3, Form: 8}}}}
	wantTake(t, "an attribute in two", layAll(l...), l)
}

func TestTakeOfACodeFarApart(t *testing.T) {
	l := several(abbrevs)
	wantTake(t, "each once", layAll(l...), l)
	for _, x := range [][2]int{{0, 1}, {0, abbrevs - 1}, {abbrevs - 2, abbrevs - 1}, {7, 200}} {
		l := several(abbrevs)
		l[x[1]].Code = l[x[0]].Code
		wantRefused(t, fmt.Sprintf("a code at %v", x), layAll(l...), api.ErrAbbrev)
	}
}

func TestTakeOfSoManyAbbreviations(t *testing.T) {
	for _, n := range []int{1, 2, 100, abbrevs - 1, abbrevs} {
		wantTake(t, fmt.Sprintf("%d of them", n), layAll(several(n)...), several(n))
	}
	b := layAll(several(abbrevs)...)
	open := b[:len(b)-1]
	for what, x := range map[string]struct {
		b []byte
		e api.Errno
	}{
		"one more":                        {layAll(api.Abbrev{Code: 999, Tag: 1}), api.ErrBig},
		"one more with a code that is":    {layAll(api.Abbrev{Code: 7, Tag: 1}), api.ErrBig},
		"one more, without end":           {lay(api.Abbrev{Code: 999, Tag: 1}), api.ErrBig},
		"one more's code alone":           {u(999), api.ErrBig},
		"one more with a tag too great":   {cat(u(999), u(65536)), api.ErrBig},
		"one more with a tag too long":    {cat(u(999), tooLong()), api.ErrBig},
		"one more with a byte 2":          {[]byte{1, 2, 2}, api.ErrBig},
		"one more with a pair of one 0":   {[]byte{1, 2, 0, 0, 1}, api.ErrBig},
		"one more with a code too long":   {tooLong(), api.ErrLeb},
		"one more with half a code":       {[]byte{0x81}, api.ErrShort},
		"no more, without end":            {nil, api.ErrShort},
		"no more, an end that is too big": {cat(tooLong()[1:], []byte{2}), api.ErrLeb},
		"many more":                       {layAll(several(abbrevs)...), api.ErrBig},
	} {
		wantRefused(t, what, cat(open, x.b), x.e)
	}
	wantTake(t, "no more, an end of many bytes", cat(open, long([]byte{0}, 9, 0)), several(abbrevs))
}

func TestTakeOfSoManyPairs(t *testing.T) {
	for _, n := range []int{0, 1, 2, 20, pairs - 1, pairs} {
		for at := range 3 {
			l := several(3)
			l[at].Specs = pile(n)
			wantTake(t, fmt.Sprintf("%d of them at %d", n, at), layAll(l...), l)
		}
	}
	full := lay(one(pile(pairs)...))
	for what, x := range map[string]struct {
		b []byte
		e api.Errno
	}{
		"one more":                          {[]byte{3, 8, 0, 0, 0}, api.ErrBig},
		"one more with an attribute there":  {cat(u(101), []byte{8, 0, 0, 0}), api.ErrBig},
		"one more, and no more":             {[]byte{3, 8}, api.ErrBig},
		"one more, a constant":              {[]byte{3, constant, 5, 0, 0, 0}, api.ErrBig},
		"one more, a constant without it":   {[]byte{3, constant}, api.ErrBig},
		"one more, a constant too long":     {cat([]byte{3, constant}, tooLong()), api.ErrBig},
		"one more, then a number too long":  {cat([]byte{3, 8}, tooLong()), api.ErrBig},
		"one more, without a form":          {[]byte{3}, api.ErrShort},
		"one more, with a form too long":    {cat([]byte{3}, tooLong()), api.ErrLeb},
		"one more, with an attribute 0":     {[]byte{0, 8, 0, 0, 0}, api.ErrAbbrev},
		"one more, with a form 0":           {[]byte{3, 0, 0, 0, 0}, api.ErrAbbrev},
		"one more, too great an attribute":  {cat(u(65536), []byte{8}), api.ErrAbbrev},
		"one more, with too great a form":   {cat([]byte{3}, u(65536)), api.ErrAbbrev},
		"one more, too long an attribute":   {tooLong(), api.ErrLeb},
		"no more, without the end of pairs": {nil, api.ErrShort},
		"no more, with half of their end":   {[]byte{0}, api.ErrShort},
		"many more":                         {bytes.Repeat([]byte{3, 8}, 100), api.ErrBig},
	} {
		wantRefused(t, what, cat(full[:len(full)-2], x.b), x.e)
		ahead := layAll(api.Abbrev{Code: 1, Tag: 1}, api.Abbrev{Code: 1, Tag: 0, Specs: pile(pairs)})
		wantRefused(t, what+", behind others", cat(ahead[:len(ahead)-3], x.b), x.e)
	}
	wantTake(t, "no more, their end of many bytes", cat(full[:len(full)-2], long([]byte{0}, 5, 0), long([]byte{0}, 10, 0), []byte{0}), []api.Abbrev{one(pile(pairs)...)})
}

func TestTakeOfTheMost(t *testing.T) {
	l := several(abbrevs)
	for i := range l {
		l[i].Specs = pile(pairs)
	}
	wantTake(t, "the most of all", layAll(l...), l)
}

func TestTakeOfNobody(t *testing.T) {
	var none *cursor.Cursor
	var zero cursor.Cursor
	for _, c := range []*cursor.Cursor{none, &zero} {
		if l, e := abbrev.Take(c); len(l) != 0 || e != api.ErrNil {
			t.Errorf("Take = %s, %d, want none, %d", show(l), e, api.ErrNil)
		}
		if c.Err() != api.ErrNil || c.At() != 0 {
			t.Errorf("the cursor tells %d at %d", c.Err(), c.At())
		}
	}
}

func TestTakeOfARefusal(t *testing.T) {
	for _, e := range []api.Errno{api.ErrShort, api.ErrArg, api.ErrAbbrev, api.ErrCheck, 999, -1} {
		for _, b := range [][]byte{nil, {0}, example, {1, 0, 0, 0, 0, 0}} {
			c := cursor.New(b)
			c.Fail(e)
			if l, got := abbrev.Take(c); len(l) != 0 || got != e {
				t.Errorf("Take = %s, %d, want none, %d", show(l), got, e)
			}
			if c.Err() != e || c.At() != 0 {
				t.Errorf("the cursor tells %d at %d, want %d at 0", c.Err(), c.At(), e)
			}
		}
	}
	c := cursor.New(example).Sub(9)
	if l, e := abbrev.Take(c); len(l) != 0 || e != api.ErrShort {
		t.Errorf("Take = %s, %d, want none, %d", show(l), e, api.ErrShort)
	}
}

// A table ends where a cursor of its own does, though bytes follow beneath.
func TestTakeOfASub(t *testing.T) {
	for n := range uint64(len(example)) {
		if l, e := abbrev.Take(cursor.New(example).Sub(n)); len(l) != 0 || e != api.ErrShort {
			t.Errorf("%d bytes: Take = %s, %d", n, show(l), e)
		}
	}
	if l, e := abbrev.Take(cursor.New(cat(example, example)).Sub(8)); len(l) != 1 || e != api.OK {
		t.Errorf("Take = %s, %d", show(l), e)
	}
}

// What is taken is new memory, each list of its own.
func TestWhatIsTakenSharesNoMemory(t *testing.T) {
	b := layAll(plain()...)
	c := cursor.New(b)
	one, _ := abbrev.Take(c)
	c.Seek(0)
	two, _ := abbrev.Take(c)
	for _, l := range [][]api.Abbrev{one, two} {
		for i := range l {
			all := l[i].Specs[:cap(l[i].Specs)]
			for j := range all {
				all[j] = api.Spec{At: i, Form: j, Implicit: 99}
			}
			for k := i + 1; k < len(l); k++ {
				if !slices.Equal(l[k].Specs, plain()[k].Specs) {
					t.Errorf("the pairs of %d changed with those of %d", k, i)
				}
			}
			l[i] = api.Abbrev{}
		}
		_ = append(l, api.Abbrev{Code: 1})
	}
	if l, e := abbrev.At(b, 0); !same(l, plain()) || e != api.OK {
		t.Errorf("At = %s, %d", show(l), e)
	}
	l, e := abbrev.At(b, 0)
	for i := range b {
		b[i] = 255
	}
	if !same(l, plain()) || e != api.OK {
		t.Errorf("At = %s, %d, once the section is changed", show(l), e)
	}
}

// P13.2

func TestAt(t *testing.T) {
	section := cat([]byte{5, 6}, layAll(plain()...), example, []byte{0})
	second := uint64(2 + len(layAll(plain()...)))
	want := []api.Abbrev{{Code: 1, Tag: 17, Kids: true, Specs: []api.Spec{{At: 3, Form: 8}}}}
	wantAt(t, "the first one", section, 2, plain(), api.OK)
	wantAt(t, "the second one", section, second, want, api.OK)
	wantAt(t, "its end", section, second+7, nil, api.OK)
	wantAt(t, "the last byte", section, second+8, nil, api.OK)
	wantAt(t, "at the front", example, 0, want, api.OK)
	wantAt(t, "no abbreviation", []byte{0}, 0, nil, api.OK)
}

func TestAtOfNoPlace(t *testing.T) {
	for _, section := range [][]byte{nil, {}, {0}, example, layAll(several(abbrevs)...), make([]byte, 8, 64)} {
		size := uint64(len(section))
		for _, off := range []uint64{size, size + 1, size + 8, size + 1000, 1 << 31, 1 << 32, 1 << 63, 1<<63 + size, top - size, top - 1, top} {
			wantAt(t, "no place", section, off, nil, api.ErrShort)
		}
		if size > 0 {
			wantAt(t, "the last byte", section, size-1, nil, api.OK)
		}
	}
}

// From each place on At tells what Take does.
func TestAtIsTake(t *testing.T) {
	told := map[api.Errno]int{}
	for _, b := range [][]byte{example, layAll(plain()...), layAll(several(30)...), cat(layAll(plain()...), tooLong(), example), layAll(one(pile(pairs)...), api.Abbrev{Code: 1, Tag: 65535})} {
		for _, section := range [][]byte{b, b[:len(b)-1], b[:len(b)/2]} {
			for off := range section {
				l, e := abbrev.Take(cursor.New(section[off:]))
				told[e]++
				wantAt(t, "each place", section, uint64(off), l, e)
			}
		}
	}
	for _, e := range []api.Errno{api.OK, api.ErrAbbrev, api.ErrShort, api.ErrLeb} {
		if told[e] == 0 {
			t.Errorf("told so often: %v", told)
		}
	}
}

func TestAtOfWhatTakeRefuses(t *testing.T) {
	for what, x := range map[string]struct {
		b []byte
		e api.Errno
	}{
		"without end":       {example[:7], api.ErrShort},
		"a byte 2":          {[]byte{1, 2, 2}, api.ErrAbbrev},
		"a tag 0":           {[]byte{1, 0, 0, 0, 0, 0}, api.ErrAbbrev},
		"a code too long":   {tooLong(), api.ErrLeb},
		"too many":          {layAll(several(abbrevs + 1)...), api.ErrBig},
		"too many pairs":    {layAll(one(pile(pairs + 1)...)), api.ErrBig},
		"a code twice":      {layAll(one(), one()), api.ErrAbbrev},
		"the pair (0, 1)":   {[]byte{1, 2, 0, 0, 1, 0, 0, 0}, api.ErrAbbrev},
		"an attribute long": {cat([]byte{1, 2, 0}, tooLong()), api.ErrLeb},
	} {
		for _, ahead := range [][]byte{nil, {0}, example} {
			wantAt(t, what, cat(ahead, x.b), uint64(len(ahead)), nil, x.e)
		}
	}
}
