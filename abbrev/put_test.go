package abbrev_test

import (
	"bytes"
	"fmt"
	"math"
	"slices"
	"testing"

	"sindri/abbrev"
	"sindri/api"
)

// P13.3

func TestPut(t *testing.T) {
	wantPut(t, "plain", plain(), layAll(plain()...))
	wantPut(t, "several", several(50), layAll(several(50)...))
	back := plain()
	slices.Reverse(back)
	for i := range back {
		slices.Reverse(back[i].Specs)
	}
	wantPut(t, "the other way round", back, layAll(back...))
	for i, a := range plain() {
		wantPut(t, fmt.Sprintf("number %d alone", i), []api.Abbrev{a}, layAll(a))
	}
	wantPut(t, "each of its bytes", []api.Abbrev{{Code: 300, Tag: 200, Kids: true, Specs: []api.Spec{{At: 128, Form: constant, Implicit: -129}, {At: 127, Form: 65535}}}},
		[]byte{0xac, 2, 0xc8, 1, 1, 0x80, 1, 33, 0xff, 0x7e, 0x7f, 0xff, 0xff, 3, 0, 0, 0})
}

func TestPutOfNothing(t *testing.T) {
	wantPut(t, "nil", nil, []byte{0})
	wantPut(t, "no abbreviation", []api.Abbrev{}, []byte{0})
	wantPut(t, "no pair", []api.Abbrev{{Code: 1, Tag: 1}}, []byte{1, 1, 0, 0, 0, 0})
	wantPut(t, "no pair, but no nil", []api.Abbrev{{Code: 1, Tag: 1, Kids: true, Specs: []api.Spec{}}}, []byte{1, 1, 1, 0, 0, 0})
}

func TestPutOfCodes(t *testing.T) {
	for _, code := range []uint64{1, 2, 127, 128, 65535, 65536, 1<<32 - 1, 1 << 32, 1 << 63, top - 1, top} {
		l := table()
		l[0].Code = code
		wantPut(t, fmt.Sprintf("code %d", code), l, placed(atCode, u(code)))
	}
	l := table()
	l[0].Code = 0
	wantWrong(t, "code 0", l)
	for at := range plain() {
		l := plain()
		l[at].Code = 0
		wantWrong(t, fmt.Sprintf("code 0 at %d", at), l)
	}
}

func TestPutOfACodeTwice(t *testing.T) {
	for i := range plain() {
		for j := range i {
			l := plain()
			l[i].Code = l[j].Code
			wantWrong(t, fmt.Sprintf("the code of %d at %d", j, i), l)
		}
		l := append(plain(), plain()[i])
		wantWrong(t, fmt.Sprintf("all of %d twice", i), l)
	}
	for _, x := range [][2]int{{0, 1}, {0, abbrevs - 1}, {abbrevs - 2, abbrevs - 1}} {
		l := several(abbrevs)
		l[x[1]].Code = l[x[0]].Code
		wantWrong(t, fmt.Sprintf("a code at %v", x), l)
	}
	// Codes that differ in their high bits alone are others.
	l := []api.Abbrev{{Code: 1, Tag: 1}, {Code: 1<<32 + 1, Tag: 1}, {Code: 1<<63 + 1, Tag: 1}, {Code: 1<<16 + 1, Tag: 1}}
	wantPut(t, "codes that differ high up", l, layAll(l...))
}

// beyond are numbers that no tag, attribute or form is.
func beyond() []int {
	return []int{0, -1, -65535, 65536, 65537, 1 << 31, 1 << 32, 1<<32 + 3, 1<<32 + constant, math.MaxInt, math.MinInt, math.MinInt + 3}
}

func TestPutOfTags(t *testing.T) {
	for _, n := range []int{1, 2, 127, 128, 65534, 65535} {
		l := table()
		l[0].Tag = n
		wantPut(t, fmt.Sprintf("tag %d", n), l, placed(atTag, u(uint64(n))))
	}
	for _, n := range beyond() {
		for at := range plain() {
			l := plain()
			l[at].Tag = n
			wantWrong(t, fmt.Sprintf("tag %d at %d", n, at), l)
		}
	}
}

func TestPutOfAttributesAndForms(t *testing.T) {
	for _, n := range []int{1, 2, 127, 128, 65534, 65535} {
		l := table()
		l[0].Specs[0].At = n
		wantPut(t, fmt.Sprintf("attribute %d", n), l, placed(atAttr, u(uint64(n))))
		l = table()
		l[0].Specs[0].Form = n
		wantPut(t, fmt.Sprintf("form %d", n), l, placed(atForm, u(uint64(n))))
	}
	for _, n := range beyond() {
		for i, a := range plain() {
			for j := range a.Specs {
				l := plain()
				l[i].Specs[j].At = n
				wantWrong(t, fmt.Sprintf("attribute %d at %d, %d", n, i, j), l)
				l = plain()
				l[i].Specs[j].Form = n
				wantWrong(t, fmt.Sprintf("form %d at %d, %d", n, i, j), l)
				l = plain()
				l[i].Specs[j].Form, l[i].Specs[j].Implicit = n, 0
				wantWrong(t, fmt.Sprintf("form %d at %d, %d, with no constant", n, i, j), l)
				l[i].Specs[j] = api.Spec{}
				wantWrong(t, fmt.Sprintf("neither at %d, %d", i, j), l)
			}
		}
	}
}

func TestPutOfAnAttributeTwice(t *testing.T) {
	for i, a := range plain() {
		for j := range a.Specs {
			for k := range j {
				l := plain()
				l[i].Specs[j].At = l[i].Specs[k].At
				wantWrong(t, fmt.Sprintf("an attribute at %d, %d and %d", i, k, j), l)
			}
			l := plain()
			l[i].Specs = append(l[i].Specs, l[i].Specs[j])
			wantWrong(t, fmt.Sprintf("all of %d, %d twice", i, j), l)
		}
	}
	l := []api.Abbrev{one(pile(pairs)...)}
	l[0].Specs[pairs-1].At = l[0].Specs[0].At
	wantWrong(t, "the first one at last", l)
	l = []api.Abbrev{{Code: 1, Tag: 1, Specs: pile(4)}, {Code: 2, Tag: 1, Specs: pile(4)}}
	wantPut(t, "an attribute in two", l, layAll(l...))
	l = []api.Abbrev{one(api.Spec{At: 3, Form: 5}, api.Spec{At: 5, Form: 3}, api.Spec{At: 4, Form: 3}, api.Spec{At: 1, Form: 5})}
	wantPut(t, "a form twice", l, layAll(l...))
}

func TestPutOfConstants(t *testing.T) {
	for _, n := range []int64{0, 1, -1, 63, 64, -64, -65, 300, 1 << 32, most, least} {
		l := table()
		l[0].Specs[1].Implicit = n
		wantPut(t, fmt.Sprintf("constant %d", n), l, placed(atImplicit, s(n)))
		if n == 0 {
			continue
		}
		for _, form := range []int{1, 8, 11, 13, 32, 34, 289, 65535} {
			l[0].Specs[1].Form = form
			wantWrong(t, fmt.Sprintf("constant %d of form %d", n, form), l)
		}
		for i, a := range plain() {
			for j, p := range a.Specs {
				if p.Form != constant {
					l := plain()
					l[i].Specs[j].Implicit = n
					wantWrong(t, fmt.Sprintf("constant %d at %d, %d", n, i, j), l)
				}
			}
		}
	}
}

func TestPutOfSoMany(t *testing.T) {
	for _, n := range []int{1, 2, 100, abbrevs - 1, abbrevs} {
		wantPut(t, fmt.Sprintf("%d of them", n), several(n), layAll(several(n)...))
	}
	for _, n := range []int{abbrevs + 1, abbrevs + 2, 1000} {
		l := make([]api.Abbrev, n)
		for i := range l {
			l[i] = api.Abbrev{Code: uint64(i + 1), Tag: 1}
		}
		wantWrong(t, fmt.Sprintf("%d of them", n), l)
	}
	for at := range 3 {
		for _, n := range []int{0, 1, pairs - 1, pairs} {
			l := several(3)
			l[at].Specs = pile(n)
			wantPut(t, fmt.Sprintf("%d pairs at %d", n, at), l, layAll(l...))
		}
		for _, n := range []int{pairs + 1, pairs + 2, 1000} {
			l := several(3)
			l[at].Specs = pile(n)
			wantWrong(t, fmt.Sprintf("%d pairs at %d", n, at), l)
		}
	}
	l := several(abbrevs)
	for i := range l {
		l[i].Specs = pile(pairs)
	}
	wantPut(t, "the most of all", l, layAll(l...))
}

// What lies behind a list's length is neither looked at nor put.
func TestPutOfSpareRoom(t *testing.T) {
	wantPut(t, "room behind all lists", roomy(plain()), layAll(plain()...))
	wantPut(t, "room behind no abbreviation", roomy(nil), []byte{0})
	for n := range plain() {
		wantPut(t, "a part of a table", plain()[:n], layAll(plain()[:n]...))
	}
	l := plain()
	l[3].Code = 0
	wantPut(t, "a part that may be", l[:3], layAll(plain()[:3]...))
	wantWrong(t, "all of it", roomy(l))
}

// What is put behind bytes leaves them, and what is ahead of them and behind.
func TestPutBehindAPartOfBytes(t *testing.T) {
	room := bytes.Repeat([]byte{77}, 1000)
	want := layAll(plain()...)
	b, e := abbrev.Put(room[10:20], plain())
	if !bytes.Equal(b, cat(room[:10], want)) || e != api.OK {
		t.Errorf("Put = %x, %d", b, e)
	}
	if !bytes.Equal(room[:20], bytes.Repeat([]byte{77}, 20)) || !bytes.Equal(room[20+len(want):], bytes.Repeat([]byte{77}, 1000-20-len(want))) {
		t.Error("Put wrote elsewhere")
	}
}

func wantFound(t *testing.T, what string, l []api.Abbrev, code uint64, want api.Abbrev) {
	t.Helper()
	before := held(l)
	if a, ok := abbrev.Find(l, code); !ok || !same([]api.Abbrev{a}, []api.Abbrev{want}) {
		t.Errorf("%s: Find(%d) = %+v, %v, want %+v", what, code, a, ok, want)
	}
	if !same(held(l), before) {
		t.Errorf("%s: Find changed the table", what)
	}
}

func wantNotFound(t *testing.T, what string, l []api.Abbrev, code uint64) {
	t.Helper()
	if a, ok := abbrev.Find(l, code); ok || a.Code != 0 || a.Tag != 0 || a.Kids || len(a.Specs) != 0 {
		t.Errorf("%s: Find(%d) = %+v, %v", what, code, a, ok)
	}
}

func TestFind(t *testing.T) {
	for _, l := range [][]api.Abbrev{plain(), several(1), several(2), several(abbrevs), roomy(plain())} {
		for _, a := range l {
			wantFound(t, "each one", l, a.Code, a)
		}
		for _, code := range []uint64{0, abbrevs + 1, 65536, 1<<32 + 1, 1<<63 + 1, top - 1} {
			wantNotFound(t, "a code that none has", l, code)
		}
	}
	for _, code := range []uint64{0, 1, top} {
		wantNotFound(t, "in nil", nil, code)
		wantNotFound(t, "in none", []api.Abbrev{}, code)
		wantNotFound(t, "behind the length", plain()[:0], code)
	}
	wantNotFound(t, "behind the length", plain()[:3], top)
}

// It is found by its code alone, in whatever table, the first one of several.
func TestFindInATableThatMayNotBe(t *testing.T) {
	l := []api.Abbrev{{Code: 5, Tag: -1}, {Code: 0, Tag: 1}, {Code: 5, Tag: 2}, {Code: 0, Tag: 3}, {Code: 6, Specs: []api.Spec{{}, {}}}}
	wantFound(t, "the first one of two", l, 5, l[0])
	wantFound(t, "code 0", l, 0, l[1])
	wantFound(t, "one that may not be", l, 6, l[4])
	wantNotFound(t, "a tag", l, 1)
	many := slices.Concat(several(abbrevs), several(abbrevs+50))
	wantFound(t, "among too many", many, abbrevs+50, several(abbrevs + 50)[0])
	wantFound(t, "the first one among too many", many, abbrevs, several(abbrevs)[0])
}
