package group_test

import (
	"fmt"
	"math/rand"
	"reflect"
	"strings"
	"testing"

	"sindri/api"
	"sindri/group"
	"sindri/object"
)

// P10.3

// comdat is an object with one group of a name, whose member is section 2.
func comdat(name string) object.Object { return one(name, 1) }

// loose is one with a group that is not Comdat.
func loose(name string) object.Object { return one(name, 0) }

func one(name string, first uint32) object.Object {
	return made([]string{"", name}, text(".text."+name), section(1, 1, first, 2))
}

// none is an object without groups.
func none() object.Object { return made(nil, text("a")) }

// wrong is one that Take refuses.
func wrong() object.Object { return made([]string{"", "f"}, text("a"), section(1, 1, 1, 0)) }

// many is so many objects without sections.
func many(n int) []object.Object { return make([]object.Object, n) }

func TestExample(t *testing.T) {
	wantLeft(t, "the example", []object.Object{comdat("f"), comdat("f")}, "----", "--x-")
}

func TestLeftOfFew(t *testing.T) {
	wantLeft(t, "no object", nil)
	wantLeft(t, "no object, but no nil", []object.Object{})
	wantLeft(t, "one", []object.Object{comdat("f")}, "----")
	wantLeft(t, "one without sections", many(1), "")
	wantLeft(t, "one without groups", []object.Object{none()}, "---")
	wantLeft(t, "one with a group that is not Comdat", []object.Object{loose("f")}, "----")
	for n := range 65 {
		o := object.Object{Sections: make([]api.Section, n)}
		wantLeft(t, fmt.Sprintf("%d sections", n), []object.Object{o}, strings.Repeat("-", n))
	}
}

func TestLeftOfMost(t *testing.T) {
	wantLeft(t, "the most", many(6), "", "", "", "", "", "")
	f := comdat("f")
	wantLeft(t, "the most, with groups", []object.Object{f, f, none(), {}, f, f}, "----", "--x-", "---", "", "--x-", "--x-")
	for _, n := range []int{7, 8, 100} {
		wantRefused(t, fmt.Sprintf("%d objects", n), many(n), api.ErrBig)
		for _, at := range []int{0, 5, 6, n - 1} {
			all := many(n)
			all[at] = wrong()
			wantRefused(t, fmt.Sprintf("%d objects, of which %d is wrong", n, at), all, api.ErrBig)
		}
	}
	// What lies behind the list's length is not handed in.
	wantLeft(t, "more behind the most", many(9)[:6], "", "", "", "", "", "")
}

// wantRefused looks that Left refuses objects.
func wantRefused(t *testing.T, what string, all []object.Object, e api.Errno) {
	t.Helper()
	before := holds(all)
	if got, err := group.Left(all); len(got) != 0 || err != e {
		t.Errorf("%s: Left = %s, %d, want none, %d", what, show(rows(got)), err, e)
	}
	if !reflect.DeepEqual(holds(all), before) {
		t.Errorf("%s: Left changed what was handed in", what)
	}
}

func TestLeftOfOneThatIsRefused(t *testing.T) {
	for n := 1; n <= 6; n++ {
		for at := range n {
			all := many(n)
			for i := range all {
				all[i] = comdat("f")
			}
			all[at] = wrong()
			wantRefused(t, fmt.Sprintf("%d objects, of which %d is wrong", n, at), all, api.ErrGroup)
		}
	}
}

func TestLeftOfOneObject(t *testing.T) {
	names := []string{"", "f", "g", "f"}
	wantLeft(t, "two of one name", []object.Object{made(names, section(1, 1, 1, 4), section(1, 1, 1, 5), text("a"), text("b"))}, "-----x")
	wantLeft(t, "two of one name, by two symbols", []object.Object{made(names, section(1, 3, 1, 4), section(1, 1, 1, 5), text("a"), text("b"))}, "-----x")
	wantLeft(t, "two of one name, with members the other way round", []object.Object{made(names, section(1, 1, 1, 5), section(1, 1, 1, 4), text("a"), text("b"))}, "----x-")
	wantLeft(t, "two of two names", []object.Object{made(names, section(1, 1, 1, 4), section(1, 2, 1, 5), text("a"), text("b"))}, "------")
	wantLeft(t, "three of one name", []object.Object{made(names, section(1, 1, 1, 5), section(1, 1, 1, 6), section(1, 1, 1, 7, 8), text("a"), text("b"), text("c"), text("d"))}, "------xxx")
	wantLeft(t, "one of another name between", []object.Object{made(names, section(1, 1, 1, 5), section(1, 2, 1, 6), section(1, 1, 1, 7, 8), text("a"), text("b"), text("c"), text("d"))}, "-------xx")
}

func TestLeftOfSomeObjects(t *testing.T) {
	f, g := comdat("f"), comdat("g")
	wantLeft(t, "one name in three", []object.Object{f, f, f}, "----", "--x-", "--x-")
	wantLeft(t, "two names in four", []object.Object{f, g, g, f}, "----", "----", "--x-", "--x-")
	wantLeft(t, "names of one object in others", []object.Object{
		made([]string{"f", "g"}, section(1, 0, 1, 4), section(1, 1, 1, 5), text("a"), text("b")), g, comdat("h"), f,
	}, "------", "--x-", "----", "--x-")
	wantLeft(t, "a name of an object ahead, and then of its own", []object.Object{
		f, made([]string{"f", "g"}, section(1, 0, 1, 5), section(1, 1, 1, 6), section(1, 1, 1, 7, 1), text("a"), text("b"), text("c")),
	}, "----", "-x---x-x")
	wantLeft(t, "objects with no groups between", []object.Object{none(), f, none(), {}, f, none()}, "---", "----", "---", "", "--x-", "---")
	// The symbols' places are no matter, their names are.
	wantLeft(t, "one name at two places", []object.Object{f, made([]string{"", "x", "y", "f"}, text("a"), text("b"), section(1, 3, 1, 2, 3))}, "----", "--xx-")
	wantLeft(t, "two names at one place", []object.Object{f, made([]string{"", "g", "f"}, text("a"), text("b"), section(1, 1, 1, 2, 3))}, "----", "-----")
}

func TestLeftOfTheSameObjectTwice(t *testing.T) {
	o := made([]string{"f", "g"}, section(1, 0, 1, 5, 6), section(1, 1, 1, 7), section(1, 0, 0, 8), text("a"), text("b"), text("c"), text("d"), text("e"))
	wantLeft(t, "the same object twice", []object.Object{o, o}, "----------", "-----xxx--")
}

func TestLeftOfGroupsThatAreNotComdat(t *testing.T) {
	f, l := comdat("f"), loose("f")
	wantLeft(t, "none is Comdat", []object.Object{l, l, l}, "----", "----", "----")
	wantLeft(t, "ahead of one that is", []object.Object{l, f}, "----", "----")
	wantLeft(t, "behind one that is", []object.Object{f, l}, "----", "----")
	wantLeft(t, "between two that are", []object.Object{f, l, f}, "----", "----", "--x-")
	wantLeft(t, "ahead of two that are", []object.Object{l, f, f}, "----", "----", "--x-")
	names := []string{"f"}
	wantLeft(t, "ahead of one in its object", []object.Object{made(names, section(1, 0, 0, 4), section(1, 0, 1, 5), text("a"), text("b"))}, "------")
	wantLeft(t, "behind one in its object", []object.Object{made(names, section(1, 0, 1, 4), section(1, 0, 0, 5), text("a"), text("b"))}, "------")
}

func TestLeftOfNames(t *testing.T) {
	names := []string{"", "f", "F", "f ", "f\x00", "ff", "\xff", "\xfe", ".group", strings.Repeat("x", 200), strings.Repeat("x", 201)}
	for i, a := range names {
		for j, b := range names {
			want := "----"
			if i == j {
				want = "--x-"
			}
			wantLeft(t, fmt.Sprintf("names %.20q, %.20q", a, b), []object.Object{comdat(a), comdat(b)}, "----", want)
		}
	}
	// The first symbol's name is a name like others.
	empty := made([]string{"", ""}, text("a"), section(1, 0, 1, 2))
	wantLeft(t, "the empty name by two symbols", []object.Object{empty, comdat("")}, "----", "--x-")
}

// A group's own section, what is a member of a member, and a section that no
// group has are not left out.
func TestLeftOfOthers(t *testing.T) {
	o := made([]string{"f", "g"}, section(1, 0, 1, 3), section(1, 1, 0, 4), text("a"), text("b"))
	wantLeft(t, "a member of a member", []object.Object{comdat("f"), o}, "----", "---x--")
	// A group that is left out with another one has its name all the same.
	inner := made([]string{"f", "g"}, section(1, 0, 1, 3), section(1, 1, 1, 4), text("a"), text("b"))
	wantLeft(t, "a name of a group that is left out", []object.Object{comdat("f"), inner, comdat("g")}, "----", "---x--", "--x-")
	wantLeft(t, "and of one whose section was not", []object.Object{inner, comdat("g"), inner}, "------", "--x-", "---xx-")
}

func TestLeftIsNewMemory(t *testing.T) {
	all := []object.Object{comdat("f"), comdat("f"), comdat("f")}
	before := holds(all)
	first, _ := group.Left(all)
	second, _ := group.Left(all)
	want := []string{"----", "--x-", "--x-"}
	for i := range first {
		for j := range first[i][:cap(first[i])] {
			first[i][:cap(first[i])][j] = true
		}
		if got := rows(first)[i+1:]; !reflect.DeepEqual(append([]string{}, got...), append([]string{}, want[i+1:]...)) {
			t.Fatalf("rows share memory: %v", got)
		}
	}
	for i := range first[:cap(first)] {
		first[:cap(first)][i] = nil
	}
	if got := rows(second); !reflect.DeepEqual(got, want) || !reflect.DeepEqual(holds(all), before) {
		t.Errorf("answers share memory: %v", got)
	}
}

// Names are not kept from call to call, also not those of a call that is refused.
func TestLeftKeepsNothing(t *testing.T) {
	wantRefused(t, "one that is wrong", []object.Object{comdat("f"), wrong()}, api.ErrGroup)
	for range 3 {
		wantLeft(t, "again", []object.Object{comdat("f"), comdat("f")}, "----", "--x-")
	}
}

// P10.4

// leftAnew is which sections are left out, by the chapter's words: each pair of
// groups is held against each other.
func leftAnew(all []object.Object) []string {
	var met []group.Group
	var left []string
	for _, o := range all {
		row := []byte(strings.Repeat("-", len(o.Sections)))
		groups, _ := group.Take(o)
		for _, g := range groups {
			for _, ahead := range met {
				if !g.Comdat || !ahead.Comdat || g.Name != ahead.Name {
					continue
				}
				for _, m := range g.Members {
					row[m] = 'x'
				}
			}
			met = append(met, g)
		}
		left = append(left, string(row))
	}
	return left
}

// wantFirst looks that of Comdat groups of one name just the first one's members
// are kept, and each section that no such group has.
func wantFirst(t *testing.T, all []object.Object) {
	t.Helper()
	left, e := group.Left(all)
	if e != api.OK || len(left) != len(all) {
		t.Errorf("Left of %s = %s, %d", show(all), show(rows(left)), e)
		return
	}
	met := map[string]bool{}
	for i, o := range all {
		want := make([]bool, len(o.Sections))
		groups, _ := group.Take(o)
		for _, g := range groups {
			for _, m := range g.Members {
				want[m] = g.Comdat && met[g.Name]
			}
			met[g.Name] = met[g.Name] || g.Comdat
		}
		if !reflect.DeepEqual(append([]bool{}, left[i]...), want) {
			t.Errorf("Left of %s, object %d = %v, want %v", show(all), i, left[i], want)
		}
	}
}

func TestLeftByChance(t *testing.T) {
	r := rand.New(rand.NewSource(11))
	out := 0
	for range 6000 {
		var all []object.Object
		for range r.Intn(7) {
			o := chance(r)
			for refused(o) {
				o = chance(r)
			}
			all = append(all, o)
		}
		wantLeft(t, show(all), all, leftAnew(all)...)
		wantFirst(t, all)
		if t.Failed() {
			return
		}
		if strings.Contains(strings.Join(leftAnew(all), ""), "x") {
			out++
		}
	}
	if out < 100 {
		t.Errorf("something was left out just %d times", out)
	}
}

// Objects that are put and taken tell the groups that their bytes were made of.
func TestGroupsOfFiles(t *testing.T) {
	want := group.Group{At: 3, Comdat: true, Name: "f", Members: []int{2, 1}}
	o := object.Object{
		Type: 1, Machine: api.X86,
		Sections: []api.Section{{}, text(".text.f"), text(".text.g"), {Name: ".group", Type: 17, Link: 4, Info: 1, Data: group.Bytes(want), Align: 4, Ent: 4}},
		Syms:     symbols("", "f"),
	}
	b, e := object.Put(o)
	if e != api.OK {
		t.Fatalf("Put = %d", e)
	}
	taken, e := object.Take(b)
	if e != api.OK {
		t.Fatalf("object.Take = %d", e)
	}
	wantTake(t, "an object of a file", taken, want)
	wantLeft(t, "objects of a file", []object.Object{taken, taken}, "-------", "-xx----")
}
