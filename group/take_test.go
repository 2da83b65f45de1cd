package group_test

import (
	"bytes"
	"fmt"
	"math"
	"math/rand"
	"reflect"
	"slices"
	"strings"
	"testing"

	"sindri/api"
	"sindri/group"
	"sindri/object"
)

// P10.1

func TestTake(t *testing.T) {
	names := []string{"", "f", "g"}
	wantTake(t, "one", made(names, text(".text.f"), section(1, 1, 1, 2)), group.Group{At: 3, Comdat: true, Name: "f", Members: []int{2}})
	wantTake(t, "one that is not Comdat", made(names, text(".text.f"), section(1, 2, 0, 2)), group.Group{At: 3, Name: "g", Members: []int{2}})
	wantTake(t, "members in their order", made(names, text("a"), text("b"), section(1, 1, 1, 5, 3, 2), text("c"), text("d")),
		group.Group{At: 4, Comdat: true, Name: "f", Members: []int{5, 3, 2}})
	wantTake(t, "several", made(names, section(1, 2, 1, 5), text("a"), section(1, 1, 0, 3, 7), text("b"), section(1, 2, 1, 8), text("c"), text("d")),
		group.Group{At: 2, Comdat: true, Name: "g", Members: []int{5}},
		group.Group{At: 4, Name: "f", Members: []int{3, 7}},
		group.Group{At: 6, Comdat: true, Name: "g", Members: []int{8}})
}

func TestTakeOfNoGroup(t *testing.T) {
	wantTake(t, "nothing", object.Object{})
	wantTake(t, "no section", object.Object{Syms: symbols("", "f")})
	wantTake(t, "no section, but no nil", object.Object{Sections: []api.Section{}, Syms: []api.Symbol{}})
	wantTake(t, "the first section", object.Object{Sections: []api.Section{{}}})
	wantTake(t, "the section of symbols", made(nil))
	wantTake(t, "no section of symbols", object.Object{Sections: []api.Section{{}, text("a")}})
	for _, kind := range []int{math.MinInt, -17, -1, 0, 1, 3, 4, 7, 8, 9, 16, 18, 17 + 1<<8, 17 + 1<<32, math.MaxInt} {
		s := section(1, 1, 1, 3)
		s.Type = kind
		wantTake(t, fmt.Sprintf("Type %d", kind), made([]string{"", "f"}, s, text("a")))
		s.Link, s.Info, s.Data = -1, -1, []byte("wrong")
		wantTake(t, fmt.Sprintf("Type %d, and no group's bytes", kind), made([]string{"", "f"}, s, text("a")))
	}
}

// What is no matter to groups may be anything.
func TestTakeOfOtherNumbers(t *testing.T) {
	s := section(1, 1, 1, 3)
	s.Name, s.Flags, s.Addr, s.Align, s.Ent = strings.Repeat("n", 300), math.MaxUint64, math.MaxUint64, -1, math.MinInt
	o := made([]string{"", "f"}, s, text("a"))
	o.Type, o.Machine = -1, math.MaxInt
	o.Relas = [][]api.Rela{{{Sym: 99, Type: -1}}}
	o.Sections[1].Link, o.Sections[1].Info, o.Sections[1].Data = -5, 77, []byte("odd")
	o.Syms[1] = api.Symbol{Name: "f", Bind: -1, Type: 99, Sect: 3, Value: math.MaxUint64, Size: 1}
	wantTake(t, "other numbers", o, group.Group{At: 2, Comdat: true, Name: "f", Members: []int{3}})
}

func TestTakeOfLinks(t *testing.T) {
	for _, link := range []int{math.MinInt, -2, -1, 0, 2, 3, 4, 1 + 1<<32, limit, math.MaxInt} {
		wantNone(t, fmt.Sprintf("Link %d", link), made([]string{"", "f"}, section(link, 1, 1, 3), text("a")))
	}
}

func TestTakeWithoutSymbols(t *testing.T) {
	for _, link := range []int{math.MinInt, -1, 0, 1, 2, 3, math.MaxInt} {
		o := made([]string{"", "f"}, section(link, 1, 1, 3), text("a"))
		o.Sections[1].Type = 3
		wantNone(t, fmt.Sprintf("no section of Type 2, Link %d", link), o)
	}
}

func TestTakeOfSymbolsElsewhere(t *testing.T) {
	want := group.Group{At: 1, Comdat: true, Name: "f", Members: []int{2}}
	behind := func(link int) object.Object {
		return object.Object{Sections: []api.Section{{}, section(link, 1, 1, 2), text("a"), table()}, Syms: symbols("", "f")}
	}
	wantTake(t, "symbols behind the group", behind(3), want)
	for _, link := range []int{-1, 0, 1, 2, 4} {
		wantNone(t, fmt.Sprintf("symbols behind the group, Link %d", link), behind(link))
	}
	first := func(link int) object.Object {
		return object.Object{Sections: []api.Section{table(), section(link, 1, 1, 2), text("a")}, Syms: symbols("", "f")}
	}
	wantTake(t, "symbols at place 0", first(0), want)
	for _, link := range []int{-1, 1, 2, 3} {
		wantNone(t, fmt.Sprintf("symbols at place 0, Link %d", link), first(link))
	}
	two := func(link int) object.Object {
		return object.Object{Sections: []api.Section{{}, section(link, 1, 1, 2), text("a"), table(), table()}, Syms: symbols("", "f")}
	}
	wantTake(t, "two of Type 2, Link the first one's", two(3), want)
	wantNone(t, "two of Type 2, Link the second one's", two(4))
	wantNone(t, "two of Type 2 around the group, Link the second one's", made([]string{"", "f"}, section(4, 1, 1, 3), text("a"), table()))
	wantTake(t, "two of Type 2 around the group, Link the first one's", made([]string{"", "f"}, section(1, 1, 1, 3), text("a"), table()),
		group.Group{At: 2, Comdat: true, Name: "f", Members: []int{3}})
}

func TestTakeOfInfos(t *testing.T) {
	names := []string{"", "f", "last"}
	for info, name := range names {
		wantTake(t, fmt.Sprintf("Info %d", info), made(names, section(1, info, 1, 3), text("a")), group.Group{At: 2, Comdat: true, Name: name, Members: []int{3}})
	}
	for _, info := range []int{math.MinInt, -2, -1, 3, 4, 1 << 32, 1<<32 + 1, limit, math.MaxInt} {
		wantNone(t, fmt.Sprintf("Info %d", info), made(names, section(1, info, 1, 3), text("a")))
	}
	for _, info := range []int{-1, 0, 1} {
		wantNone(t, fmt.Sprintf("no symbols, Info %d", info), made(nil, section(1, info, 1, 3), text("a")))
	}
	behind := made(names, section(1, 2, 1, 3), text("a"))
	behind.Syms = behind.Syms[:2]
	wantNone(t, "a symbol behind the list's length", behind)
}

// A name is the symbol's, whatever it is, and neither the section's nor the
// members'.
func TestTakeOfNames(t *testing.T) {
	for _, name := range []string{"", ".group", "a", "f\x00g", "\xff", strings.Repeat("x", 300)} {
		wantTake(t, fmt.Sprintf("name %.20q", name), made([]string{"x", name, "y"}, section(1, 1, 0, 3), text("a")), group.Group{At: 2, Name: name, Members: []int{3}})
	}
}

func TestTakeOfBytes(t *testing.T) {
	whole := numbers(1, 3, 4, 5)
	of := func(b []byte) object.Object {
		s := section(1, 1)
		s.Data = b
		return made([]string{"", "f"}, s, text("a"), text("b"), text("c"))
	}
	for n := 0; n <= len(whole); n++ {
		what := fmt.Sprintf("%d bytes", n)
		if n%4 != 0 || n < 8 {
			wantNone(t, what, of(whole[:n:n]))
			wantNone(t, what+", and more behind them", of(whole[:n]))
			continue
		}
		want := group.Group{At: 2, Comdat: true, Name: "f", Members: []int{3, 4, 5}[:n/4-1]}
		wantTake(t, what, of(whole[:n:n]), want)
		wantTake(t, what+", and more behind them", of(whole[:n]), want)
	}
	for _, b := range [][]byte{nil, {}, {0}, {1}, numbers(0), {1, 0, 0, 0, 3}, {1, 0, 0, 0, 3, 0}, {1, 0, 0, 0, 3, 0, 0}, append(numbers(1, 3), 0), append(numbers(1, 3), 4)} {
		wantNone(t, fmt.Sprintf("bytes %v", b), of(b))
	}
}

func TestTakeOfFirstNumbers(t *testing.T) {
	for first, is := range map[uint32]bool{0: false, 1: true} {
		wantTake(t, fmt.Sprintf("first %d", first), made([]string{"", "f"}, section(1, 1, first, 3), text("a")), group.Group{At: 2, Comdat: is, Name: "f", Members: []int{3}})
	}
	for _, first := range []uint32{2, 3, 4, 17, 255, 256, 0x101, 0x100, 0x10001, 1 << 16, 0x1000001, 1 << 24, 1 << 31, 1<<31 + 1, math.MaxUint32} {
		wantNone(t, fmt.Sprintf("first %#x", first), made([]string{"", "f"}, section(1, 1, first, 3), text("a")))
	}
}

func TestTakeOfMembers(t *testing.T) {
	of := func(l ...uint32) object.Object {
		return made([]string{"", "f"}, text("a"), section(1, 1, append([]uint32{1}, l...)...), text("b"), text("c"))
	}
	for _, place := range []uint32{1, 2, 4, 5} {
		wantTake(t, fmt.Sprintf("place %d", place), of(place), group.Group{At: 3, Comdat: true, Name: "f", Members: []int{int(place)}})
	}
	wantTake(t, "all that may be", of(5, 4, 2, 1), group.Group{At: 3, Comdat: true, Name: "f", Members: []int{5, 4, 2, 1}})
	// 0, its own, and from as many as there are sections on, also those that are
	// some place in their lowest bytes or below 0 as signed numbers.
	for _, place := range []uint32{0, 3, 6, 7, 64, 256, 258, 0x10002, 1<<24 + 2, limit, limit + 1, 1<<31 + 2, math.MaxUint32 - 1, math.MaxUint32} {
		what := fmt.Sprintf("place %#x", place)
		wantNone(t, what, of(place))
		wantNone(t, what+", the first one of two", of(place, 2))
		wantNone(t, what+", the second one of two", of(2, place))
		wantNone(t, what+", the last one of three", of(2, 4, place))
	}
	shorter := of(5)
	shorter.Sections = shorter.Sections[:5]
	wantNone(t, "a section behind the list's length", shorter)
}

func TestTakeOfMembersThatWereOnes(t *testing.T) {
	names := []string{"", "f", "g"}
	for _, l := range [][]uint32{{1, 2, 2}, {0, 2, 2}, {1, 2, 4, 2}, {1, 4, 2, 2}, {1, 2, 4, 4}, {1, 1, 1}} {
		wantNone(t, fmt.Sprintf("in one group %v", l), made(names, text("a"), section(1, 1, l...), text("b")))
	}
	for _, first := range []uint32{0, 1} {
		for _, second := range []uint32{0, 1} {
			for _, info := range []int{1, 2} {
				wantNone(t, fmt.Sprintf("in two groups of %d, %d, Info %d", first, second, info),
					made(names, text("a"), section(1, 1, first, 2), section(1, info, second, 2)))
			}
		}
	}
	wantNone(t, "in two groups, behind others", made(names, text("a"), text("b"), section(1, 1, 1, 2), section(1, 2, 1, 3, 2)))
	wantNone(t, "in the first and the third group", made(names, text("a"), text("b"), section(1, 1, 1, 2), section(1, 2, 1, 3), section(1, 2, 1, 2)))
	wantTake(t, "another list of the same group's places", made(names, text("a"), text("b"), section(1, 1, 1, 2), section(1, 1, 1, 3)),
		group.Group{At: 4, Comdat: true, Name: "f", Members: []int{2}}, group.Group{At: 5, Comdat: true, Name: "f", Members: []int{3}})
}

// A group may be a member of another one, of any place but its own.
func TestTakeOfGroupsThatAreMembers(t *testing.T) {
	names := []string{"", "f", "g"}
	wantTake(t, "the one behind", made(names, section(1, 1, 1, 3), section(1, 2, 0, 4), text("a")),
		group.Group{At: 2, Comdat: true, Name: "f", Members: []int{3}}, group.Group{At: 3, Name: "g", Members: []int{4}})
	wantTake(t, "the one ahead", made(names, section(1, 1, 1, 4), section(1, 2, 0, 2), text("a")),
		group.Group{At: 2, Comdat: true, Name: "f", Members: []int{4}}, group.Group{At: 3, Name: "g", Members: []int{2}})
	wantTake(t, "each other", made(names, section(1, 1, 1, 3), section(1, 2, 0, 2)),
		group.Group{At: 2, Comdat: true, Name: "f", Members: []int{3}}, group.Group{At: 3, Name: "g", Members: []int{2}})
	wantTake(t, "the section of symbols", made(names, section(1, 1, 1, 1)), group.Group{At: 2, Comdat: true, Name: "f", Members: []int{1}})
}

// The first section is one, too, if it is of Type 17, but no member.
func TestTakeOfTheFirstSection(t *testing.T) {
	o := made([]string{"", "f"}, text("a"))
	o.Sections[0] = section(1, 1, 1, 2)
	wantTake(t, "the first section", o, group.Group{Comdat: true, Name: "f", Members: []int{2}})
	o.Sections[0] = section(1, 1, 1, 0)
	wantNone(t, "the first section, its own member", o)
	o.Sections[0] = section(0, 1, 1, 2)
	wantNone(t, "the first section, Link to itself", o)
}

// A group that is refused leaves none, wherever it stands.
func TestTakeOfOneThatIsRefused(t *testing.T) {
	names := []string{"", "f"}
	wrongs := []api.Section{
		section(2, 1, 1, 6), section(1, 2, 1, 6), section(1, 1, 1), section(1, 1, 2, 6), section(1, 1, 1, 0), section(1, 1, 1, 9), section(1, 1, 1, 8, 8),
	}
	for i, wrong := range wrongs {
		right := func(member uint32) api.Section { return section(1, 1, 1, member) }
		wantNone(t, fmt.Sprintf("wrong %d ahead", i), made(names, wrong, right(5), right(6), text("a"), text("b"), text("c"), text("d")))
		wantNone(t, fmt.Sprintf("wrong %d between", i), made(names, right(5), wrong, right(6), text("a"), text("b"), text("c"), text("d")))
		wantNone(t, fmt.Sprintf("wrong %d behind", i), made(names, right(5), right(7), wrong, text("a"), text("b"), text("c"), text("d")))
	}
}

func TestTakeIsNewMemory(t *testing.T) {
	o := made([]string{"", "f"}, section(1, 1, 1, 5, 6, 7), section(1, 1, 0, 8), section(1, 1, 1, 9), text("a"), text("b"), text("c"), text("d"), text("e"))
	want := []group.Group{
		{At: 2, Comdat: true, Name: "f", Members: []int{5, 6, 7}},
		{At: 3, Name: "f", Members: []int{8}},
		{At: 4, Comdat: true, Name: "f", Members: []int{9}},
	}
	o.Sections = o.Sections[:10]
	before := held(o)
	first, _ := group.Take(o)
	second, _ := group.Take(o)
	for i := range first {
		for j := range first[i].Members[:cap(first[i].Members)] {
			first[i].Members[:cap(first[i].Members)][j] = -1
		}
		for j, g := range first[i+1:] {
			if !reflect.DeepEqual(g.Members, want[i+1+j].Members) {
				t.Fatalf("members of groups share memory: %v", first)
			}
		}
	}
	for i := range first[:cap(first)] {
		first[:cap(first)][i] = group.Group{}
	}
	if !same(second, want) || !reflect.DeepEqual(held(o), before) {
		t.Errorf("groups share memory: %v", second)
	}
	wantTake(t, "again", o, want...)
}

// What is handed in afterwards changes nothing of what was told.
func TestTakeKeepsNothing(t *testing.T) {
	o := made([]string{"", "f"}, section(1, 1, 1, 3), text("a"))
	got, _ := group.Take(o)
	for i := range o.Sections[2].Data {
		o.Sections[2].Data[i] = 9
	}
	o.Syms[1].Name, o.Sections[2] = "x", api.Section{}
	if !same(got, []group.Group{{At: 2, Comdat: true, Name: "f", Members: []int{3}}}) {
		t.Errorf("what was told became %v", got)
	}
}

// The most that the limits of an object let: a great group, and many groups.
func TestTakeOfMany(t *testing.T) {
	great := made([]string{"f"}, section(1, 0, 1))
	want := group.Group{At: 2, Comdat: true, Name: "f"}
	for i := 3; i < 64; i++ {
		great.Sections = append(great.Sections, text("a"))
		great.Sections[2].Data = append(great.Sections[2].Data, numbers(uint32(i))...)
		want.Members = append(want.Members, i)
	}
	wantTake(t, "a great group", great, want)
	many := made([]string{"f"})
	var wants []group.Group
	for i := 2; i < 33; i++ {
		many.Sections = append(many.Sections, section(1, 0, 0, uint32(i+31)))
		wants = append(wants, group.Group{At: i, Name: "f", Members: []int{i + 31}})
	}
	for range 31 {
		many.Sections = append(many.Sections, text("a"))
	}
	wantTake(t, "many groups", many, wants...)
}

// refused tells by the chapter's words whether an object's groups are refused.
func refused(o object.Object) bool {
	table := slices.IndexFunc(o.Sections, func(s api.Section) bool { return s.Type == 2 })
	members := map[uint32]bool{}
	for at, s := range o.Sections {
		if s.Type != 17 {
			continue
		}
		if table == -1 || s.Link != table || s.Info < 0 || s.Info >= len(o.Syms) || len(s.Data)%4 != 0 || len(s.Data) < 8 {
			return true
		}
		for i := 0; i < len(s.Data); i += 4 {
			n := uint32(s.Data[i]) | uint32(s.Data[i+1])<<8 | uint32(s.Data[i+2])<<16 | uint32(s.Data[i+3])<<24
			if i == 0 && n > 1 || i > 0 && (n == 0 || int64(n) >= int64(len(o.Sections)) || int(n) == at || members[n]) {
				return true
			}
			if i > 0 {
				members[n] = true
			}
		}
	}
	return false
}

// wantTold looks at what Take tells of an object by what Bytes tells of it.
func wantTold(t *testing.T, o object.Object) {
	t.Helper()
	if refused(o) {
		wantNone(t, show(o), o)
		return
	}
	got, e := group.Take(o)
	if e != api.OK {
		t.Errorf("Take of %s = %d", show(o), e)
	}
	for at, s := range o.Sections {
		if s.Type != 17 {
			continue
		}
		if len(got) == 0 || got[0].At != at || got[0].Name != o.Syms[s.Info].Name || !bytes.Equal(group.Bytes(got[0]), s.Data) {
			t.Errorf("Take of %s = %s", show(o), show(got))
			return
		}
		got = got[1:]
	}
	if len(got) > 0 {
		t.Errorf("Take of %s tells too many: %s", show(o), show(got))
	}
}

func TestTakeByChance(t *testing.T) {
	r := rand.New(rand.NewSource(10))
	told := 0
	for range 20000 {
		o := chance(r)
		wantTold(t, o)
		if t.Failed() {
			return
		}
		if !refused(o) {
			told++
		}
	}
	if told < 1000 {
		t.Errorf("just %d objects were taken", told)
	}
}

// chance is some object, which is now and then wrong.
func chance(r *rand.Rand) object.Object {
	o := object.Object{Syms: symbols([]string{"", "f", "g", "f"}[:r.Intn(5)]...)}
	count := r.Intn(9)
	table := r.Intn(3)
	var free []int
	for i := range count {
		free = append(free, i)
	}
	r.Shuffle(len(free), func(i, j int) { free[i], free[j] = free[j], free[i] })
	for at := range count {
		s := text("a")
		switch {
		case at == table:
			s = api.Section{Type: 2}
		case r.Intn(3) == 0:
			s = section(table, r.Intn(max(len(o.Syms), 1)), uint32(r.Intn(2)))
			for range 1 + r.Intn(3) {
				if len(free) > 0 {
					s.Data = append(s.Data, numbers(uint32(free[0]))...)
					free = free[1:]
				}
			}
		}
		if r.Intn(40) == 0 {
			s.Link += r.Intn(3) - 1
		}
		if r.Intn(40) == 0 {
			s.Info += r.Intn(5) - 2
		}
		if len(s.Data) > 0 && r.Intn(20) == 0 {
			s.Data[r.Intn(len(s.Data))]++
		}
		if r.Intn(40) == 0 {
			s.Data = append(s.Data, make([]byte, r.Intn(5))...)
		}
		o.Sections = append(o.Sections, s)
	}
	return o
}
