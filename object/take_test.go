package object_test

import (
	"bytes"
	"encoding/binary"
	"math/rand"
	"reflect"
	"testing"

	"sindri/api"
	"sindri/object"
	"sindri/sects"
)

// P9.1

// The places of plain's sections.
const (
	text = 1 + iota
	info
	str
	symtab
	strtab
	relaInfo
	relaText
	shstrtab
)

func plainSymbols() []api.Symbol {
	return []api.Symbol{
		{},
		{Name: "main", Bind: 1, Type: 2, Sect: text, Value: 0x10, Size: 0x20},
		{Name: "", Type: 3, Sect: info},
		{Name: "abs", Bind: 1, Sect: 65521, Value: top},
		{Name: "far", Bind: 2},
	}
}

func infoRelas() []api.Rela {
	return []api.Rela{{Off: 1, Sym: 2, Type: 10, Add: -4}, {Off: 0, Sym: 0, Type: 1}, {Off: top, Sym: 4, Type: limit, Add: 5}}
}

func textRelas() []api.Rela { return []api.Rela{{Off: 2, Sym: 3, Type: 2, Add: -1 << 63}} }

// plain is sections of an object with symbols, and with relocations of two.
func plain() []api.Section {
	entries, names := symbolBytes(plainSymbols()...)
	return []api.Section{
		{},
		{Name: ".text", Type: 1, Flags: 6, Addr: 0x1000, Data: []byte("code"), Align: 16},
		{Name: ".debug_info", Type: 1, Data: []byte("info"), Link: 3, Info: 4, Align: 1, Ent: 5},
		{Name: ".debug_str", Type: 1, Flags: 0x30, Data: []byte("str\x00"), Align: 1, Ent: 1},
		{Name: ".symtab", Type: 2, Data: entries, Link: strtab, Info: 1, Align: 8, Ent: 24},
		{Name: ".strtab", Type: 3, Data: names, Align: 1},
		{Name: ".rela.debug_info", Type: 4, Flags: 0x40, Data: relaBytes(infoRelas()...), Link: symtab, Info: info, Align: 8, Ent: 24},
		{Name: ".rela.text", Type: 4, Data: relaBytes(textRelas()...), Link: symtab, Info: text},
		{Name: ".shstrtab", Type: 3},
	}
}

// plainRelas is the relocations of plain's sections.
func plainRelas() map[int][]api.Rela {
	return map[int][]api.Rela{text: textRelas(), info: infoRelas()}
}

// changed is plain with a change.
func changed(change func(l []api.Section)) []api.Section {
	l := plain()
	change(l)
	return l
}

// withSymbols is plain with other symbols.
func withSymbols(named ...api.Symbol) []api.Section {
	l := plain()
	l[symtab].Data, l[strtab].Data = symbolBytes(named...)
	return l
}

// into is sections with others ahead of the last one.
func into(l []api.Section, more ...api.Section) []api.Section {
	last := len(l) - 1
	l = append(append([]api.Section(nil), l...), l[last])
	return append(append(l[:last:last], more...), l[last])
}

func TestTake(t *testing.T) {
	for _, kind := range []int{1, 2} {
		for _, machine := range []int{api.X86, api.Arm} {
			wantTake(t, "plain", lay(kind, machine, plain()), told(kind, machine, plain(), plainSymbols(), plainRelas()), api.OK)
		}
	}
}

func TestTakeOfFewSections(t *testing.T) {
	wantTold(t, "the fewest", []api.Section{{}, {Name: ".shstrtab", Type: 3}}, nil, nil)
	wantTold(t, "without symbols and relocations", []api.Section{{}, plain()[text], plain()[info], {Name: ".shstrtab", Type: 3}}, nil, nil)
	wantTold(t, "without relocations", append(plain()[:relaInfo], plain()[shstrtab]), plainSymbols(), nil)
}

// The table of symbols, and those of relocations, may stand anywhere.
func TestTakeOfAnyOrder(t *testing.T) {
	l := plain()
	front := []api.Section{{}, l[relaText], l[symtab], l[relaInfo], l[strtab], l[text], l[info], l[str], l[shstrtab]}
	front[1].Link, front[3].Link = 2, 2
	front[1].Info, front[3].Info, front[2].Link = 5, 6, 4
	wantTold(t, "tables ahead", front, plainSymbols(), map[int][]api.Rela{5: textRelas(), 6: infoRelas()})
	front = []api.Section{{}, l[text], l[info], l[str], l[relaInfo], l[relaText], l[strtab], l[symtab], l[shstrtab]}
	front[4].Link, front[5].Link, front[7].Link = 7, 7, 6
	wantTold(t, "the symbols behind the relocations", front, plainSymbols(), plainRelas())
}

func TestTakeOfWhatChapter7Refuses(t *testing.T) {
	two := into(plain(), plain()[symtab], api.Section{Type: 9}) // ErrSym and ErrRel would be due, too
	for _, l := range [][]api.Section{plain(), two} {
		b := lay(1, 62, l)
		wantTake(t, "nil", nil, object.Object{}, api.ErrMagic)
		wantTake(t, "too few bytes", b[:63], object.Object{}, api.ErrMagic)
		wantTake(t, "entries cut short", b[:len(b)-1], object.Object{}, api.ErrHead)
		wantTake(t, "too many bytes", append(bytes.Clone(b), make([]byte, 16*room+1-len(b))...), object.Object{}, api.ErrBig)
		for _, x := range []struct {
			at int
			v  byte
			e  api.Errno
		}{{0, 0, api.ErrMagic}, {16, 3, api.ErrHead}, {18, 3, api.ErrHead}, {20, 0, api.ErrHead}, {56, 1, api.ErrHead}, {62, 255, api.ErrHead}, {62, 1, api.ErrSect}} {
			c := bytes.Clone(b)
			c[x.at] = x.v
			wantTake(t, "another header", c, object.Object{}, x.e)
		}
		big := append([]api.Section(nil), l...)
		big[str].Data = make([]byte, room+1)
		wantNone(t, "a section with too many bytes", big, api.ErrBig)
		for _, change := range []func(s *api.Section){
			func(s *api.Section) { s.Link = limit + 1 }, func(s *api.Section) { s.Info = limit + 1 }, func(s *api.Section) { s.Type = limit + 1 },
			func(s *api.Section) { s.Align = limit + 1 }, func(s *api.Section) { s.Ent = limit + 1 }, func(s *api.Section) { s.Name = string(make([]byte, 5)) + "x" },
		} {
			wrong := append([]api.Section(nil), l...)
			change(&wrong[str])
			wrong[0].Flags = 1
			wantNone(t, "a section that may not be", wrong, api.ErrSect)
			wrong[0].Flags = 0
			if wrong[str].Name == plain()[str].Name {
				wantNone(t, "a section that may not be, alone", wrong, api.ErrSect)
			}
		}
	}
}

// As many bytes as a file may have, and no more than that, are read.
func TestTakeOfManyBytes(t *testing.T) {
	b := lay(1, 62, plain())
	b = append(b, make([]byte, 16*room-len(b))...)
	wantTake(t, "just as many", b, told(1, 62, plain(), plainSymbols(), plainRelas()), api.OK)
}

// P9.1: the section of Type 2

func TestTakeOfSectionsOfType2(t *testing.T) {
	for i := range plain() {
		if i == 0 || i == symtab || i == shstrtab {
			continue
		}
		l := plain()
		l[i].Type = 2
		wantNone(t, "a second one", l, api.ErrSym)
		l[i].Data = nil
		wantNone(t, "a second one without bytes", l, api.ErrSym)
		l[i] = l[symtab]
		wantNone(t, "the same one twice", l, api.ErrSym)
	}
	wantNone(t, "three", into(plain(), plain()[symtab], plain()[symtab]), api.ErrSym)
	// It is told ahead of what is wrong with each of them.
	for _, i := range []int{symtab, symtab + 1} {
		l := []api.Section{{}, plain()[text], plain()[info], plain()[str], plain()[symtab], plain()[symtab], {Type: 9}, plain()[strtab], plain()[shstrtab]}
		l[symtab].Link, l[symtab+1].Link = 7, 7
		l[i].Data = make([]byte, 24*(most+1))
		wantNone(t, "two, one of too many symbols", l, api.ErrSym)
	}
}

func TestTakeOfTheLinkOfType2(t *testing.T) {
	for link := range 20 {
		l := plain()
		l[symtab].Link = link
		switch link {
		case strtab:
			wantTold(t, "a Link to names", l, plainSymbols(), plainRelas())
		case shstrtab: // other texts stand there
			named := plainSymbols()
			named[1].Name, named[3].Name, named[4].Name = ".text", "", "bug_info"
			wantTold(t, "a Link to the names of sections", l, named, plainRelas())
		default:
			wantNone(t, "a Link to something else", l, api.ErrSym)
		}
		l[symtab].Data = make([]byte, 24*(most+1))
		if link != strtab && link != shstrtab {
			wantNone(t, "a Link to something else, and too many symbols", l, api.ErrSym)
		} else {
			wantNone(t, "too many symbols", l, api.ErrBig)
		}
	}
	for _, link := range []int{63, 64, 65521, limit - 1, limit} {
		wantNone(t, "a Link far away", changed(func(l []api.Section) { l[symtab].Link = link }), api.ErrSym)
	}
	for _, kind := range []int{0, 1, 2, 4, 7, 8, 9, 11, 17, limit} {
		if kind != 2 { // that is two tables
			l := plain()
			l[strtab].Type = kind
			wantNone(t, "a Link to another type", l, api.ErrSym)
			l[str].Type = 3
			wantNone(t, "a Link to another type, with one of Type 3 elsewhere", l, api.ErrSym)
		}
	}
}

// The names may be those of the sections, in the last one.
func TestTakeOfTheLinkToTheLastSection(t *testing.T) {
	l := plain()[:relaInfo]
	l = append(l[:strtab], plain()[shstrtab])
	l[symtab].Link = 5
	l[symtab].Data = make([]byte, 48)
	l[symtab].Data[24] = 2 // behind the empty name and the point of .text
	wantTold(t, "a Link to the last section", l, []api.Symbol{{}, {Name: "text"}}, nil)
	l[symtab].Link = 6
	wantNone(t, "a Link one beyond", l, api.ErrSym)
}

// P9.1: symbols

func TestTakeOfWhatChapter8RefusesOfSymbols(t *testing.T) {
	entries := plain()[symtab].Data
	for size := range len(entries) {
		if size%24 != 0 {
			wantNone(t, "no whole number of symbols", changed(func(l []api.Section) { l[symtab].Data = entries[:size] }), api.ErrSym)
		}
	}
	for size := range len(plain()[strtab].Data) {
		wantNone(t, "names cut short", changed(func(l []api.Section) { l[strtab].Data = l[strtab].Data[:size] }), api.ErrSym)
	}
	wantNone(t, "Sect 65535", withSymbols(append(plainSymbols(), api.Symbol{Sect: 65535})...), api.ErrSym)
	long := string(bytes.Repeat([]byte("x"), 201))
	wantNone(t, "a name that is too long", withSymbols(append(plainSymbols(), api.Symbol{Name: long})...), api.ErrSym)
	named := append(plainSymbols(), api.Symbol{Name: long[1:]})
	wantTold(t, "a name as long as may be", withSymbols(named...), named, plainRelas())
}

func TestTakeOfSoManySymbols(t *testing.T) {
	for _, count := range []int{5, 6, 100, most - 1, most} {
		named := append(plainSymbols(), make([]api.Symbol, count-5)...)
		named[count-1].Value = 7
		wantTold(t, "so many symbols", withSymbols(named...), named, plainRelas())
	}
	many := make([]api.Symbol, most+2)
	for _, count := range []int{most + 1, most + 2} {
		wantNone(t, "too many symbols", withSymbols(many[:count]...), api.ErrBig)
		wantNone(t, "too many symbols, no whole number", changed(func(l []api.Section) { l[symtab].Data = make([]byte, 24*count+1) }), api.ErrSym)
	}
	many[0].Sect = 100
	wantNone(t, "too many symbols, one in no section", withSymbols(many...), api.ErrBig)
	wantNone(t, "as many as may be, one in no section", withSymbols(many[:most]...), api.ErrSym)
}

func TestTakeOfSymbolsWithoutOne(t *testing.T) {
	l := append(plain()[:relaInfo], plain()[shstrtab])
	l[symtab].Data = nil
	wantTold(t, "a table of none", l, nil, nil)
	l[strtab].Data = nil
	wantTold(t, "a table of none, without names", l, nil, nil)
	l[strtab].Data = []byte("no end")
	wantTold(t, "a table of none, with names that may not be", l, nil, nil)
}

func TestTakeOfTheSectOfSymbols(t *testing.T) {
	for _, x := range []struct {
		sect int
		e    api.Errno
	}{
		{0, api.OK}, {1, api.OK}, {symtab, api.OK}, {shstrtab - 1, api.OK}, {shstrtab, api.OK},
		{shstrtab + 1, api.ErrSym}, {shstrtab + 2, api.ErrSym}, {63, api.ErrSym}, {64, api.ErrSym}, {255, api.ErrSym}, {256, api.ErrSym}, {32768, api.ErrSym},
		{65280, api.ErrSym}, {65519, api.ErrSym}, {65520, api.ErrSym},
		{65521, api.OK}, {65522, api.OK}, {65533, api.OK}, {65534, api.OK}, {65535, api.ErrSym},
	} {
		for i := range plainSymbols() {
			named := plainSymbols()
			named[i].Sect = x.sect
			if x.e == api.OK {
				wantTold(t, "each Sect", withSymbols(named...), named, plainRelas())
			} else {
				wantNone(t, "a Sect that may not be", withSymbols(named...), x.e)
			}
		}
	}
	// How many sections there are says which is the last one.
	for count := 4; count <= 64; count++ {
		l := []api.Section{{}}
		for len(l) < count-3 {
			l = append(l, api.Section{Name: "s", Type: 1})
		}
		for _, sect := range []int{count - 1, count} {
			named := []api.Symbol{{Sect: sect}}
			entries, names := symbolBytes(named...)
			l := append(l, api.Section{Type: 2, Link: count - 2, Data: entries}, api.Section{Type: 3, Data: names}, api.Section{Name: ".shstrtab", Type: 3})
			if sect < count {
				wantTold(t, "the last section", l, named, nil)
			} else {
				wantNone(t, "one beyond", l, api.ErrSym)
			}
		}
	}
}

// P9.1: relocations

func TestTakeOfSectionsOfType9(t *testing.T) {
	for i := range plain() {
		if i == 0 || i == symtab || i == strtab || i == shstrtab {
			continue
		}
		l := plain()
		l[i].Type = 9
		wantNone(t, "one of Type 9", l, api.ErrRel)
		l[i].Data = nil
		wantNone(t, "one of Type 9 without bytes", l, api.ErrRel)
		l[i].Link, l[i].Info = symtab, str
		wantNone(t, "one of Type 9 as it should be", l, api.ErrRel)
	}
	wantNone(t, "one of Type 9 without symbols", []api.Section{{}, {Type: 9}, {Name: ".shstrtab", Type: 3}}, api.ErrRel)
}

func TestTakeOfTheLinkOfType4(t *testing.T) {
	for _, i := range []int{relaInfo, relaText} {
		for _, link := range []int{0, text, info, str, strtab, relaInfo, relaText, shstrtab, shstrtab + 1, 63, 64, limit} {
			l := plain()
			l[i].Link = link
			wantNone(t, "another Link", l, api.ErrRel)
			l[i].Data = nil
			wantNone(t, "another Link, without bytes", l, api.ErrRel)
			l[i].Data = make([]byte, 24*(most+1))
			wantNone(t, "another Link, too many relocations", l, api.ErrRel)
		}
	}
}

// Where there is no section of Type 2 none can be that.
func TestTakeOfType4WithoutType2(t *testing.T) {
	for link := range 6 {
		for _, data := range [][]byte{nil, relaBytes(api.Rela{}), make([]byte, 24*(most+1))} {
			wantNone(t, "a Link to none", []api.Section{{}, {Name: "a", Type: 1}, {Type: 4, Info: 1, Link: link, Data: data}, {Name: ".shstrtab", Type: 3}}, api.ErrRel)
		}
	}
}

func TestTakeOfTheInfoOfType4(t *testing.T) {
	for info := range 20 {
		l := plain()
		l[relaText].Info = info
		switch {
		case info == 0 || info > shstrtab:
			wantNone(t, "an Info that may not be", l, api.ErrRel)
			l[relaText].Data = nil
			wantNone(t, "an Info that may not be, without bytes", l, api.ErrRel)
			l[relaText].Data = make([]byte, 24*(most+1))
			wantNone(t, "an Info that may not be, too many relocations", l, api.ErrRel)
		case info == l[relaInfo].Info:
			wantNone(t, "the Info of the one ahead", l, api.ErrRel)
		default: // each other one may be, its own place and one that has relocations too
			wantTold(t, "an Info", l, plainSymbols(), map[int][]api.Rela{info: textRelas(), l[relaInfo].Info: infoRelas()})
		}
	}
	for _, info := range []int{63, 64, 65, 65521, limit - 1, limit} {
		wantNone(t, "an Info far away", changed(func(l []api.Section) { l[relaText].Info = info }), api.ErrRel)
	}
}

func TestTakeOfOneInfoTwice(t *testing.T) {
	datas := [][]byte{nil, relaBytes(textRelas()...), make([]byte, 24*(most+1))}
	for _, ahead := range datas[:2] {
		for _, behind := range datas {
			l := into(plain(), api.Section{Type: 4, Link: symtab, Info: str, Data: ahead}, api.Section{Type: 1, Info: 1}, api.Section{Type: 4, Link: symtab, Info: str, Data: behind})
			wantNone(t, "one Info twice", l, api.ErrRel)
		}
		wantNone(t, "one Info again", into(plain(), api.Section{Type: 4, Link: symtab, Info: text, Data: ahead}), api.ErrRel)
	}
	wantNone(t, "one Info twice, the first one too many", into(plain(), api.Section{Type: 4, Link: symtab, Info: str, Data: datas[2]}, api.Section{Type: 4, Link: symtab, Info: str}), api.ErrBig)
}

// What sections of other types have as Info is no section that has relocations.
func TestTakeOfTheInfoOfOtherTypes(t *testing.T) {
	for _, i := range []int{text, info, str, symtab, strtab, shstrtab} {
		for _, at := range []int{text, info, 0, 100, limit} {
			l := plain()
			l[i].Info, l[i].Flags = at, l[i].Flags|0x40
			wantTold(t, "the same Info in another type", l, plainSymbols(), plainRelas())
			l[i].Link = 50
			if i != symtab {
				wantTold(t, "any Link in another type", l, plainSymbols(), plainRelas())
			}
		}
	}
	l := plain()
	l[str] = api.Section{Name: ".group", Type: 17, Link: symtab, Info: text, Data: []byte{1, 0, 0, 0, 1, 0, 0, 0}}
	wantTold(t, "a group", l, plainSymbols(), plainRelas())
}

func TestTakeOfWhatChapter8RefusesOfRelocations(t *testing.T) {
	for _, i := range []int{relaInfo, relaText} {
		for size := range 73 {
			if size%24 != 0 {
				wantNone(t, "no whole number of relocations", changed(func(l []api.Section) { l[i].Data = make([]byte, size) }), api.ErrRel)
			}
		}
		wantNone(t, "too many relocations", changed(func(l []api.Section) { l[i].Data = make([]byte, 24*(most+1)) }), api.ErrBig)
		wantNone(t, "too many relocations, no whole number", changed(func(l []api.Section) { l[i].Data = make([]byte, 24*(most+1)+1) }), api.ErrRel)
		for _, r := range []api.Rela{{Type: limit + 1}, {Type: 1<<32 - 1}, {Sym: limit + 1}, {Sym: 1<<32 - 1}} {
			l := plain()
			l[i].Data = append(l[i].Data, relaBytes(r)...)
			wantNone(t, "a relocation that may not be", l, api.ErrRel)
			l[i].Data = append(relaBytes(r), make([]byte, 24*most)...)
			wantNone(t, "a relocation that may not be, and too many", l, api.ErrBig)
		}
		many := make([]api.Rela, most)
		for j := range many {
			many[j] = api.Rela{Off: uint64(j), Sym: j % 5, Type: j, Add: int64(-j)}
		}
		l, relas := plain(), plainRelas()
		l[i].Data, relas[l[i].Info] = relaBytes(many...), many
		wantTold(t, "as many relocations as may be", l, plainSymbols(), relas)
	}
}

func TestTakeOfTheSymOfRelocations(t *testing.T) {
	for _, i := range []int{relaInfo, relaText} {
		for count := 1; count <= 3; count++ {
			for at := range count {
				for sym, e := range map[int]api.Errno{0: api.OK, 1: api.OK, 4: api.OK, 5: api.ErrRel, 6: api.ErrRel, 399: api.ErrRel, 400: api.ErrRel, 65536: api.ErrRel, limit: api.ErrRel} {
					list := make([]api.Rela, count)
					list[at].Sym = sym
					l, relas := plain(), plainRelas()
					l[i].Data, relas[l[i].Info] = relaBytes(list...), list
					if e == api.OK {
						wantTold(t, "each Sym", l, plainSymbols(), relas)
					} else {
						wantNone(t, "a Sym that is no symbol's place", l, e)
					}
				}
			}
		}
	}
	for _, count := range []int{1, 2, 100, most} {
		for _, sym := range []int{count - 1, count} {
			l := withSymbols(make([]api.Symbol, count)...)
			l[relaInfo].Data = relaBytes(api.Rela{Sym: sym})
			l[relaText].Data = nil
			if sym < count {
				wantTold(t, "the last symbol", l, make([]api.Symbol, count), map[int][]api.Rela{info: {{Sym: sym}}})
			} else {
				wantNone(t, "one beyond", l, api.ErrRel)
			}
		}
	}
}

func TestTakeOfRelocationsWithoutSymbols(t *testing.T) {
	l := withSymbols()
	l[relaInfo].Data, l[relaText].Data = nil, nil
	wantTold(t, "no relocations", l, nil, nil)
	for _, sym := range []int{0, 1, 4} {
		l[relaText].Data = relaBytes(api.Rela{Sym: sym})
		wantNone(t, "a relocation", l, api.ErrRel)
	}
}

// P9.1: which of two refusals it is

// fault is a change for which Take refuses, and with what.
type fault struct {
	what   string
	change func(l []api.Section)
	e      api.Errno
}

// faults are in the order in which they are looked at.
func faults() []fault {
	type ss = []api.Section
	tooMany := make([]byte, 24*(most+1))
	return []fault{
		{"a section with too many bytes", func(l ss) { l[text].Data = make([]byte, room+1) }, api.ErrBig},
		{"a section that may not be", func(l ss) { l[info].Align = limit + 1 }, api.ErrSect},
		{"two of Type 2", func(l ss) { l[str].Type = 2 }, api.ErrSym},
		{"names of another type", func(l ss) { l[strtab].Type = 1 }, api.ErrSym},
		{"too many symbols", func(l ss) { l[symtab].Data = tooMany }, api.ErrBig},
		{"a symbol without a name", func(l ss) { l[symtab].Data = changedByte(l[symtab].Data, 3, 1) }, api.ErrSym},
		{"a symbol in no section", func(l ss) { l[symtab].Data = changedByte(l[symtab].Data, 6, 50) }, api.ErrSym},
		{"too many relocations", func(l ss) { l[relaInfo].Data = tooMany }, api.ErrBig},
		{"relocations of nothing", func(l ss) { l[relaText].Info = 0 }, api.ErrRel},
		{"too many relocations in the second one", func(l ss) { l[relaText].Data = tooMany }, api.ErrBig},
		{"a relocation by no symbol, in a later one", func(l ss) { l[shstrtab+1].Data = relaBytes(api.Rela{Sym: 5}) }, api.ErrRel},
		{"one of Type 9 at the end", func(l ss) { l[shstrtab+2].Type = 9 }, api.ErrRel},
	}
}

// changedByte is bytes with one of them at another number.
func changedByte(b []byte, at int, to byte) []byte {
	b = bytes.Clone(b)
	b[at] = to
	return b
}

// faulty is sections where a fault may be anywhere.
func faulty() []api.Section {
	l := plain()
	return append(l, api.Section{Name: "a", Type: 4, Link: symtab, Info: str}, api.Section{Name: "b", Type: 1}, api.Section{Name: "c", Type: 3})
}

func TestTakeOfTwoFaults(t *testing.T) {
	wantTold(t, "no fault", faulty(), plainSymbols(), plainRelas())
	all := faults()
	for i, f := range all {
		l := faulty()
		f.change(l)
		wantNone(t, f.what, l, f.e)
		for _, g := range all[i+1:] {
			for _, order := range [][2]fault{{f, g}, {g, f}} {
				l := faulty()
				order[0].change(l)
				order[1].change(l)
				wantNone(t, f.what+", and "+g.what, l, f.e)
			}
		}
	}
}

// Sections are gone through in their order, whatever each is refused with.
func TestTakeOfTwoSections(t *testing.T) {
	kinds := map[string]struct {
		s api.Section
		e api.Errno
	}{
		"of Type 9":            {api.Section{Type: 9, Data: []byte("x")}, api.ErrRel},
		"another Link":         {api.Section{Type: 4, Link: strtab, Info: str}, api.ErrRel},
		"Info 0":               {api.Section{Type: 4, Link: symtab}, api.ErrRel},
		"too many":             {api.Section{Type: 4, Link: symtab, Info: str, Data: make([]byte, 24*(most+1))}, api.ErrBig},
		"too many, of another": {api.Section{Type: 4, Link: symtab, Info: strtab, Data: make([]byte, 24*(most+2))}, api.ErrBig},
		"no whole number":      {api.Section{Type: 4, Link: symtab, Info: str, Data: []byte("x")}, api.ErrRel},
		"by no symbol":         {api.Section{Type: 4, Link: symtab, Info: symtab, Data: relaBytes(api.Rela{Sym: 5})}, api.ErrRel},
	}
	for first, x := range kinds {
		for second, y := range kinds {
			wantNone(t, first+", then "+second, into(plain(), x.s, y.s), x.e)
			wantNone(t, first+", then others, then "+second, into(plain(), x.s, plain()[text], plain()[strtab], y.s), x.e)
			l := plain()
			l[text], l[str] = x.s, y.s
			wantNone(t, first+", then "+second+", ahead of the symbols", l, x.e)
		}
	}
}

// P9.1: memory, and whatever else comes in

func TestTakeReadsNothingBehindTheLength(t *testing.T) {
	b := lay(1, 62, plain())
	for _, size := range []int{len(b) - 1, 63, 64} {
		if o, e := object.Take(b[:size:len(b)]); !alike(o, object.Object{}) || e == api.OK {
			t.Errorf("Take of %d bytes = %s, %d", size, show(o), e)
		}
	}
	whole := append(b, "behind the length"...)
	wantTake(t, "with room behind it", whole[:len(b)], told(1, 62, plain(), plainSymbols(), plainRelas()), api.OK)
}

func TestWhatIsTakenSharesNoMemory(t *testing.T) {
	b := lay(1, 62, plain())
	want := told(1, 62, plain(), plainSymbols(), plainRelas())
	o, e := object.Take(b)
	again, _ := object.Take(b)
	clear(b)
	for i, s := range again.Sections {
		clear(s.Data)
		_ = append(s.Data, "spare room"...)
		again.Sections[i] = api.Section{}
	}
	clear(again.Syms)
	_ = append(again.Syms, api.Symbol{Name: "spare room"})
	for i, l := range again.Relas {
		clear(l)
		_ = append(l, api.Rela{Off: 99})
		again.Relas[i] = nil
	}
	_ = append(again.Relas, textRelas())
	if !alike(o, want) || e != api.OK {
		t.Errorf("Take = %s, %d", show(o), e)
	}
}

// No two lists of one answer share memory, even where the file has their bytes once.
func TestListsOfOneAnswerShareNoMemory(t *testing.T) {
	b := lay(1, 62, plain())
	// The entries stand at the end: the second section's bytes are made those of the first one.
	entries := b[len(b)-64*9:]
	copy(entries[64*info+24:64*info+40], entries[64*text+24:64*text+40])
	o, e := object.Take(b)
	if e != api.OK || string(o.Sections[info].Data) != "code" {
		t.Fatalf("Take = %s, %d", show(o), e)
	}
	for i := range o.Sections {
		for j := range o.Sections {
			if i == j || len(o.Sections[i].Data) == 0 {
				continue
			}
			before := held(o)
			o.Sections[i].Data[0] ^= 255
			_ = append(o.Sections[i].Data, 1)
			if !bytes.Equal(o.Sections[j].Data, before.Sections[j].Data) || !reflect.DeepEqual(held(o).Syms, before.Syms) || !reflect.DeepEqual(held(o).Relas, before.Relas) {
				t.Errorf("sections %d and %d share memory", i, j)
			}
		}
	}
	for i, l := range o.Relas {
		before := held(o)
		l = append(l, api.Rela{Off: 77})
		if clear(l); !reflect.DeepEqual(held(o).Relas[i+1:], before.Relas[i+1:]) {
			t.Errorf("relocations of %d share memory", i)
		}
	}
}

// Whatever bytes come in, Take ends, and what it tells holds together.
func TestTakeOfAnything(t *testing.T) {
	chance := rand.New(rand.NewSource(91))
	plain := lay(1, 62, plain())
	met := map[api.Errno]int{}
	for range 30000 {
		b := bytes.Clone(plain)
		entries := len(b) - 64*9
		for range 1 + chance.Intn(3) {
			at := chance.Intn(len(b))
			if chance.Intn(2) == 0 {
				at = entries + 64*(1+chance.Intn(8)) + []int{0, 4, 24, 32, 40, 44}[chance.Intn(6)]
			}
			b[at] = byte([]int{0, 1, 2, 3, 4, 5, 9, chance.Intn(256)}[chance.Intn(8)])
		}
		o, e := object.Take(b)
		met[e]++
		if e != api.OK {
			if !reflect.DeepEqual(o, object.Object{}) {
				t.Errorf("Take = %s, %d", show(o), e)
			}
			continue
		}
		wantWhole(t, b, o)
		if t.Failed() {
			return
		}
	}
	for _, e := range []api.Errno{api.OK, api.ErrSect, api.ErrSym, api.ErrRel, api.ErrHead, api.ErrMagic} {
		if met[e] == 0 {
			t.Errorf("%d was never told", e)
		}
	}
}

// wantWhole looks whether what was taken is what the chapter lets be.
func wantWhole(t *testing.T, b []byte, o object.Object) {
	t.Helper()
	h, l, e := sects.Take(b)
	if e != api.OK || o.Type != h.Type || o.Machine != h.Machine || len(o.Relas) != len(l) {
		t.Errorf("Take = %s", show(o))
		return
	}
	var relas [10][]api.Rela
	var tables int
	for i, s := range l {
		switch s.Type {
		case 2:
			tables++
			if len(s.Data) != 24*len(o.Syms) || l[s.Link].Type != 3 {
				t.Errorf("Take = %s", show(o))
			}
		case 4:
			if l[s.Link].Type != 2 || s.Info == 0 || len(o.Relas[s.Info])*24 != len(s.Data) || relas[s.Info] != nil {
				t.Errorf("Take = %s", show(o))
			}
			relas[s.Info] = []api.Rela{}
			for j, r := range o.Relas[s.Info] {
				if r.Off != binary.LittleEndian.Uint64(s.Data[24*j:]) || r.Sym >= len(o.Syms) {
					t.Errorf("Take = %s", show(o))
				}
				relas[s.Info] = append(relas[s.Info], r)
			}
		case 9:
			t.Errorf("Take = %s", show(o))
		}
		if !reflect.DeepEqual(held(object.Object{Sections: o.Sections[i : i+1]}), held(object.Object{Sections: l[i : i+1]})) {
			t.Errorf("Take = %s", show(o))
		}
	}
	for i, list := range o.Relas {
		if len(list) != len(relas[i]) {
			t.Errorf("Take = %s", show(o))
		}
	}
	if tables > 1 || tables == 0 && len(o.Syms) > 0 {
		t.Errorf("Take = %s", show(o))
	}
	for _, s := range o.Syms {
		if s.Sect >= len(l) && s.Sect < 65521 {
			t.Errorf("Take = %s", show(o))
		}
	}
}
