package sects_test

import (
	"bytes"
	"math"
	"math/rand"
	"reflect"
	"strconv"
	"strings"
	"testing"

	"sindri/api"
	"sindri/elfhead"
	"sindri/sects"
)

// P7.2: Right, and that Put refuses just what may not be

func TestRight(t *testing.T) {
	wantRight(t, "the fewest", least(), true)
	wantRight(t, "plain", plainSections(), true)
	wantRight(t, "nil", nil, false)
	wantRight(t, "none", []api.Section{}, false)
	wantRight(t, "the first one alone", []api.Section{{}}, false)
	wantRight(t, "the last one alone", least()[1:], false)
	wantRight(t, "the last one twice", append(least()[1:], least()[1]), false)
	wantRight(t, "two that are zero", []api.Section{{}, {}}, false)
	wantRight(t, "the other way round", []api.Section{least()[1], {}}, false)
}

// several is so many sections that may be.
func several(count int) []api.Section {
	var l []api.Section
	for i := range count - 2 {
		l = append(l, api.Section{Name: "s" + strconv.Itoa(i), Type: 1 + i%9, Data: make([]byte, i%5)})
	}
	return around(l...)
}

func TestRightOfSoManySections(t *testing.T) {
	for count := 2; count <= 64; count++ {
		wantRight(t, "2 to 64", several(count), true)
	}
	for _, count := range []int{65, 66, 100} {
		wantRight(t, "too many", several(count), false)
	}
}

func TestRightOfTheFirstSection(t *testing.T) {
	for _, first := range []api.Section{
		{Name: "a"}, {Name: "\x00"}, {Name: ".shstrtab"}, {Type: 1}, {Type: 3}, {Type: 8}, {Type: -1}, {Type: math.MinInt},
		{Flags: 1}, {Flags: top}, {Flags: 1 << 63}, {Addr: 1}, {Addr: top}, {Data: []byte{0}}, {Data: []byte("a")},
		{Type: 8, Data: []byte{0}}, {Link: 1}, {Link: -1}, {Info: 1}, {Info: -1}, {Align: 1}, {Align: -1}, {Ent: 1}, {Ent: -1},
		{Link: math.MinInt}, {Info: 1 << 32}, {Align: 1 << 32}, {Ent: math.MaxInt},
	} {
		for _, l := range [][]api.Section{least(), plainSections(), several(64)} {
			l[0] = first
			wantRight(t, "another first one", l, false)
		}
	}
	for _, data := range [][]byte{nil, {}, make([]byte, 0, 5)} {
		l := plainSections()
		l[0].Data = data
		wantRight(t, "no bytes", l, true)
	}
}

func TestRightOfTheLastSection(t *testing.T) {
	for _, kind := range []int{math.MinInt, -3, -1, 0, 1, 2, 4, 8, 1<<32 | 3, math.MaxInt} {
		l := plainSections()
		l[3].Type = kind
		wantRight(t, "another type", l, false)
	}
	for _, name := range []string{"", ".shstrta", ".shstrtab ", ".Shstrtab", "shstrtab", ".strtab", ".shstrtab\x00", "\x00.shstrtab"} {
		l := plainSections()
		l[3].Name = name
		wantRight(t, "another name", l, false)
	}
	for i := 1; i < 3; i++ {
		l := plainSections()
		l[i].Name = ".shstrtab"
		wantRight(t, "the name twice", l, false)
		l[i].Type, l[i].Data = 3, nil
		wantRight(t, "the name and the type twice", l, false)
		l[3].Name = ".other"
		wantRight(t, "the name only ahead of it", l, false)
	}
	l := append(plainSections(), api.Section{Name: ".behind", Type: 1})
	wantRight(t, "one behind it", l, false)
	l = plainSections()
	l[1].Type, l[2].Type, l[2].Data = 3, 3, []byte("x")
	wantRight(t, "others of its type", l, true)
	for _, s := range []api.Section{
		{Name: ".shstrtab", Type: 3, Link: -1}, {Name: ".shstrtab", Type: 3, Info: limit + 1},
		{Name: ".shstrtab", Type: 3, Align: -1}, {Name: ".shstrtab", Type: 3, Ent: limit + 1},
		{Name: ".shstrtab", Type: 3, Data: make([]byte, room+1)},
	} {
		l := plainSections()
		l[3] = s
		wantRight(t, "a last one that may not be, as the others", l, false)
	}
	l[3] = api.Section{Name: ".shstrtab", Type: 3, Flags: top, Addr: top, Link: limit, Info: limit, Align: limit, Ent: limit, Data: bytes.Repeat([]byte{1}, room)}
	wantRight(t, "a last one with all that it may have", l, true)
}

func TestRightOfNumbers(t *testing.T) {
	fields := []func(s *api.Section) *int{
		func(s *api.Section) *int { return &s.Link },
		func(s *api.Section) *int { return &s.Info },
		func(s *api.Section) *int { return &s.Align },
		func(s *api.Section) *int { return &s.Ent },
	}
	for _, n := range []int{math.MinInt, math.MinInt + 1, -1 << 32, -1 << 31, -limit, -2, -1, 0, 1, 2, limit - 1, limit, limit + 1, limit + 2, 1<<32 - 1, 1 << 32, 1<<32 + 1, 1 << 62, math.MaxInt} {
		may := n >= 0 && n <= limit
		for _, field := range fields {
			for i := 1; i < 4; i++ {
				l := plainSections()
				*field(&l[i]) = n
				wantRight(t, "Link, Info, Align, Ent at "+strconv.Itoa(n), l, may)
			}
		}
		l := around(api.Section{Name: "a", Type: n}, api.Section{Name: "b", Type: 1})
		wantRight(t, "Type "+strconv.Itoa(n), l, may && n > 0)
	}
	for _, kind := range kinds {
		l := around(api.Section{Name: "a", Type: int(kind), Flags: top, Addr: top})
		wantRight(t, "a type", l, kind > 0)
	}
}

func TestRightOfNames(t *testing.T) {
	for i := 1; i < 3; i++ {
		for _, name := range []string{"", "a", "\xff\xfe", "a b", strings.Repeat("n", 200)} {
			l := plainSections()
			l[i].Name = name
			wantRight(t, "a name that may be", l, true)
		}
		for _, name := range []string{"\x00", "a\x00", "\x00a", "a\x00b", strings.Repeat("n", 199) + "\x00", strings.Repeat("n", 201), strings.Repeat("n", 1000)} {
			l := plainSections()
			l[i].Name = name
			wantRight(t, "a name that may not be", l, false)
		}
	}
	l := plainSections()
	l[2].Name = l[1].Name
	wantRight(t, "two of one name", l, true)
}

func TestRightOfBytes(t *testing.T) {
	for _, kind := range []int{1, 3, 7, 8, limit} {
		for i := 1; i < 3; i++ {
			for size, may := range map[int]bool{0: true, 1: true, 9: true, room - 1: true, room: true, room + 1: false, room + 8: false, 2 * room: false} {
				l := plainSections()
				l[i].Type, l[i].Data = kind, make([]byte, size)
				wantRight(t, "so many bytes 0", l, may)
			}
		}
	}
	for _, size := range []int{1, 2, 8, 100, room} {
		for _, at := range []int{0, size / 2, size - 1} {
			for _, v := range []byte{1, 128, 255, '0'} {
				l := plainSections()
				l[2].Data = make([]byte, size)
				wantRight(t, "of Type 8, all 0", l, true)
				l[2].Data[at] = v
				wantRight(t, "of Type 8, with another byte", l, false)
				l[2].Type = 9
				wantRight(t, "of Type 9, with another byte", l, true)
			}
		}
	}
}

// What lies behind a list's length is not read.
func TestRightReadsNothingBehindTheLength(t *testing.T) {
	l := append(plainSections(), api.Section{Name: ".shstrtab", Type: -1})
	wantRight(t, "the list's length", l[:4], true)
	wantRight(t, "all of it", l, false)
	l[2].Data = []byte{0, 0, 1, 2}[:2]
	wantRight(t, "the bytes' length", l[:4], true)
	l[2].Data = l[2].Data[:3]
	wantRight(t, "one more of them", l[:4], false)
}

// P7.2: Put

func TestPutOfKindsAndMachines(t *testing.T) {
	for _, kind := range []int{math.MinInt, -1, 0, 1, 2, 3, 4, 257, 65537, 1<<32 | 1, math.MaxInt} {
		for _, machine := range []int{math.MinInt, -62, 0, 3, 61, 62, 63, 182, 183, 184, 256 + 62, 65536 + 62, 1<<32 | 183, math.MaxInt} {
			may := (kind == 1 || kind == 2) && (machine == 62 || machine == 183)
			for _, l := range [][]api.Section{least(), plainSections(), several(64)} {
				b, e := sects.Put(kind, machine, l)
				if may && e == api.OK {
					h, _, _ := sects.Take(b)
					if h.Type != kind || h.Machine != machine {
						t.Errorf("Put(%d, %d) is of %d, %d", kind, machine, h.Type, h.Machine)
					}
				} else if may || e != api.ErrArg || len(b) > 0 {
					t.Errorf("Put(%d, %d) = %d bytes, %d", kind, machine, len(b), e)
				}
			}
			if b, e := sects.Put(kind, machine, nil); e != api.ErrArg || len(b) > 0 {
				t.Errorf("Put(%d, %d) of no sections = %d bytes, %d", kind, machine, len(b), e)
			}
		}
	}
}

// wantPut holds what is put against a body and entries behind it, byte by byte.
func wantPut(t *testing.T, what string, kind, machine int, l []api.Section, body string, entries []entry) {
	t.Helper()
	b := append(header(kind, machine, 64+len(body), len(l), len(l)-1), body...)
	for _, x := range entries {
		b = append(b, x.lay()...)
	}
	if got, e := sects.Put(kind, machine, l); !bytes.Equal(got, b) || e != api.OK {
		t.Errorf("%s: Put = %q, %d, want %q", what, got, e, b)
	}
}

func TestExample1(t *testing.T) {
	b := put(t, "the fewest", least())
	if len(b) != 64+16+128 {
		t.Errorf("Put = %d bytes", len(b))
	}
	wantPut(t, "the fewest", 1, 62, least(), "\x00.shstrtab\x00\x00\x00\x00\x00\x00", []entry{{}, {name: 1, kind: 3, at: 64, size: 11}})
}

func TestPut(t *testing.T) {
	for _, kind := range []int{1, 2} {
		for _, machine := range []int{62, 183} {
			wantPut(t, "plain", kind, machine, plainSections(), "hello\x00\x00\x00"+names+"\x00\x00", []entry{
				{},
				{1, 1, 6, 0x1000, 64, 5, 2, 3, 16, 4},
				{7, 8, 3, 0x2000, 72, 7, 0, 0, 8, 0},
				{12, 3, 0, 0, 72, 22, 0, 0, 1, 0},
			})
		}
	}
}

// Bytes begin at the next multiple of 8, which may be where those ahead end.
func TestPutOfSizes(t *testing.T) {
	for size := range 20 {
		text := strings.Repeat("d", size)
		pad := strings.Repeat("\x00", (8-size%8)%8)
		end := uint64(64 + len(text+pad))
		wantPut(t, "sizes", 1, 62, around(api.Section{Name: "a", Type: 1, Data: []byte(text)}), text+pad+"\x00a\x00.shstrtab\x00\x00\x00\x00", []entry{
			{}, {name: 1, kind: 1, at: 64, size: uint64(size)}, {name: 3, kind: 3, at: end, size: 13},
		})
		wantPut(t, "sizes of none", 2, 183, around(api.Section{Name: "a", Type: 8, Data: make([]byte, size)}), "\x00a\x00.shstrtab\x00\x00\x00\x00", []entry{
			{}, {name: 1, kind: 8, at: 64, size: uint64(size)}, {name: 3, kind: 3, at: 64, size: 13},
		})
		name := strings.Repeat("n", size+1)
		table := "\x00" + name + "\x00.shstrtab\x00"
		fill := strings.Repeat("\x00", -len(table)&7)
		wantPut(t, "sizes of names", 1, 62, around(api.Section{Name: name, Type: 1}), table+fill, []entry{
			{}, {name: 1, kind: 1, at: 64}, {name: uint32(len(name) + 2), kind: 3, at: 64, size: uint64(len(table))},
		})
	}
}

// One of Type 8, or with no bytes, stands where the next bytes will.
func TestPutOfSectionsWithoutBytes(t *testing.T) {
	l := around(
		api.Section{Name: "a", Type: 1, Data: []byte("123")},
		api.Section{Name: "b", Type: 8, Data: make([]byte, 100)},
		api.Section{Name: "c", Type: 1},
		api.Section{Name: "d", Type: 8},
		api.Section{Name: "e", Type: 7, Data: []byte("12345678")},
		api.Section{Name: "f", Type: 8, Data: make([]byte, room)},
		api.Section{Name: "g", Type: 9, Data: []byte("9")},
	)
	table := "\x00a\x00b\x00c\x00d\x00e\x00f\x00g\x00.shstrtab\x00"
	wantPut(t, "without bytes", 1, 62, l, "123\x00\x00\x00\x00\x0012345678"+"9\x00\x00\x00\x00\x00\x00\x00"+table+strings.Repeat("\x00", -len(table)&7), []entry{
		{},
		{name: 1, kind: 1, at: 64, size: 3},
		{name: 3, kind: 8, at: 72, size: 100},
		{name: 5, kind: 1, at: 72},
		{name: 7, kind: 8, at: 72},
		{name: 9, kind: 7, at: 72, size: 8},
		{name: 11, kind: 8, at: 80, size: room},
		{name: 13, kind: 9, at: 80, size: 1},
		{name: 15, kind: 3, at: 88, size: uint64(len(table))},
	})
}

// The table has each name once, the empty one first, in the order in which they come.
func TestPutOfNames(t *testing.T) {
	s := func(name string) api.Section { return api.Section{Name: name, Type: 1} }
	l := around(s("b"), s(""), s("a"), s("b"), s("text"), s(".text"), s(""), s("a"), s("xt"))
	table := "\x00b\x00a\x00text\x00.text\x00xt\x00.shstrtab\x00"
	wantPut(t, "names", 1, 62, l, table+strings.Repeat("\x00", -len(table)&7), []entry{
		{},
		{name: 1, kind: 1, at: 64}, {name: 0, kind: 1, at: 64}, {name: 3, kind: 1, at: 64}, {name: 1, kind: 1, at: 64},
		{name: 5, kind: 1, at: 64}, {name: 10, kind: 1, at: 64}, {name: 0, kind: 1, at: 64}, {name: 3, kind: 1, at: 64},
		{name: 16, kind: 1, at: 64}, {name: 19, kind: 3, at: 64, size: uint64(len(table))},
	})
}

// Whatever bytes the last one has, the table of names is put.
func TestPutOfTheLastOnesBytes(t *testing.T) {
	want := put(t, "none", plainSections()[:4])
	for _, data := range [][]byte{nil, {}, []byte("x"), []byte(names), make([]byte, 22), bytes.Repeat([]byte("other"), 1000), make([]byte, room)} {
		l := plainSections()
		l[3].Data = data
		if got := put(t, "the last one's bytes", l); !bytes.Equal(got, want) {
			t.Errorf("Put with %d bytes = %q, want %q", len(data), got, want)
		}
	}
}

// All numbers of the last one but its bytes are put as they are.
func TestPutOfTheLastOnesNumbers(t *testing.T) {
	l := least()
	l[1] = api.Section{Name: ".shstrtab", Type: 3, Flags: 1 << 63, Addr: top, Data: []byte("x"), Link: 5, Info: 6, Align: 7, Ent: limit}
	wantPut(t, "the last one's numbers", 1, 62, l, "\x00.shstrtab\x00\x00\x00\x00\x00\x00", []entry{
		{}, {1, 3, 1 << 63, top, 64, 11, 5, 6, 7, limit},
	})
}

func TestPutOfNumbersAtTheirLimit(t *testing.T) {
	l := around(api.Section{Name: "a", Type: 0x04030201, Flags: 0x0c0b0a0908070605, Addr: 0x14131211100f0e0d, Data: []byte("12345678"), Link: 0x18171615, Info: 0x1c1b1a19, Align: 0x201f1e1d, Ent: 0x24232221},
		api.Section{Type: limit, Flags: top, Addr: top, Link: limit, Info: limit, Align: limit, Ent: limit})
	wantPut(t, "numbers", 2, 62, l, "12345678\x00a\x00.shstrtab\x00\x00\x00\x00", []entry{
		{},
		{1, 0x04030201, 0x0c0b0a0908070605, 0x14131211100f0e0d, 64, 8, 0x18171615, 0x1c1b1a19, 0x201f1e1d, 0x24232221},
		{0, limit, top, top, 72, 0, limit, limit, limit, limit},
		{name: 3, kind: 3, at: 72, size: 13},
	})
}

func TestPutChangesNothing(t *testing.T) {
	whole := []byte("hello, and what lies in the room behind it")
	l := append(plainSections(), api.Section{Name: "behind the length"})[:4]
	l[1].Data = whole[:5]
	l[3].Data = whole[7:10]
	a := put(t, "once", l)
	for i := range a {
		a[i] = 255
	}
	_ = append(a, "spare room"...)
	b := put(t, "again", l)
	if string(whole) != "hello, and what lies in the room behind it" || l[:5][4].Name != "behind the length" || string(l[3].Data) != "and" {
		t.Error("Put changed what lies behind a length")
	}
	for i := range whole {
		whole[i] = 0
	}
	if got := wantTaken(t, "what was put", b); !bytes.Equal(got[1].Data, []byte("hello")) {
		t.Errorf("what was put shares memory: %q", got[1].Data)
	}
}

// P7.4

// taken is what Take has to tell of sections that were put.
func taken(l []api.Section) []api.Section {
	l = held(l)
	table, met := "\x00", map[string]bool{"": true}
	for _, s := range l {
		if !met[s.Name] {
			table += s.Name + "\x00"
			met[s.Name] = true
		}
	}
	l[len(l)-1].Data = []byte(table)
	return l
}

// wantBack looks that what is put is taken, and what is taken is put.
func wantBack(t *testing.T, what string, kind, machine int, l []api.Section) {
	t.Helper()
	before := held(l)
	b, e := sects.Put(kind, machine, l)
	if e != api.OK {
		t.Errorf("%s: Put = %d", what, e)
	}
	h := elfhead.Head{Type: kind, Machine: machine, Shoff: uint64(len(b) - 64*len(l)), Shnum: len(l), Shstr: len(l) - 1}
	wantTake(t, what, b, h, taken(l), api.OK)
	got := wantTaken(t, what, b)
	if again, e := sects.Put(kind, machine, got); !bytes.Equal(again, b) || e != api.OK {
		t.Errorf("%s: put again it is another file, %d", what, e)
	}
	if !reflect.DeepEqual(held(l), before) {
		t.Errorf("%s: what was handed in is changed", what)
	}
}

func TestWhatIsPutIsTaken(t *testing.T) {
	for count := 2; count <= 64; count++ {
		wantBack(t, "several", 1+count%2, []int{62, 183}[count/2%2], several(count))
	}
	wantBack(t, "plain", 2, 183, plainSections())
	for size := range 70 {
		data := bytes.Repeat([]byte{byte(size + 1)}, size)
		wantBack(t, "sizes", 1, 62, around(api.Section{Name: "a", Type: 1, Data: data}, api.Section{Name: "b", Type: 8, Data: make([]byte, size)}, api.Section{Name: "a", Type: 3, Data: data}))
	}
	for _, kind := range kinds[1:] {
		wantBack(t, "types", 1, 62, around(api.Section{Name: "a", Type: int(kind), Data: make([]byte, 3)}, api.Section{Type: 1}))
	}
}

func TestWhatIsPutIsTakenOfManyBytes(t *testing.T) {
	l := around(api.Section{Name: "a", Type: 1, Data: bytes.Repeat([]byte("abcd"), room/4)}, api.Section{Name: "b", Type: 8, Data: make([]byte, room)})
	wantBack(t, "as many as may be", 1, 62, l)
	var names []api.Section
	for i := range 62 {
		name := strconv.Itoa(i)
		names = append(names, api.Section{Name: name + strings.Repeat("n", 200-len(name)), Type: 8, Data: make([]byte, room)})
	}
	wantBack(t, "as many bytes 0 and names as may be", 2, 183, around(names...))
}

// A file that Put puts may have more bytes than Take reads: then it is refused,
// as the promise of Take says.
func TestWhatIsPutOfTooManyBytes(t *testing.T) {
	var l []api.Section
	for range 15 {
		l = append(l, api.Section{Type: 1, Data: bytes.Repeat([]byte{1}, room)})
	}
	rest := room - 64 - 16 - 18*64
	last := api.Section{Type: 1, Data: bytes.Repeat([]byte{2}, rest)}
	full := around(append(l, last)...)
	if b := put(t, "just as many", full); len(b) != 16*room {
		t.Errorf("Put = %d bytes", len(b))
	}
	wantBack(t, "just as many", 1, 62, full)
	last.Data = append(last.Data, 2)
	b := put(t, "more", around(append(l, last)...))
	if len(b) != 16*room+8 {
		t.Errorf("Put = %d bytes", len(b))
	}
	wantNone(t, "more", b, api.ErrBig)
}

// random makes sections that may be.
func random(chance *rand.Rand) []api.Section {
	number := func() int { return []int{0, 1, 24, limit, chance.Intn(limit)}[chance.Intn(5)] }
	var l []api.Section
	for range chance.Intn(12) {
		s := api.Section{
			Name: []string{"", "a", "b", ".text", "text", ".bss", strings.Repeat("l", 200)}[chance.Intn(7)],
			Type: []int{1, 2, 3, 8, 8, 9, limit}[chance.Intn(7)], Flags: chance.Uint64(), Addr: chance.Uint64(),
			Data: make([]byte, chance.Intn(40)), Link: number(), Info: number(), Align: number(), Ent: number(),
		}
		if s.Type != 8 {
			chance.Read(s.Data)
		}
		l = append(l, s)
	}
	return around(l...)
}

func TestWhatIsPutIsTakenOfAnything(t *testing.T) {
	chance := rand.New(rand.NewSource(74))
	for range 3000 {
		l := random(chance)
		wantRight(t, "anything that may be", l, true)
		wantBack(t, "anything that may be", 1+chance.Intn(2), []int{62, 183}[chance.Intn(2)], l)
	}
}

// A file that lies otherwise is put anew as Put lays it, and means the same.
func TestWhatIsTakenIsPut(t *testing.T) {
	l, body := plain()
	got := wantTaken(t, "plain", file(3, l, body))
	wantRight(t, "what was taken", got, true)
	b := put(t, "what was taken", got)
	if back := wantTaken(t, "what was put", b); !alike(back, plainSections()) {
		t.Errorf("put and taken it is %v", back)
	}
	l[1].kind = 0 // it may be taken, but not put
	wantRight(t, "one of Type 0", wantTaken(t, "one of Type 0", file(3, l, body)), false)
}
