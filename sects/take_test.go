package sects_test

import (
	"bytes"
	"encoding/binary"
	"math/rand"
	"strings"
	"testing"

	"sindri/api"
	"sindri/elfhead"
)

// P7.1

func TestTake(t *testing.T) {
	l, body := plain()
	wantFile(t, "plain", 3, l, body, plainSections())
	wantFile(t, "with more behind it", 3, l, append(body, "more"...), plainSections())
}

// The entries, and the bytes, stand where the file says.
func TestTakeOfAnyPlaces(t *testing.T) {
	for _, kind := range []int{1, 2} {
		for _, machine := range []int{api.X86, api.Arm} {
			for _, gap := range []int{0, 1, 7, 300} {
				l, body := plain()
				l[1].at, l[3].at = 64+2, 64+10
				at := 64 + len(body) + gap
				b := append(header(kind, machine, at, 4, 3), body...)
				b = append(b, bytes.Repeat([]byte{255}, gap)...)
				for _, x := range l {
					b = append(b, x.lay()...)
				}
				h := elfhead.Head{Type: kind, Machine: machine, Shoff: uint64(at), Shnum: 4, Shstr: 3}
				wantTake(t, "entries behind the bytes", b, h, plainSections(), api.OK)
			}
		}
	}
}

func TestTakeOfSectionsOverAnother(t *testing.T) {
	l, body := plain()
	l[1].at, l[1].size = 0, 7
	want := plainSections()
	want[1].Data = []byte("\x7fELF\x02\x01\x01")
	wantFile(t, "over the header", 3, l, body, want)
	l[1].at, l[1].size = l[3].at+1, 5
	want[1].Data = []byte(".text")
	wantFile(t, "over the names", 3, l, body, want)
	b := file(3, l, body)
	l[1].at, l[1].size = 0, uint64(len(b))
	b = file(3, l, body)
	want[1].Data = b
	wantFile(t, "over the whole file", 3, l, body, want)
}

func TestTakeOfTooManyBytes(t *testing.T) {
	l, body := plain()
	b := make([]byte, 16*room+1)
	copy(b, file(3, l, body))
	h := elfhead.Head{Type: 1, Machine: 62, Shoff: 64, Shnum: 4, Shstr: 3}
	wantTake(t, "one less", b[:16*room-1], h, plainSections(), api.OK)
	wantTake(t, "just as many", b[:16*room], h, plainSections(), api.OK)
	wantNone(t, "one more", b, api.ErrBig)
	wantNone(t, "many more", make([]byte, 17*room), api.ErrBig)
	b[0] = 0
	wantNone(t, "just as many, another magic", b[:16*room], api.ErrMagic)
	wantNone(t, "one more, another magic", b, api.ErrBig)
	b[0], b[20] = 127, 2
	wantNone(t, "just as many, another version", b[:16*room], api.ErrHead)
	wantNone(t, "one more, another version", b, api.ErrBig)
	b[20] = 1
	binary.LittleEndian.PutUint64(b[64+64+48:], limit+1)
	wantNone(t, "just as many, a section that may not be", b[:16*room], api.ErrSect)
	wantNone(t, "one more, a section that may not be", b, api.ErrBig)
}

func TestTakeOfWhatTheHeaderIsRefusedWith(t *testing.T) {
	wantNone(t, "nil", nil, api.ErrMagic)
	wantNone(t, "no bytes", []byte{}, api.ErrMagic)
	l, body := plain()
	for size := range 64 {
		wantNone(t, "too few", file(3, l, body)[:size], api.ErrMagic)
	}
	for size := 64; size < 64+4*64; size++ {
		wantNone(t, "entries that do not lie in it", file(3, l, body)[:size], api.ErrHead)
	}
	l[1].link = limit + 1 // ErrSect would be due, too
	for _, x := range []struct {
		at int
		v  byte
		e  api.Errno
	}{
		{0, 0, api.ErrMagic}, {6, 2, api.ErrMagic},
		{16, 0, api.ErrHead}, {16, 3, api.ErrHead}, {18, 3, api.ErrHead}, {20, 0, api.ErrHead}, {40, 255, api.ErrHead},
		{52, 0, api.ErrHead}, {56, 1, api.ErrHead}, {58, 63, api.ErrHead},
		{60, 0, api.ErrHead}, {60, 1, api.ErrHead}, {60, 65, api.ErrHead}, {62, 0, api.ErrHead}, {62, 4, api.ErrHead},
	} {
		b := file(3, l, body)
		b[x.at] = x.v
		wantNone(t, "another header", b, x.e)
	}
}

// many is the entries, and the body, of so many sections: all but the first one
// are tables of names.
func many(count int) ([]entry, []byte, []api.Section) {
	l, want := []entry{{}}, []api.Section{{}}
	for i := 1; i < count; i++ {
		l = append(l, entry{name: uint32(i % 2), kind: 3, flags: uint64(i), at: start(count), size: 3})
		want = append(want, api.Section{Name: "n"[:i%2], Type: 3, Flags: uint64(i), Data: []byte("\x00n\x00")})
	}
	return l, []byte("\x00n\x00"), want
}

func TestTakeOfSoManySections(t *testing.T) {
	for count := 2; count <= 64; count++ {
		l, body, want := many(count)
		for _, shstr := range []int{1, count / 2, count - 1} {
			wantFile(t, "2 to 64 sections", max(shstr, 1), l, body, want)
		}
	}
	for _, count := range []int{1, 65, 66} {
		l, body, _ := many(count)
		wantNone(t, "1 section, or too many", file(1, l, body), api.ErrHead)
	}
}

// kinds are types that sections may be of, with those that are not like the others.
var kinds = []uint32{0, 1, 2, 3, 4, 7, 8, 9, 17, 0x6ffffff6, limit - 1, limit}

func TestTakeOfTypes(t *testing.T) {
	for _, kind := range kinds {
		l, body := plain()
		l[1].kind = kind
		want := plainSections()
		want[1].Type = int(kind)
		switch kind {
		case 0:
			want[1].Data = nil
		case 8:
			want[1].Data = make([]byte, 5)
		}
		wantFile(t, "each type", 3, l, body, want)
	}
	for _, kind := range []uint32{limit + 1, limit + 2, limit + 1 + 8, 1<<32 - 1} {
		for i := range 4 {
			l, body := plain()
			l[i].kind = kind
			wantNone(t, "types above the limit", file(3, l, body), api.ErrSect)
		}
	}
}

// With no bytes of their own, sections of Type 0 and 8 may be said to stand anywhere.
func TestTakeOfTypesWithoutBytes(t *testing.T) {
	for _, at := range []uint64{0, 1, 64, 1000, room, 1 << 32, 1 << 63, top - 1, top} {
		for _, size := range []uint64{0, 1, 7, 8, 1000, room - 1, room} {
			l, body := plain()
			want := plainSections()
			l[2].at, l[2].size = at, size
			want[2].Data = make([]byte, size)
			wantFile(t, "bytes 0 from anywhere", 3, l, body, want)
			l[2].kind, want[2].Type, want[2].Data = 0, 0, nil
			wantFile(t, "none from anywhere", 3, l, body, want)
		}
		for _, size := range []uint64{room + 1, 1 << 31, 1 << 32, 1<<32 + 7, 1 << 63, top} {
			l, body := plain()
			l[2].at, l[2].size = at, size
			wantNone(t, "too many bytes 0", file(3, l, body), api.ErrBig)
			want := plainSections()
			l[2].kind, want[2].Type, want[2].Data = 0, 0, nil
			wantFile(t, "none, however many they were", 3, l, body, want)
		}
	}
}

// small are the numbers that have a limit, and whether they have four bytes only.
func small(x *entry) (four []*uint32, eight []*uint64) {
	return []*uint32{&x.link, &x.info, &x.kind}, []*uint64{&x.align, &x.each}
}

func TestTakeOfNumbersAtTheirLimit(t *testing.T) {
	for _, n := range []uint32{0, 1, 255, 256, 65535, 65536, limit - 1, limit} {
		l, body := plain()
		want := plainSections()
		l[1].link, l[1].info, l[1].align, l[1].each = n, limit-n, uint64(n/2), uint64(limit-n/2)
		want[1].Link, want[1].Info, want[1].Align, want[1].Ent = int(n), int(limit-n), int(n/2), int(limit-n/2)
		wantFile(t, "each at another number", 3, l, body, want)
		for i := 1; i < 4; i++ {
			l, body := plain()
			want := plainSections()
			l[i].link, l[i].info, l[i].align, l[i].each = n, n, uint64(n), uint64(n)
			want[i].Link, want[i].Info, want[i].Align, want[i].Ent = int(n), int(n), int(n), int(n)
			wantFile(t, "all at one number", 3, l, body, want)
		}
	}
	for i := range 4 {
		for which := range 3 {
			for _, n := range []uint32{limit + 1, limit + 2, 1<<32 - 2, 1<<32 - 1} {
				l, body := plain()
				four, _ := small(&l[i])
				*four[which] = n
				wantNone(t, "a number of four bytes above the limit", file(3, l, body), api.ErrSect)
			}
		}
		for which := range 2 {
			for _, n := range []uint64{limit + 1, limit + 2, 1<<32 - 1, 1 << 32, 1<<32 + 1, 1<<63 - 1, 1 << 63, 1<<63 + 1, top} {
				l, body := plain()
				_, eight := small(&l[i])
				*eight[which] = n
				wantNone(t, "a number of eight bytes above the limit", file(3, l, body), api.ErrSect)
			}
		}
	}
}

// One of Type 0, or 8, has the same limits.
func TestTakeOfNumbersOfEachType(t *testing.T) {
	for _, kind := range kinds {
		for which := range 4 {
			l, body := plain()
			l[1].kind = kind
			four, eight := small(&l[1])
			if which < 2 {
				*four[which] = limit + 1
			} else {
				*eight[which-2] = limit + 1
			}
			wantNone(t, "above the limit", file(3, l, body), api.ErrSect)
		}
	}
}

// Flags and Addr have no limit.
func TestTakeOfNumbersWithoutLimit(t *testing.T) {
	for _, n := range []uint64{0, 1, limit, limit + 1, 1 << 32, 1 << 63, top - 1, top} {
		for i := 1; i < 4; i++ {
			l, body := plain()
			want := plainSections()
			l[i].flags, l[i].addr = n, top-n
			want[i].Flags, want[i].Addr = n, top-n
			wantFile(t, "flags and addresses", 3, l, body, want)
		}
	}
}

func TestTakeOfBytesInTheFile(t *testing.T) {
	_, body := plain()
	end := start(4) + uint64(len(body))
	for _, kind := range []uint32{1, 2, 4, 7, 9, 17, limit} {
		for _, size := range []uint64{0, 1, 2, 8, 64, end - 1, end} {
			l, body := plain()
			l[1].kind, l[1].at, l[1].size = kind, end-size, size
			want := plainSections()
			want[1].Type, want[1].Data = int(kind), file(3, l, body)[end-size:]
			wantFile(t, "to the end", 3, l, body, want)
			l[1].at++
			wantNone(t, "one behind it", file(3, l, body), api.ErrSect)
			l[1].at, l[1].size = l[1].at-1, l[1].size+1
			wantNone(t, "one more", file(3, l, body), api.ErrSect)
		}
		for _, at := range []uint64{end + 1, 1 << 31, 1 << 32, 1<<63 - 1, 1 << 63, top - 1, top} {
			for _, size := range []uint64{0, 1, 2, 8, 64, 1 << 16, 1<<16 + 1, top - at, top - at + 1, top - at + 2, top - at + start(4), top} {
				l, body := plain()
				l[1].kind, l[1].at, l[1].size = kind, at, size
				wantNone(t, "from behind the end", file(3, l, body), api.ErrSect)
			}
		}
	}
}

// The bytes of the names lie in the file, too.
func TestTakeOfNamesInTheFile(t *testing.T) {
	l, body := plain()
	for size := range len(body) {
		wantNone(t, "bytes behind the end", file(3, l, body[:size]), api.ErrSect)
	}
	l[3].at = top - 5 // the sum is a place in the file again
	l[3].size = start(4) + 10
	wantNone(t, "a sum beyond 64 bits", file(3, l, body), api.ErrSect)
}

func TestTakeOfSoManyBytes(t *testing.T) {
	l, body := plain()
	for range 2*room + 100 {
		body = append(body, byte(len(body)))
	}
	for _, kind := range []uint32{1, 3, 7, limit} {
		for _, at := range []uint64{0, 5, start(4), start(4) + room - 1} {
			for _, size := range []uint64{room - 1, room} {
				l[1].kind, l[1].at, l[1].size = kind, at, size
				want := plainSections()
				want[1].Type, want[1].Data = int(kind), file(3, l, body)[at:at+size]
				wantFile(t, "just as many", 3, l, body, want)
			}
			for _, size := range []uint64{room + 1, room + 2, room + 64} {
				l[1].kind, l[1].at, l[1].size = kind, at, size
				wantNone(t, "too many", file(3, l, body), api.ErrBig)
			}
		}
	}
	l, _ = plain()
	l[3].size = room
	want := plainSections()
	want[3].Data = body[10 : 10+room]
	wantFile(t, "as many of the names", 3, l, body, want)
	l[3].size = room + 1
	wantNone(t, "too many of the names", file(3, l, body), api.ErrBig)
}

// fault is one of an entry: what is done to it, and what it is refused with.
type fault struct {
	what string
	do   func(x *entry)
	e    api.Errno
}

// faults are of an entry, whatever it is else.
func faults() []fault {
	return []fault{
		{"link", func(x *entry) { x.link = limit + 1 }, api.ErrSect},
		{"info", func(x *entry) { x.info = limit + 1 }, api.ErrSect},
		{"align", func(x *entry) { x.align = limit + 1 }, api.ErrSect},
		{"each", func(x *entry) { x.each = top }, api.ErrSect},
		{"type", func(x *entry) { x.kind = limit + 1 }, api.ErrSect},
		{"not in the file", func(x *entry) { x.kind, x.at, x.size = 1, top, 2 }, api.ErrSect},
		{"too many", func(x *entry) { x.kind, x.at, x.size = 1, 0, room+1 }, api.ErrBig},
		{"too many zeros", func(x *entry) { x.kind, x.at, x.size = 8, top, room+1 }, api.ErrBig},
	}
}

// In one entry the numbers come ahead of where its bytes lie, and that ahead of how many they are.
func TestTakeOfTwoFaultsOfOneEntry(t *testing.T) {
	_, body := plain()
	body = append(body, make([]byte, room)...)
	for i := range 4 {
		for _, f := range faults()[:5] {
			for _, g := range faults()[5:] {
				l, _ := plain()
				g.do(&l[i])
				f.do(&l[i])
				wantNone(t, f.what+" and "+g.what, file(3, l, body), api.ErrSect)
			}
		}
		l, _ := plain()
		l[i].kind, l[i].at, l[i].size = 1, start(4)+uint64(len(body))-room, room+1
		wantNone(t, "not in the file, and too many", file(3, l, body), api.ErrSect)
		l[i].at--
		wantNone(t, "too many alone", file(3, l, body), api.ErrBig)
	}
}

func TestTakeOfFaultsOfTwoEntries(t *testing.T) {
	_, body := plain()
	body = append(body, make([]byte, room)...)
	for i := range 4 {
		for j := range i {
			for _, f := range faults() {
				for _, g := range faults() {
					l, _ := plain()
					f.do(&l[j])
					g.do(&l[i])
					wantNone(t, f.what+" ahead of "+g.what, file(3, l, body), f.e)
				}
			}
		}
	}
}

// What entries are refused with by themselves comes ahead of what their names,
// and the first one, are.
func TestTakeOfFaultsOfEntriesAheadOfNames(t *testing.T) {
	_, body := plain()
	body = append(body, make([]byte, room)...)
	for _, f := range faults() {
		for i := 1; i < 3; i++ {
			l, _ := plain()
			f.do(&l[i])
			l[0].flags, l[1].name, l[2].name, l[3].kind = 1, 22, 1<<32-1, 1
			wantNone(t, "names, and "+f.what, file(3, l, body), f.e)
		}
		l, _ := plain()
		l[1].name = 1 << 31
		f.do(&l[3])
		wantNone(t, "the section of the names, "+f.what, file(3, l, body), f.e)
	}
}

func TestTakeOfAnotherTableOfNames(t *testing.T) {
	for shstr := 1; shstr < 3; shstr++ {
		l, body := plain()
		wantNone(t, "a section that has none", file(shstr, l, body), api.ErrSect)
		l[shstr].at, l[shstr].size = l[3].at, l[3].size
		wantNone(t, "the right bytes, but another type", file(shstr, l, body), api.ErrSect)
		l[shstr].kind = 3
		want := plainSections()
		want[shstr].Type, want[shstr].Data = 3, []byte(names)
		wantFile(t, "the right bytes and the type", shstr, l, body, want)
	}
	for _, kind := range kinds {
		if kind == 3 {
			continue
		}
		l, body := plain()
		l[3].kind = kind
		wantNone(t, "another type", file(3, l, body), api.ErrSect)
	}
}

// The table of names need not be the last section, nor bear that name, and its
// texts may be in any order, or more than once.
func TestTakeOfNamesAsTheyStand(t *testing.T) {
	table := "a\x00b.c\x00\x00a\x00" + strings.Repeat("x", 200) + "\x00"
	at := start(9)
	l := []entry{
		{name: 6},
		{name: 0, kind: 3, at: at, size: uint64(len(table))},
		{name: 0, kind: 1, at: at},
		{name: 1, kind: 1, at: at},
		{name: 3, kind: 0},
		{name: 4, kind: 8},
		{name: 7, kind: 1, at: at},
		{name: 9, kind: 1, at: at},
		{name: uint32(len(table) - 1), kind: 1, at: at},
	}
	wantNone(t, "the first entry's name stands elsewhere", file(1, l, []byte(table)), api.ErrSect)
	l[0].name = 0
	want := []api.Section{
		{Name: "a"}, // its entry is all zero, and that is where a stands
		{Name: "a", Type: 3, Data: []byte(table)},
		{Name: "a", Type: 1}, {Name: "", Type: 1}, {Name: ".c"}, {Name: "c", Type: 8}, {Name: "a", Type: 1},
		{Name: strings.Repeat("x", 200), Type: 1}, {Name: "", Type: 1},
	}
	wantFile(t, "names as they stand", 1, l, []byte(table), want)
}

func TestTakeOfNamesThatCantBeRead(t *testing.T) {
	for i := 1; i < 4; i++ {
		for _, at := range []uint32{22, 23, 1000, room, limit, limit + 1, 1<<32 - 1} {
			l, body := plain()
			l[i].name = at
			wantNone(t, "behind the table", file(3, l, append(body, "more\x00"...)), api.ErrSect)
		}
		l, body := plain()
		l[i].name = 21
		want := plainSections()
		want[i].Name = ""
		wantFile(t, "the table's last byte", 3, l, body, want)
		l, body = plain()
		l[3].size--
		l[i].name = 12
		wantNone(t, "a name without its end", file(3, l, body), api.ErrSect)
		l[i].kind, l[i].name = 0, 99
		wantNone(t, "one of a section without bytes", file(3, l, body), api.ErrSect)
	}
	l, body := plain()
	l[3].size = 0
	wantNone(t, "an empty table", file(3, l, body), api.ErrSect)
	l[3].size = 1
	wantNone(t, "a table of one byte", file(3, l, body), api.ErrSect)
	l[1].name, l[2].name, l[3].name = 0, 0, 0
	want := plainSections()
	want[1].Name, want[2].Name, want[3].Name, want[3].Data = "", "", "", []byte{0}
	wantFile(t, "a table of one byte, of which all have the name", 3, l, body, want)
}

// A name that is too long for chapter 3 is one that can't be read, and no ErrBig.
func TestTakeOfLongNames(t *testing.T) {
	for _, size := range []int{199, 200, 201, 300} {
		table := "\x00" + strings.Repeat("y", size) + "\x00"
		l := []entry{{}, {name: 1, kind: 3, at: start(2), size: uint64(len(table))}}
		if size <= 200 {
			wantFile(t, "not too long", 1, l, []byte(table), []api.Section{{}, {Name: table[1 : 1+size], Type: 3, Data: []byte(table)}})
		} else {
			wantNone(t, "too long", file(1, l, []byte(table)), api.ErrSect)
			l[1].name += uint32(size - 200)
			wantTaken(t, "its end", file(1, l, []byte(table)))
		}
	}
}

func TestTakeOfAFirstEntryThatIsNotAllZero(t *testing.T) {
	for at := range 64 {
		for _, v := range []byte{1, 2, 64, 127} {
			l, body := plain()
			b := file(3, l, body)
			b[64+at] = v
			wantNone(t, "another first entry", b, api.ErrSect)
		}
	}
	for _, x := range []entry{
		{name: 21}, // where an empty text stands, too
		{kind: 3, at: start(4) + 10, size: 22},
		{kind: 1}, {kind: 8}, {kind: 8, size: 1}, {flags: 1 << 63}, {addr: 1}, {at: 64}, {at: top}, {size: 1}, {size: top},
		{link: 1}, {link: limit}, {info: 1}, {info: limit}, {align: 1}, {align: limit}, {each: 1}, {each: limit},
	} {
		l, body := plain()
		l[0] = x
		wantNone(t, "another first entry", file(3, l, body), api.ErrSect)
	}
	l, body := plain()
	l[0] = entry{kind: 8, size: room + 1}
	wantNone(t, "a first entry of too many bytes", file(3, l, body), api.ErrBig)
	l[0] = entry{size: room + 1} // of Type 0 there are none
	wantNone(t, "a first entry without bytes", file(3, l, body), api.ErrSect)
}

// Each byte of an entry is held in its place.
func TestTakeOfEachByte(t *testing.T) {
	l, body := plain()
	l[1] = entry{1, 0x04030201, 0x0c0b0a0908070605, 0x14131211100f0e0d, start(4), 1, 0x18171615, 0x1c1b1a19, 0x201f1e1d, 0x24232221}
	want := plainSections()
	want[1] = api.Section{Name: ".text", Type: 0x04030201, Flags: 0x0c0b0a0908070605, Addr: 0x14131211100f0e0d, Data: []byte("."), Link: 0x18171615, Info: 0x1c1b1a19, Align: 0x201f1e1d, Ent: 0x24232221}
	wantFile(t, "each byte another", 3, l, body, want)
}

// What lies behind a list's length is no part of the file.
func TestTakeReadsNothingBehindTheLength(t *testing.T) {
	l, body := plain()
	b := file(3, l, append(body, body...))
	whole := len(b) - len(body)
	wantTaken(t, "all of it", b[:whole])
	wantNone(t, "one less", b[:whole-1], api.ErrSect)
	wantNone(t, "no entries", b[:64], api.ErrHead)
}

func TestTakeTellsMemoryOfItsOwn(t *testing.T) {
	l, body := plain()
	l = append(l[:3:3], l[1], l[1], l[3]) // three sections over the same bytes
	for i := 1; i < len(l); i++ {
		l[i].at += start(6) - start(4)
	}
	b := file(5, l, body)
	before := bytes.Clone(b)
	first, again := wantTaken(t, "once", b), wantTaken(t, "again", b)
	for i := range first {
		for at := range first[i].Data {
			first[i].Data[at] ^= 255
		}
		_ = append(first[i].Data, "spare room"...)
		first[i].Name, first[i].Type = "changed", 99
		for j := i + 1; j < len(first); j++ {
			if !bytes.Equal(first[j].Data, again[j].Data) {
				t.Errorf("a change of section %d changed section %d", i, j)
			}
		}
	}
	_ = append(first, api.Section{})
	if !bytes.Equal(b, before) {
		t.Error("a change of what Take told changed the file")
	}
	for i := range b {
		b[i] = 255
	}
	if !alike(again, wantTaken(t, "the file as it was", before)) || again[1].Name != ".text" || string(again[3].Data) != "hello" {
		t.Error("a change of the file changed what Take told")
	}
}

// model is what Take tells by the chapter's words, written out once more.
func model(b []byte) (elfhead.Head, []api.Section, api.Errno) {
	no := elfhead.Head{}
	if len(b) > 1048576 {
		return no, nil, api.ErrBig
	}
	h, e := elfhead.Take(b)
	if e != api.OK {
		return no, nil, e
	}
	u4 := func(i, at int) uint64 { return uint64(binary.LittleEndian.Uint32(b[int(h.Shoff)+64*i+at:])) }
	u8 := func(i, at int) uint64 { return binary.LittleEndian.Uint64(b[int(h.Shoff)+64*i+at:]) }
	var l []api.Section
	size := uint64(len(b))
	for i := range h.Shnum {
		if u4(i, 40) > limit || u4(i, 44) > limit || u8(i, 48) > limit || u8(i, 56) > limit || u4(i, 4) > limit {
			return no, nil, api.ErrSect
		}
		s := api.Section{Type: int(u4(i, 4)), Flags: u8(i, 8), Addr: u8(i, 16), Link: int(u4(i, 40)), Info: int(u4(i, 44)), Align: int(u8(i, 48)), Ent: int(u8(i, 56))}
		switch at, count := u8(i, 24), u8(i, 32); {
		case s.Type != 0 && s.Type != 8 && (at > size || count > size-at):
			return no, nil, api.ErrSect
		case s.Type != 0 && count > 65536:
			return no, nil, api.ErrBig
		case s.Type == 8:
			s.Data = make([]byte, count)
		case s.Type != 0:
			s.Data = b[at : at+count]
		}
		l = append(l, s)
	}
	if l[h.Shstr].Type != 3 || !bytes.Equal(b[h.Shoff:h.Shoff+64], make([]byte, 64)) {
		return no, nil, api.ErrSect
	}
	for i := range l {
		table, at := l[h.Shstr].Data, u4(i, 0)
		if at >= uint64(len(table)) {
			return no, nil, api.ErrSect
		}
		text, _, ok := bytes.Cut(table[at:], []byte{0})
		if !ok || len(text) > 200 {
			return no, nil, api.ErrSect
		}
		l[i].Name = string(text)
	}
	return h, l, api.OK
}

func TestTakeOfAnything(t *testing.T) {
	chance := rand.New(rand.NewSource(7))
	met := map[api.Errno]int{}
	for range 30000 {
		l, body := plain()
		b := file(3, l, body)
		for range chance.Intn(4) {
			at := 16 + chance.Intn(len(b)-16)
			b[at] = []byte{0, 1, 2, 3, 7, 8, 21, 22, 64, 127, 128, 255, byte(chance.Intn(256))}[chance.Intn(13)]
		}
		b = b[:len(b)-chance.Intn(3)*chance.Intn(2)]
		h, want, e := model(b)
		wantTake(t, "anything", b, h, want, e)
		met[e]++
	}
	for _, e := range []api.Errno{api.OK, api.ErrHead, api.ErrSect, api.ErrBig} {
		if met[e] < 100 {
			t.Errorf("%d was met %d times", e, met[e])
		}
	}
}
