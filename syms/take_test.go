package syms_test

import (
	"bytes"
	"slices"
	"strings"
	"testing"

	"sindri/api"
	"sindri/syms"
)

// P8.1

func TestTake(t *testing.T) {
	wantTake(t, "plain", lay(plain()...), names, plainSymbols(), api.OK)
	wantTake(t, "the other way round", lay(plain()[3], plain()[2], plain()[1], plain()[0]), names,
		[]api.Symbol{plainSymbols()[3], plainSymbols()[2], plainSymbols()[1], plainSymbols()[0]}, api.OK)
	for i, x := range plain() {
		wantTake(t, "one", lay(x), names, plainSymbols()[i:i+1], api.OK)
		wantTake(t, "one twice", lay(x, x), names, []api.Symbol{plainSymbols()[i], plainSymbols()[i]}, api.OK)
	}
}

func TestTakeOfNone(t *testing.T) {
	for _, names := range []string{"", "\x00", "no end", names} {
		wantTake(t, "no bytes", nil, names, nil, api.OK)
		wantTake(t, "no bytes", []byte{}, names, nil, api.OK)
	}
	if l, e := syms.Take(nil, nil); len(l) != 0 || e != api.OK {
		t.Errorf("Take of nothing = %s, %d", show(l), e)
	}
}

// Each byte of an entry stands for what the chapter says.
func TestTakeOfEachByte(t *testing.T) {
	names := strings.Repeat("\x00", 255) + "text\x00"
	want := api.Symbol{Name: "text", Bind: 0xc, Type: 0xd, Sect: 0x2122, Value: 0x3132333435363738, Size: 0x4142434445464748}
	b := []byte{
		255, 0, 0, 0, 0xcd, 0xee, 0x22, 0x21,
		0x38, 0x37, 0x36, 0x35, 0x34, 0x33, 0x32, 0x31,
		0x48, 0x47, 0x46, 0x45, 0x44, 0x43, 0x42, 0x41,
	}
	wantTake(t, "by bytes", b, names, []api.Symbol{want}, api.OK)
	want.Name = ""
	wantTake(t, "another name", turned(b, 0, 254), names, []api.Symbol{want}, api.OK)
	for i := 1; i < 4; i++ {
		wantNone(t, "the name far away", turned(b, i, 1+byte(i)), names, api.ErrSym)
	}
}

func TestTakeOfWhatIsNotLookedAt(t *testing.T) {
	for v := range 256 {
		for i := range plain() {
			l := plain()
			l[i].skip = byte(v)
			wantTake(t, "who may see it", lay(l...), names, plainSymbols(), api.OK)
		}
	}
}

func TestTakeOfBindAndType(t *testing.T) {
	for v := range 256 {
		l, want := plain(), plainSymbols()
		l[1].both, l[3].both = byte(v), byte(255-v)
		want[1].Bind, want[1].Type = v/16, v%16
		want[3].Bind, want[3].Type = (255-v)/16, (255-v)%16
		wantTake(t, "each Bind and Type", lay(l...), names, want, api.OK)
	}
}

func TestTakeOfSect(t *testing.T) {
	for _, sect := range []uint16{0, 1, 63, 64, 255, 256, 32767, 32768, 65280, 65520, 65521, 65522, 65533, 65534} {
		for i := range plain() {
			l, want := plain(), plainSymbols()
			l[i].sect, want[i].Sect = sect, int(sect)
			wantTake(t, "each Sect", lay(l...), names, want, api.OK)
		}
	}
	for i := range plain() {
		l := plain()
		l[i].sect = 65535
		wantNone(t, "Sect 65535", lay(l...), names, api.ErrSym)
		wantNone(t, "Sect 65535 alone", lay(l[i]), names, api.ErrSym)
	}
}

func TestTakeOfValueAndSize(t *testing.T) {
	for _, n := range []uint64{0, 1, 255, 256, limit, limit + 1, 1<<32 - 1, 1 << 32, 1<<63 - 1, 1 << 63, top - 1, top} {
		for i := range plain() {
			l, want := plain(), plainSymbols()
			l[i].value, l[i].size = n, top-n
			want[i].Value, want[i].Size = n, top-n
			wantTake(t, "each Value and Size", lay(l...), names, want, api.OK)
			l[i].value, want[i].Value = n, n
			l[i].size, want[i].Size = n, n
			wantTake(t, "both the same", lay(l...), names, want, api.OK)
		}
	}
}

func TestTakeOfNoWholeNumberOfEntries(t *testing.T) {
	b := lay(plain()...)
	for size := range len(b) + 1 {
		if size%24 == 0 {
			wantTake(t, "a whole number", b[:size], names, plainSymbols()[:size/24], api.OK)
			continue
		}
		wantNone(t, "no whole number", b[:size], names, api.ErrSym)
		wantNone(t, "no whole number, without a name", b[:size], "", api.ErrSym)
	}
}

func TestTakeOfSoManyEntries(t *testing.T) {
	l, want := make([]entry, most+2), make([]api.Symbol, most+2)
	for i := range l {
		l[i] = entry{name: 6, both: byte(i), sect: uint16(i), value: uint64(i), size: 1}
		want[i] = api.Symbol{Name: "data", Bind: i % 256 / 16, Type: i % 16, Sect: i, Value: uint64(i), Size: 1}
	}
	b := lay(l...)
	for _, n := range []int{1, 2, 100, most - 1, most} {
		wantTake(t, "so many", b[:24*n], names, want[:n], api.OK)
	}
	for _, n := range []int{most + 1, most + 2} {
		wantNone(t, "too many", b[:24*n], names, api.ErrBig)
	}
	wantNone(t, "many more", make([]byte, 24*5000), "\x00", api.ErrBig)
}

// Too many entries are told ahead of what one of them is, and behind that they
// are no whole number.
func TestTakeOfTooManyEntriesAndMore(t *testing.T) {
	b := make([]byte, 24*(most+2))
	for size := 24*(most+1) + 1; size < 24*(most+2); size++ {
		wantNone(t, "too many, and no whole number", b[:size], "\x00", api.ErrSym)
	}
	for size := 24*most + 1; size < 24*(most+1); size++ {
		wantNone(t, "just as many, and no whole number", b[:size], "\x00", api.ErrSym)
	}
	wantNone(t, "too many, without a name", b, "", api.ErrBig)
	wantNone(t, "just as many, without a name", b[:24*most], "", api.ErrSym)
	for _, i := range []int{0, most - 1, most, most + 1} {
		c := turned(turned(b, 24*i+6, 255), 24*i+7, 255)
		wantNone(t, "too many, and a Sect that may not be", c, "\x00", api.ErrBig)
		e := api.ErrSym
		var want []api.Symbol
		if i >= most { // it is left out of those that are looked at
			e, want = api.OK, make([]api.Symbol, most)
		}
		wantTake(t, "a Sect that may not be", c[:24*most], "\x00", want, e)
	}
}

func TestTakeOfNamesAsTheyStand(t *testing.T) {
	long := strings.Repeat("x", 200)
	table := "a\x00b.c\x00\x00a\x00" + long + "\x00\xff\xfe\x00"
	l := []entry{{name: 0}, {name: 1}, {name: 2}, {name: 3}, {name: 4}, {name: 6}, {name: 7}, {name: 8}, {name: 9}, {name: 10}, {name: 209}, {name: 210}, {name: 212}, {name: 0}}
	var want []api.Symbol
	for _, s := range []string{"a", "", "b.c", ".c", "c", "", "a", "", long, long[1:], "", "\xff\xfe", "", "a"} {
		want = append(want, api.Symbol{Name: s})
	}
	wantTake(t, "names as they stand", lay(l...), table, want, api.OK)
}

func TestTakeOfNamesAtNoPlace(t *testing.T) {
	for _, at := range []uint32{15, 16, 1000, room, limit, limit + 1, 1<<32 - 1} {
		for i := range plain() {
			l := plain()
			l[i].name = at
			wantNone(t, "behind the names", lay(l...), names, api.ErrSym)
		}
	}
	l := plain()
	l[3].name = 14
	want := plainSymbols()
	want[3].Name = ""
	wantTake(t, "at the last byte", lay(l...), names, want, api.OK)
	wantNone(t, "no names", lay(entry{}), "", api.ErrSym)
	if l, e := syms.Take(lay(entry{}), nil); len(l) != 0 || e != api.ErrSym {
		t.Errorf("Take without names = %s, %d", show(l), e)
	}
}

func TestTakeOfNamesWithoutEnd(t *testing.T) {
	b := lay(plain()...)
	for size := range len(names) {
		wantNone(t, "names cut short", b, names[:size], api.ErrSym)
	}
	for _, at := range []uint32{3, 4, 5} {
		wantNone(t, "one without its end", lay(entry{name: at}), "ab\x00cde", api.ErrSym)
	}
	wantTake(t, "those ahead of it", lay(entry{}, entry{name: 1}, entry{name: 2}), "ab\x00cde",
		[]api.Symbol{{Name: "ab"}, {Name: "b"}, {}}, api.OK)
	wantNone(t, "one among others", lay(entry{}, entry{name: 3}, entry{name: 2}), "ab\x00cde", api.ErrSym)
	wantNone(t, "long, without its end", lay(entry{}), strings.Repeat("x", 300), api.ErrSym)
}

// Of a name that is too long, too, ErrSym is told.
func TestTakeOfNamesThatAreTooLong(t *testing.T) {
	for _, size := range []int{201, 202, 300, room} {
		table := strings.Repeat("x", size) + "\x00"
		wantNone(t, "too long", lay(entry{}), table, api.ErrSym)
		wantNone(t, "too long, behind others", lay(entry{name: uint32(size)}, entry{}), table, api.ErrSym)
		wantNone(t, "still too long", lay(entry{name: uint32(size) - 201}), table, api.ErrSym)
		wantTake(t, "its end", lay(entry{name: uint32(size) - 200}), table, []api.Symbol{{Name: table[size-200 : size]}}, api.OK)
	}
}

// Two entries that are each refused are refused as one of them is.
func TestTakeOfTwoFaults(t *testing.T) {
	faults := []func(x *entry){
		func(x *entry) { x.name = 15 },
		func(x *entry) { x.name = 1<<32 - 1 },
		func(x *entry) { x.sect = 65535 },
		func(x *entry) { x.name, x.sect = 15, 65535 },
	}
	for i := range plain() {
		for j := range plain() {
			for _, f := range faults {
				for _, g := range faults {
					l := plain()
					f(&l[i])
					g(&l[j])
					wantNone(t, "two faults", lay(l...), names, api.ErrSym)
				}
			}
		}
	}
}

// The names may be more than a section has.
func TestTakeOfManyNames(t *testing.T) {
	table := strings.Repeat("y\x00", 2*room)
	l := []entry{{name: 4*room - 2}, {name: 2 * room}, {name: 4*room - 1}}
	wantTake(t, "far away", lay(l...), table, []api.Symbol{{Name: "y"}, {Name: "y"}, {}}, api.OK)
	wantNone(t, "farther away", lay(entry{name: 4 * room}), table, api.ErrSym)
}

func TestTakeReadsNothingBehindALength(t *testing.T) {
	table := lay(append(plain(), entry{name: 1<<32 - 1})...)
	text := []byte(names + "behind\x00")
	l, e := syms.Take(table[:96], text[:15])
	if !slices.Equal(l, plainSymbols()) || e != api.OK {
		t.Errorf("Take = %s, %d", show(l), e)
	}
	if l, e := syms.Take(table[:96], text[:14]); len(l) != 0 || e != api.ErrSym {
		t.Errorf("the end of a name behind the length: Take = %s, %d", show(l), e)
	}
	if l, e := syms.Take(table[:95], text[:15]); len(l) != 0 || e != api.ErrSym {
		t.Errorf("the end of an entry behind the length: Take = %s, %d", show(l), e)
	}
	if !bytes.Equal(table, lay(append(plain(), entry{name: 1<<32 - 1})...)) || string(text) != names+"behind\x00" {
		t.Error("Take changed what lies behind a length")
	}
}

func TestWhatIsTakenSharesNoMemory(t *testing.T) {
	table, text := lay(plain()...), []byte(names)
	l, e := syms.Take(table, text)
	again, _ := syms.Take(table, text)
	for i := range table {
		table[i] = 255
	}
	for i := range text {
		text[i] = 'z'
	}
	for i := range again {
		again[i] = api.Symbol{}
	}
	_ = append(again, api.Symbol{Name: "spare room"})
	if !slices.Equal(l, plainSymbols()) || e != api.OK {
		t.Errorf("Take = %s, %d", show(l), e)
	}
}
