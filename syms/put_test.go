package syms_test

import (
	"bytes"
	"math"
	"math/rand"
	"slices"
	"strings"
	"testing"

	"sindri/api"
	"sindri/syms"
)

// P8.2

func TestExample1(t *testing.T) {
	l := []api.Symbol{{}, {Name: "main", Sect: 1}}
	wantPut(t, "nothing and main", l, lay(entry{}, entry{name: 1, sect: 1}), "\x00main\x00")
}

func TestPut(t *testing.T) {
	l := plain()
	l[2].skip = 0 // what is not looked at
	wantPut(t, "plain", plainSymbols(), lay(l...), names)
	for i, x := range l {
		s := plainSymbols()[i]
		table := "\x00"
		if x.name > 0 {
			x.name, table = 1, "\x00"+s.Name+"\x00"
		}
		wantPut(t, "one", []api.Symbol{s}, lay(x), table)
	}
}

// The empty name stands first, even where no symbol has it.
func TestPutOfNone(t *testing.T) {
	wantPut(t, "nil", nil, nil, "\x00")
	wantPut(t, "none", []api.Symbol{}, nil, "\x00")
}

func TestPutOfNames(t *testing.T) {
	for _, x := range []struct {
		names, table string
		places       []uint32
	}{
		{"a", "\x00a\x00", []uint32{1}},
		{"a,,b", "\x00a\x00b\x00", []uint32{1, 0, 3}},
		{"a,b,", "\x00a\x00b\x00", []uint32{1, 3, 0}},
		{",,", "\x00", []uint32{0, 0, 0}},
		{"b,a,b,b,a", "\x00b\x00a\x00", []uint32{1, 3, 1, 1, 3}},
		{"ab,b,,a,ab,abc", "\x00ab\x00b\x00a\x00abc\x00", []uint32{1, 4, 0, 6, 1, 8}},
		{"z,A,a,\xff", "\x00z\x00A\x00a\x00\xff\x00", []uint32{1, 3, 5, 7}},
	} {
		var l []api.Symbol
		var want []entry
		for i, name := range strings.Split(x.names, ",") {
			l = append(l, api.Symbol{Name: name, Value: uint64(i)})
			want = append(want, entry{name: x.places[i], value: uint64(i)})
		}
		wantPut(t, x.names, l, lay(want...), x.table)
	}
}

func TestPutOfNamesThatMayNotBe(t *testing.T) {
	for _, name := range []string{"\x00", "a\x00", "\x00a", "a\x00b", strings.Repeat("x", 200) + "\x00", strings.Repeat("x", 201), strings.Repeat("x", room)} {
		for i := range plain() {
			l := plainSymbols()
			l[i].Name = name
			wantUnput(t, "a name that may not be", l, false)
			wantUnput(t, "alone", l[i:i+1], false)
		}
	}
	long := strings.Repeat("x", 200)
	wantPut(t, "as long as may be", []api.Symbol{{Name: long[1:]}, {Name: long}}, lay(entry{name: 1}, entry{name: 201}), "\x00"+long[1:]+"\x00"+long+"\x00")
}

func TestPutOfBindAndType(t *testing.T) {
	for _, bad := range []int{-1, -16, 16, 17, 31, 255, 256, 1 << 32, math.MinInt, math.MaxInt} {
		for i := range plain() {
			l := plainSymbols()
			l[i].Bind = bad
			wantUnput(t, "another Bind", l, false)
			l[i].Type = bad
			wantUnput(t, "another Bind and Type", l, false)
			l[i].Bind = 0
			wantUnput(t, "another Type", l, false)
		}
	}
	for bind := range 16 {
		for kind := range 16 {
			wantPut(t, "each Bind and Type", []api.Symbol{{Bind: bind, Type: kind}}, lay(entry{both: byte(16*bind + kind)}), "\x00")
		}
	}
}

func TestPutOfSect(t *testing.T) {
	for _, bad := range []int{-1, -2, -65536, 65535, 65536, 65537, 1 << 31, 1 << 32, 1<<32 + 1, math.MinInt, math.MaxInt} {
		for i := range plain() {
			l := plainSymbols()
			l[i].Sect = bad
			wantUnput(t, "another Sect", l, false)
		}
	}
	for _, sect := range []int{0, 1, 255, 256, 32768, 65520, 65521, 65533, 65534} {
		wantPut(t, "each Sect", []api.Symbol{{Sect: sect}}, lay(entry{sect: uint16(sect)}), "\x00")
	}
}

func TestPutOfValueAndSize(t *testing.T) {
	for _, n := range []uint64{0, 1, 0x0102030405060708, 1 << 32, 1 << 63, top - 1, top} {
		wantPut(t, "each Value and Size", []api.Symbol{{Value: n}, {Size: n}, {Value: n, Size: top - n}},
			lay(entry{value: n}, entry{size: n}, entry{value: n, size: top - n}), "\x00")
	}
}

func TestPutOfSoManySymbols(t *testing.T) {
	for _, n := range []int{1, 2, 100, most - 1, most} {
		wantBack(t, "so many", several(n))
		wantPut(t, "so many that are zero", make([]api.Symbol, n), make([]byte, 24*n), "\x00")
	}
	for _, n := range []int{most + 1, most + 2, 5000} {
		wantUnput(t, "too many", make([]api.Symbol, n), false)
	}
	wantUnput(t, "too many, each another", several(most+1), false)
}

// full is symbols whose names, the empty one among them, have so many bytes.
func full(bytes int) []api.Symbol {
	l := []api.Symbol{{}}
	for left := bytes - 1; left > 0; {
		size := min(left, 201)
		l = append(l, api.Symbol{Name: text(len(l), size-1)})
		left -= size
	}
	return slices.Clip(l)
}

func TestPutOfSoManyNames(t *testing.T) {
	just := full(room)
	_, b, e := syms.Put(just)
	if len(b) != room || e != api.OK {
		t.Errorf("just as many: Put = %d bytes, %d", len(b), e)
	}
	wantBack(t, "just as many", just)
	wantBack(t, "one less", full(room-1))
	wantUnput(t, "one more", full(room+1), true)
	wantUnput(t, "two more", append(just, api.Symbol{Name: "a"}), true)

	// Names that stand there already are no more bytes.
	again := append(just, just...)
	wantUnput(t, "some of them twice, too many symbols", again, false)
	wantBack(t, "as many, some of them twice", again[:most])
	wantBack(t, "as many, and the empty name", append(just, api.Symbol{}, api.Symbol{Sect: 1}))
	wantUnput(t, "as many, some of them twice, and one more", append(again[:most-1:most-1], api.Symbol{Name: "a"}), true)

	var each []api.Symbol
	for i := range most {
		each = append(each, api.Symbol{Name: text(i, 200)})
	}
	wantUnput(t, "each as long as may be", each, true)
	for i := range each {
		each[i].Name = text(7, 200)
	}
	wantBack(t, "one name, as long as may be", each)
}

// Of names that are just as many bytes without the empty one, that stands ahead
// of them, the table would have one more.
func TestPutOfSoManyNamesWithoutTheEmptyOne(t *testing.T) {
	wantUnput(t, "with it one more", full(room + 1)[1:], true)
	wantBack(t, "with it just as many", full(room)[1:])
}

func TestPutChangesNothing(t *testing.T) {
	l := append(plainSymbols(), api.Symbol{Name: "behind the length", Sect: -1})
	table, text, e := syms.Put(l[:4])
	again, other, _ := syms.Put(l[:4])
	if !bytes.Equal(table, again) || !bytes.Equal(text, other) || e != api.OK {
		t.Error("Put again puts another")
	}
	_ = append(table, "spare room"...)
	_ = append(text, "spare room"...)
	for i := range again {
		again[i] = 255
	}
	for i := range other {
		other[i] = 255
	}
	for i := range l[:4] {
		l[i] = api.Symbol{}
	}
	if got, e := syms.Take(table, text); !slices.Equal(got, plainSymbols()) || e != api.OK {
		t.Errorf("what was put shares memory: %s, %d", show(got), e)
	}
	if l[4].Name != "behind the length" || l[4].Sect != -1 {
		t.Error("Put changed what lies behind the length")
	}
}

// P8.4

func TestWhatIsPutIsTaken(t *testing.T) {
	wantBack(t, "none", nil)
	wantBack(t, "plain", plainSymbols())
	for n := range 60 {
		wantBack(t, "several", several(n))
	}
	wantBack(t, "at the limits", []api.Symbol{
		{Name: strings.Repeat("x", 200), Bind: 15, Type: 15, Sect: 65534, Value: top, Size: top},
		{}, {Bind: 15}, {Type: 15}, {Sect: 65534}, {Value: top}, {Size: top}, {Name: strings.Repeat("x", 200)},
	})
}

// anything makes symbols that may be.
func anything(chance *rand.Rand) []api.Symbol {
	number := func() uint64 {
		return []uint64{0, 1, limit, 1 << 32, top, chance.Uint64()}[chance.Intn(6)]
	}
	var l []api.Symbol
	for range chance.Intn(30) {
		l = append(l, api.Symbol{
			Name: []string{"", "a", "b", "ab", "main", "\xff", strings.Repeat("l", 200), text(chance.Intn(90), 3)}[chance.Intn(8)],
			Bind: chance.Intn(16), Type: chance.Intn(16), Sect: []int{0, 1, 65521, 65534, chance.Intn(65535)}[chance.Intn(5)],
			Value: number(), Size: number(),
		})
	}
	return l
}

func TestWhatIsPutIsTakenOfAnything(t *testing.T) {
	chance := rand.New(rand.NewSource(84))
	for range 5000 {
		wantBack(t, "anything that may be", anything(chance))
	}
}

// What is taken, of whatever bytes, may be, and is put and taken again.
func TestWhatIsTakenIsPut(t *testing.T) {
	chance := rand.New(rand.NewSource(81))
	var told int
	for range 20000 {
		table := make([]byte, 24*chance.Intn(4))
		chance.Read(table)
		text := make([]byte, 200)
		chance.Read(text)
		for i := 0; i+1 < len(table); i += 24 {
			table[i+1], table[i+2], table[i+3] = 0, 0, 0 // else no name is ever found
		}
		l, e := syms.Take(table, append(text, 0))
		if e != api.OK {
			if len(l) != 0 || e != api.ErrSym {
				t.Errorf("Take = %s, %d", show(l), e)
			}
			continue
		}
		told += len(l)
		wantBack(t, "what was taken", l)
	}
	if told == 0 {
		t.Error("no symbol was told")
	}
}
