package syms_test

import (
	"bytes"
	"encoding/binary"
	"math"
	"math/rand"
	"slices"
	"testing"

	"sindri/api"
	"sindri/syms"
)

// link is a relocation's entry by the chapter's words.
type link struct{ off, both, add uint64 }

// chain is entries' bytes.
func chain(l ...link) []byte {
	var b []byte
	for _, x := range l {
		b = binary.LittleEndian.AppendUint64(b, x.off)
		b = binary.LittleEndian.AppendUint64(b, x.both)
		b = binary.LittleEndian.AppendUint64(b, x.add)
	}
	return b
}

// links are entries.
func links() []link {
	return []link{
		{0, 0, 0},
		{0x1020304050607080, 3<<32 + 10, 0x0102030405060708},
		{top, limit<<32 + limit, top},
		{7, 1<<32 + 257, 1 << 63},
	}
}

// linkRelas is what these entries tell.
func linkRelas() []api.Rela {
	return []api.Rela{
		{},
		{Off: 0x1020304050607080, Sym: 3, Type: 10, Add: 0x0102030405060708},
		{Off: top, Sym: limit, Type: limit, Add: -1},
		{Off: 7, Sym: 1, Type: 257, Add: math.MinInt64},
	}
}

// wantRelas looks at what TakeRelas tells, and that it leaves what it is handed.
func wantRelas(t *testing.T, what string, b []byte, want []api.Rela, e api.Errno) {
	t.Helper()
	before := bytes.Clone(b)
	if got, err := syms.TakeRelas(b); !slices.Equal(got, want) || err != e {
		t.Errorf("%s: TakeRelas = %s, %d, want %s, %d", what, show(got), err, show(want), e)
	}
	if !bytes.Equal(b, before) {
		t.Errorf("%s: TakeRelas changed what was handed in", what)
	}
}

// wantPutRelas looks at what PutRelas puts, and that it leaves what it is handed.
func wantPutRelas(t *testing.T, what string, l []api.Rela, want []byte) {
	t.Helper()
	before := slices.Clone(l)
	if got := syms.PutRelas(l); !bytes.Equal(got, want) {
		t.Errorf("%s: PutRelas = %x, want %x", what, got, want)
	}
	if !slices.Equal(l, before) {
		t.Errorf("%s: PutRelas changed what was handed in", what)
	}
}

// P8.3: TakeRelas

func TestTakeRelas(t *testing.T) {
	wantRelas(t, "plain", chain(links()...), linkRelas(), api.OK)
	for i, x := range links() {
		wantRelas(t, "one", chain(x), linkRelas()[i:i+1], api.OK)
		wantRelas(t, "one twice", chain(x, x), []api.Rela{linkRelas()[i], linkRelas()[i]}, api.OK)
	}
	wantRelas(t, "nil", nil, nil, api.OK)
	wantRelas(t, "no bytes", []byte{}, nil, api.OK)
}

// Each byte of an entry stands for what the chapter says.
func TestTakeRelasOfEachByte(t *testing.T) {
	b := []byte{
		0x18, 0x17, 0x16, 0x15, 0x14, 0x13, 0x12, 0x11,
		0x24, 0x23, 0x22, 0x21, 0x34, 0x33, 0x32, 0x31,
		0x48, 0x47, 0x46, 0x45, 0x44, 0x43, 0x42, 0x41,
	}
	want := api.Rela{Off: 0x1112131415161718, Sym: 0x31323334, Type: 0x21222324, Add: 0x4142434445464748}
	wantRelas(t, "by bytes", b, []api.Rela{want}, api.OK)
	wantPutRelas(t, "by bytes", []api.Rela{want}, b)
}

func TestTakeRelasOfNoWholeNumberOfEntries(t *testing.T) {
	b := chain(links()...)
	for size := range len(b) + 1 {
		if size%24 == 0 {
			wantRelas(t, "a whole number", b[:size], linkRelas()[:size/24], api.OK)
			continue
		}
		wantRelas(t, "no whole number", b[:size], nil, api.ErrRel)
	}
}

func TestTakeRelasOfSoManyEntries(t *testing.T) {
	l, want := make([]link, most+2), make([]api.Rela, most+2)
	for i := range l {
		l[i] = link{uint64(i), uint64(i)<<32 + uint64(i*i), -uint64(i)}
		want[i] = api.Rela{Off: uint64(i), Sym: i, Type: i * i, Add: int64(-i)}
	}
	b := chain(l...)
	for _, n := range []int{1, 2, 100, most - 1, most} {
		wantRelas(t, "so many", b[:24*n], want[:n], api.OK)
	}
	for _, n := range []int{most + 1, most + 2} {
		wantRelas(t, "too many", b[:24*n], nil, api.ErrBig)
	}
	wantRelas(t, "many more", make([]byte, 24*5000), nil, api.ErrBig)
}

// Too many entries are told ahead of what one of them is, and behind that they
// are no whole number.
func TestTakeRelasOfTooManyEntriesAndMore(t *testing.T) {
	b := make([]byte, 24*(most+2))
	for size := 24*most + 1; size < len(b); size++ {
		if size%24 != 0 {
			wantRelas(t, "too many, and no whole number", b[:size], nil, api.ErrRel)
		}
	}
	for _, i := range []int{0, most - 1, most, most + 1} {
		for _, at := range []int{11, 15} {
			c := turned(b, 24*i+at, 128)
			wantRelas(t, "too many, and one that may not be", c, nil, api.ErrBig)
			e := api.ErrRel
			var want []api.Rela
			if i >= most { // it is left out of those that are looked at
				e, want = api.OK, make([]api.Rela, most)
			}
			wantRelas(t, "one that may not be", c[:24*most], want, e)
		}
	}
}

func TestTakeRelasOfSymAndType(t *testing.T) {
	good := []uint64{0, 1, 255, 256, 65535, 65536, limit - 1, limit}
	bad := []uint64{limit + 1, limit + 2, 1<<32 - 2, 1<<32 - 1}
	for i := range links() {
		for _, n := range good {
			for _, m := range good {
				l, want := links(), linkRelas()
				l[i].both = n<<32 + m
				want[i].Sym, want[i].Type = int(n), int(m)
				wantRelas(t, "each Sym and Type", chain(l...), want, api.OK)
			}
			for _, m := range bad {
				l := links()
				l[i].both = n<<32 + m
				wantRelas(t, "a Type above the limit", chain(l...), nil, api.ErrRel)
				l[i].both = m<<32 + n
				wantRelas(t, "a Sym above the limit", chain(l...), nil, api.ErrRel)
				l[i].both = m<<32 + m
				wantRelas(t, "both above the limit", chain(l...), nil, api.ErrRel)
				wantRelas(t, "both above the limit, alone", chain(l[i]), nil, api.ErrRel)
				for j := range i {
					l[j].both = m
					wantRelas(t, "two that may not be", chain(l...), nil, api.ErrRel)
				}
			}
		}
	}
}

func TestTakeRelasOfOffAndAdd(t *testing.T) {
	for _, n := range []uint64{0, 1, limit, limit + 1, 1 << 32, 1<<63 - 1, 1 << 63, 1<<63 + 1, top - 1, top} {
		for i := range links() {
			l, want := links(), linkRelas()
			l[i].off, want[i].Off = n, n
			wantRelas(t, "each Off", chain(l...), want, api.OK)
		}
	}
	for _, n := range []int64{0, 1, -1, -2, 255, -256, limit, -limit - 1, 1 << 32, math.MaxInt64 - 1, math.MaxInt64, math.MinInt64 + 1, math.MinInt64} {
		for i := range links() {
			l, want := links(), linkRelas()
			l[i].add, want[i].Add = uint64(n), n
			wantRelas(t, "each Add", chain(l...), want, api.OK)
		}
	}
}

func TestWhatRelasAreTakenShareNoMemory(t *testing.T) {
	b := chain(append(links(), link{both: top})...)
	l, e := syms.TakeRelas(b[:96])
	again, _ := syms.TakeRelas(b[:96])
	if !bytes.Equal(b, chain(append(links(), link{both: top})...)) {
		t.Error("TakeRelas changed what was handed in, or what lies behind it")
	}
	for i := range b {
		b[i] = 255
	}
	for i := range again {
		again[i] = api.Rela{}
	}
	if !slices.Equal(l, linkRelas()) || e != api.OK {
		t.Errorf("TakeRelas = %s, %d", show(l), e)
	}
}

// P8.3: PutRelas

func TestPutRelas(t *testing.T) {
	wantPutRelas(t, "plain", linkRelas(), chain(links()...))
	wantPutRelas(t, "nil", nil, nil)
	wantPutRelas(t, "none", []api.Rela{}, nil)
	for i, r := range linkRelas() {
		wantPutRelas(t, "one", []api.Rela{r}, chain(links()[i]))
	}
}

// There is no number of them that PutRelas refuses.
func TestPutRelasOfMany(t *testing.T) {
	for _, n := range []int{most - 1, most, most + 1, 5000} {
		l, want := make([]api.Rela, n), make([]link, n)
		for i := range l {
			l[i].Off, want[i].off = uint64(i), uint64(i)
		}
		wantPutRelas(t, "many", l, chain(want...))
	}
}

// Of a Sym, or a Type, that has no room in four bytes, the lowest four are put,
// and the other one is put as it is.
func TestPutRelasOfSymAndType(t *testing.T) {
	numbers := []struct {
		n   int
		low uint64
	}{
		{0, 0}, {1, 1}, {limit, limit}, {limit + 1, limit + 1}, {1<<32 - 1, 1<<32 - 1},
		{1 << 32, 0}, {1<<32 + 5, 5}, {5<<32 + 7<<31, 7 << 31 & (1<<32 - 1)}, {math.MaxInt, 1<<32 - 1},
		{-1, 1<<32 - 1}, {-2, 1<<32 - 2}, {-limit - 1, limit + 1}, {-1 << 32, 0}, {-1<<32 - 1, 1<<32 - 1}, {math.MinInt, 0}, {math.MinInt + 6, 6},
	}
	for _, x := range numbers {
		for _, y := range numbers {
			l := linkRelas()
			want := links()
			l[1].Sym, l[1].Type, want[1].both = x.n, y.n, x.low<<32+y.low
			wantPutRelas(t, "each Sym and Type", l, chain(want...))
		}
	}
}

func TestPutRelasOfOffAndAdd(t *testing.T) {
	for _, n := range []int64{0, 1, -1, -2, limit, -limit - 1, math.MaxInt64, math.MinInt64} {
		wantPutRelas(t, "each Off and Add", []api.Rela{{Off: uint64(n)}, {Add: n}, {Off: top - uint64(n), Add: n}},
			chain(link{off: uint64(n)}, link{add: uint64(n)}, link{off: top - uint64(n), add: uint64(n)}))
	}
}

func TestWhatRelasArePutShareNoMemory(t *testing.T) {
	l := append(linkRelas(), api.Rela{Off: 99})
	b, again := syms.PutRelas(l[:4]), syms.PutRelas(l[:4])
	for i := range again {
		again[i] = 255
	}
	_ = append(again, "spare room"...)
	if !slices.Equal(l, append(linkRelas(), api.Rela{Off: 99})) {
		t.Error("PutRelas changed what was handed in, or what lies behind it")
	}
	if !bytes.Equal(b, chain(links()...)) {
		t.Errorf("PutRelas = %x", b)
	}
}

// P8.4

// wantRelasBack looks that relocations are put and taken as they were.
func wantRelasBack(t *testing.T, what string, l []api.Rela) {
	t.Helper()
	b := syms.PutRelas(l)
	if len(b) != 24*len(l) {
		t.Errorf("%s: PutRelas = %d bytes", what, len(b))
	}
	wantRelas(t, what, b, l, api.OK)
	wantPutRelas(t, what, l, b)
}

func TestWhatRelasArePutAreTaken(t *testing.T) {
	wantRelasBack(t, "none", nil)
	wantRelasBack(t, "plain", linkRelas())
	chance := rand.New(rand.NewSource(83))
	number := func() int { return []int{0, 1, 10, limit, chance.Intn(limit)}[chance.Intn(5)] }
	for _, count := range []int{1, 2, 3, 30, most - 1, most} {
		for range 200 {
			l := make([]api.Rela, count)
			for i := range l {
				l[i] = api.Rela{
					Off: []uint64{0, 1, top, chance.Uint64()}[chance.Intn(4)], Sym: number(), Type: number(),
					Add: []int64{0, -1, math.MinInt64, math.MaxInt64, int64(chance.Uint64())}[chance.Intn(5)],
				}
			}
			wantRelasBack(t, "anything that may be", l)
		}
	}
}

// Whatever bytes are taken are put as they were, as no byte is passed over.
func TestWhatRelasAreTakenArePut(t *testing.T) {
	chance := rand.New(rand.NewSource(82))
	var told int
	for range 20000 {
		b := make([]byte, 24*chance.Intn(4))
		chance.Read(b)
		l, e := syms.TakeRelas(b)
		if e != api.OK {
			if len(l) != 0 || e != api.ErrRel {
				t.Errorf("TakeRelas = %s, %d", show(l), e)
			}
			continue
		}
		told += len(l)
		wantPutRelas(t, "what was taken", l, b)
	}
	if told == 0 {
		t.Error("no relocation was told")
	}
}
