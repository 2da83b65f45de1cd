package elfhead_test

import (
	"bytes"
	"encoding/binary"
	"math"
	"math/big"
	"math/rand"
	"testing"

	"sindri/api"
	"sindri/elfhead"
)

const top = math.MaxUint64

// plain is a header that may be, of a file of 192 bytes and more.
var plain = elfhead.Head{Type: 1, Machine: 62, Shoff: 64, Shnum: 2, Shstr: 1}

// whole is a header's bytes by the chapter's words, with 0 where nothing is looked at.
func whole(h elfhead.Head) []byte {
	b := make([]byte, 64)
	copy(b, "\x7fELF\x02\x01\x01")
	binary.LittleEndian.PutUint16(b[16:], uint16(h.Type))
	binary.LittleEndian.PutUint16(b[18:], uint16(h.Machine))
	b[20] = 1
	binary.LittleEndian.PutUint64(b[40:], h.Shoff)
	b[52] = 64
	b[58] = 64
	binary.LittleEndian.PutUint16(b[60:], uint16(h.Shnum))
	binary.LittleEndian.PutUint16(b[62:], uint16(h.Shstr))
	return b
}

// file is a header's bytes, with others behind it, so many in all.
func file(h elfhead.Head, size int) []byte {
	b := make([]byte, max(size, 64))
	for i := copy(b, whole(h)); i < len(b); {
		i += copy(b[i:], "behind the header \x00\x7fELF\xff")
	}
	return b
}

// looked tells of each byte of a header whether it is looked at.
func looked(at int) bool {
	switch {
	case at >= 7 && at < 16, // behind the first seven
		at >= 24 && at < 40, // the entry, and where program headers stand
		at >= 48 && at < 52, // flags
		at >= 54 && at < 56: // a program header's size
		return false
	}
	return true
}

// may tells whether a header may be, with whole numbers.
func may(h elfhead.Head, size int) bool {
	end := new(big.Int).SetUint64(h.Shoff)
	end.Add(end, new(big.Int).Mul(big.NewInt(int64(h.Shnum)), big.NewInt(64)))
	return (h.Type == 1 || h.Type == 2) && (h.Machine == 62 || h.Machine == 183) &&
		h.Shnum >= 1 && h.Shnum <= 64 && h.Shstr >= 1 && h.Shstr <= h.Shnum-1 &&
		end.Cmp(big.NewInt(int64(size))) <= 0
}

func wantRight(t *testing.T, h elfhead.Head, size int, want bool) {
	t.Helper()
	if got := elfhead.Right(h, size); got != want {
		t.Errorf("Right(%+v, %d) = %v", h, size, got)
	}
}

// wantTake looks at what Take tells, and that it leaves what it is handed.
func wantTake(t *testing.T, what string, b []byte, want elfhead.Head, e api.Errno) {
	t.Helper()
	held := bytes.Clone(b)
	if got, err := elfhead.Take(b); got != want || err != e {
		t.Errorf("%s: Take = %+v, %d, want %+v, %d", what, got, err, want, e)
	}
	if !bytes.Equal(b, held) {
		t.Errorf("%s: Take changed what was handed in", what)
	}
}

func wantNone(t *testing.T, what string, b []byte, e api.Errno) {
	t.Helper()
	wantTake(t, what, b, elfhead.Head{}, e)
}

func wantPut(t *testing.T, h elfhead.Head, want []byte) {
	t.Helper()
	if got := elfhead.Put(h); !bytes.Equal(got, want) {
		t.Errorf("Put(%+v) = %x, want %x", h, got, want)
	}
}

// odd are numbers of int's whole range, all that are near an edge among them.
func odd() []int {
	l := []int{math.MinInt, math.MinInt + 1, math.MaxInt - 1, math.MaxInt, 300, 0x1234, 0x123456789}
	for n := -2; n <= 67; n++ {
		l = append(l, n)
	}
	for n := 180; n <= 186; n++ {
		l = append(l, n)
	}
	for _, n := range []int{1, 2, 62, 64, 183} { // the same lowest bytes as those of one that may be
		for _, shift := range []int{8, 16, 32, 48, 62} {
			l = append(l, 1<<shift|n, -(1<<shift)|n, n<<shift)
		}
	}
	return l
}

// places are where entries may be said to stand.
func places() []uint64 {
	l := []uint64{0, 1, 7, 63, 64, 65, 72, 128, 65536, 1 << 31, 1 << 32, 1<<63 - 1, 1 << 63, 1<<63 + 1}
	for n := range uint64(66) { // with 64 entries and fewer the sum goes beyond 64 bits
		l = append(l, top-64*n, top-64*n+1, top-64*n-1)
	}
	return l
}

// P6.1: Right

func TestSize(t *testing.T) {
	if elfhead.Size != 64 {
		t.Errorf("Size = %d", elfhead.Size)
	}
}

func TestRight(t *testing.T) {
	for _, x := range []struct {
		h    elfhead.Head
		want bool
	}{
		{elfhead.Head{}, false},
		{elfhead.Head{Type: 1, Machine: 62, Shoff: 64, Shnum: 2, Shstr: 1}, true},
		{elfhead.Head{Type: 2, Machine: 62, Shoff: 64, Shnum: 2, Shstr: 1}, true},
		{elfhead.Head{Type: 1, Machine: 183, Shoff: 64, Shnum: 2, Shstr: 1}, true},
		{elfhead.Head{Type: 2, Machine: 183, Shoff: 64, Shnum: 2, Shstr: 1}, true},
		{elfhead.Head{Type: 0, Machine: 62, Shoff: 64, Shnum: 2, Shstr: 1}, false},
		{elfhead.Head{Type: 3, Machine: 62, Shoff: 64, Shnum: 2, Shstr: 1}, false},
		{elfhead.Head{Type: 1, Machine: 3, Shoff: 64, Shnum: 2, Shstr: 1}, false},
		{elfhead.Head{Type: 1, Machine: 61, Shoff: 64, Shnum: 2, Shstr: 1}, false},
		{elfhead.Head{Type: 1, Machine: 63, Shoff: 64, Shnum: 2, Shstr: 1}, false},
		{elfhead.Head{Type: 1, Machine: 182, Shoff: 64, Shnum: 2, Shstr: 1}, false},
		{elfhead.Head{Type: 1, Machine: 184, Shoff: 64, Shnum: 2, Shstr: 1}, false},
		{elfhead.Head{Type: 1, Machine: 62, Shoff: 64, Shnum: 0, Shstr: 0}, false},
		{elfhead.Head{Type: 1, Machine: 62, Shoff: 64, Shnum: 0, Shstr: 1}, false},
		{elfhead.Head{Type: 1, Machine: 62, Shoff: 64, Shnum: 0, Shstr: -1}, false},
		{elfhead.Head{Type: 1, Machine: 62, Shoff: 64, Shnum: 1, Shstr: 0}, false},
		{elfhead.Head{Type: 1, Machine: 62, Shoff: 64, Shnum: 1, Shstr: 1}, false},
		{elfhead.Head{Type: 1, Machine: 62, Shoff: 64, Shnum: 2, Shstr: 0}, false},
		{elfhead.Head{Type: 1, Machine: 62, Shoff: 64, Shnum: 2, Shstr: 2}, false},
		{elfhead.Head{Type: 1, Machine: 62, Shoff: 64, Shnum: 2, Shstr: -1}, false},
		{elfhead.Head{Type: 1, Machine: 62, Shoff: 64, Shnum: 3, Shstr: 2}, true},
		{elfhead.Head{Type: 1, Machine: 62, Shoff: 64, Shnum: 64, Shstr: 0}, false},
		{elfhead.Head{Type: 1, Machine: 62, Shoff: 64, Shnum: 64, Shstr: 1}, true},
		{elfhead.Head{Type: 1, Machine: 62, Shoff: 64, Shnum: 64, Shstr: 63}, true},
		{elfhead.Head{Type: 1, Machine: 62, Shoff: 64, Shnum: 64, Shstr: 64}, false},
		{elfhead.Head{Type: 1, Machine: 62, Shoff: 64, Shnum: 65, Shstr: 1}, false},
		{elfhead.Head{Type: 1, Machine: 62, Shoff: 64, Shnum: 65, Shstr: 64}, false},
		{elfhead.Head{Type: 1, Machine: 62, Shoff: 64, Shnum: -1, Shstr: 1}, false},
		{elfhead.Head{Type: 1, Machine: 62, Shoff: 64, Shnum: -1, Shstr: -2}, false},
	} {
		for _, size := range []int{64 + 65*64, 1 << 20, math.MaxInt} {
			wantRight(t, x.h, size, x.want)
		}
	}
}

func TestRightOfNumbersInTheirRange(t *testing.T) {
	for _, n := range odd() {
		for _, size := range []int{192, 1 << 20, math.MaxInt, 0, -1} {
			h := plain
			h.Type = n
			wantRight(t, h, size, may(h, size))
			h = plain
			h.Machine = n
			wantRight(t, h, size, may(h, size))
			for _, m := range odd() {
				h = plain
				h.Shnum, h.Shstr = n, m
				wantRight(t, h, size, may(h, size))
			}
		}
	}
}

// Entries lie in the file, if they end where it does, or ahead of that.
func TestRightOfEntriesAtTheEnd(t *testing.T) {
	for _, count := range []int{2, 3, 63, 64} {
		for _, at := range []int{0, 1, 63, 64, 65, 128, 1000, 1 << 20, math.MaxInt - 64*64} {
			h := elfhead.Head{Type: 2, Machine: 183, Shoff: uint64(at), Shnum: count, Shstr: count - 1}
			end := at + 64*count
			wantRight(t, h, end, true)
			wantRight(t, h, end-1, false)
			wantRight(t, h, end-63, false)
			wantRight(t, h, end-64, false)
			wantRight(t, h, at, false)
			if end < math.MaxInt {
				wantRight(t, h, end+1, true)
			}
		}
	}
}

func TestRightOfPlacesBeyondTheFile(t *testing.T) {
	for _, at := range places() {
		for _, count := range []int{2, 3, 4, 32, 63, 64} {
			h := elfhead.Head{Type: 1, Machine: 62, Shoff: at, Shnum: count, Shstr: 1}
			for _, size := range []int{0, 1, 63, 64, 127, 128, 192, 65536, 1 << 31, math.MaxInt - 1, math.MaxInt} {
				wantRight(t, h, size, may(h, size))
			}
		}
	}
}

func TestRightOfNoFile(t *testing.T) {
	for _, at := range places() {
		for _, size := range []int{0, -1, -2, -64, -128, -192, math.MinInt + 1, math.MinInt} {
			h := plain
			h.Shoff = at
			wantRight(t, h, size, false)
			wantRight(t, elfhead.Head{}, size, false)
		}
	}
}

// P6.1: Take

func TestTake(t *testing.T) {
	wantTake(t, "plain", file(plain, 192), plain, api.OK)
	wantTake(t, "with more behind it", file(plain, 500), plain, api.OK)
	for _, h := range []elfhead.Head{
		{Type: 2, Machine: 183, Shoff: 0x0102, Shnum: 0x3f, Shstr: 0x3e},
		{Type: 1, Machine: 183, Shoff: 0x010203, Shnum: 64, Shstr: 63},
		{Type: 2, Machine: 62, Shoff: 65, Shnum: 3, Shstr: 2},
		{Type: 1, Machine: 62, Shoff: 0, Shnum: 2, Shstr: 1}, // the words ask for no more than that they lie in the file
		{Type: 1, Machine: 62, Shoff: 1, Shnum: 64, Shstr: 1},
	} {
		end := int(h.Shoff) + 64*h.Shnum
		wantTake(t, "just where the file ends", file(h, end), h, api.OK)
		wantTake(t, "with a byte behind it", file(h, end+1), h, api.OK)
		wantNone(t, "a byte too few", file(h, end-1), api.ErrHead)
	}
}

func TestTakeOfTooFewBytes(t *testing.T) {
	wantNone(t, "nil", nil, api.ErrMagic)
	wantNone(t, "none", []byte{}, api.ErrMagic)
	for size := range 64 {
		wantNone(t, "too few", whole(plain)[:size], api.ErrMagic)
		wantNone(t, "too few of all zero", make([]byte, size), api.ErrMagic)
	}
	wantNone(t, "no more than 64", whole(plain), api.ErrHead) // the entries have no room
	wantNone(t, "all zero", make([]byte, 64), api.ErrMagic)
	wantNone(t, "all zero, and more", make([]byte, 1000), api.ErrMagic)
}

// What lies behind a list's length is no part of the file.
func TestTakeReadsNothingBehindTheLength(t *testing.T) {
	room := file(plain, 400)
	for size := range 400 {
		switch {
		case size < 64:
			wantNone(t, "63 and fewer", room[:size], api.ErrMagic)
		case size < 192:
			wantNone(t, "191 and fewer", room[:size], api.ErrHead)
		default:
			wantTake(t, "192 and more", room[:size], plain, api.OK)
		}
	}
	if !bytes.Equal(room, file(plain, 400)) {
		t.Error("Take changed what lies in the room")
	}
}

func TestTakeOfAnotherMagic(t *testing.T) {
	for at := range 7 {
		for v := range 256 {
			for _, size := range []int{64, 191, 192, 400} {
				b := file(plain, size)
				if b[at] == byte(v) {
					continue
				}
				b[at] = byte(v)
				wantNone(t, "another magic", b, api.ErrMagic)
				b[20] = 2 // ErrHead would be due, too
				wantNone(t, "another magic, and another version", b, api.ErrMagic)
				wantNone(t, "another magic, too few bytes", b[:63], api.ErrMagic)
			}
		}
	}
}

func TestTakeOfAnotherNumberThatStandsFast(t *testing.T) {
	for _, x := range []struct{ at, size int }{{20, 4}, {52, 2}, {56, 2}, {58, 2}} {
		for at := x.at; at < x.at+x.size; at++ {
			for v := range 256 {
				b := file(plain, 192)
				if b[at] == byte(v) {
					continue
				}
				b[at] = byte(v)
				wantNone(t, "another number that stands fast", b, api.ErrHead)
			}
		}
	}
}

// Two that are wrong don't make a right one.
func TestTakeOfTwoOtherNumbers(t *testing.T) {
	fast := []int{20, 52, 56, 58}
	right := whole(plain)
	for i, at := range fast {
		for _, other := range fast[:i] {
			for v := range 130 {
				for _, w := range []int{0, 1, 63, 64, 128 - v, v, 1 - v, 64 - v, 65 - v} {
					b := file(plain, 192)
					b[at], b[other] = byte(v), byte(w)
					if b[at] == right[at] || b[other] == right[other] {
						continue
					}
					wantNone(t, "two other numbers", b, api.ErrHead)
				}
			}
		}
	}
}

func TestTakeOfWhatMayNotBe(t *testing.T) {
	for _, size := range []int{64, 191, 192, 64 + 64*64, 20000} {
		for n := range 300 {
			for _, h := range []elfhead.Head{
				{Type: n, Machine: 62, Shoff: 64, Shnum: 2, Shstr: 1},
				{Type: n << 8, Machine: 62, Shoff: 64, Shnum: 2, Shstr: 1},
				{Type: 1, Machine: n, Shoff: 64, Shnum: 2, Shstr: 1},
				{Type: 1, Machine: n << 8, Shoff: 64, Shnum: 2, Shstr: 1},
				{Type: 1, Machine: 62, Shoff: 64, Shnum: n, Shstr: 1},
				{Type: 1, Machine: 62, Shoff: 64, Shnum: n, Shstr: max(n-1, 0)},
				{Type: 1, Machine: 62, Shoff: 64, Shnum: n, Shstr: n},
				{Type: 1, Machine: 62, Shoff: 64, Shnum: min(n<<8, 65535), Shstr: 1},
				{Type: 1, Machine: 62, Shoff: 64, Shnum: 64, Shstr: n},
				{Type: 1, Machine: 62, Shoff: 64, Shnum: 2, Shstr: n},
				{Type: 1, Machine: 62, Shoff: uint64(n), Shnum: 2, Shstr: 1},
			} {
				wantMay(t, h, size)
			}
		}
		for _, at := range places() {
			for _, count := range []int{2, 3, 32, 63, 64} {
				wantMay(t, elfhead.Head{Type: 1, Machine: 183, Shoff: at, Shnum: count, Shstr: 1}, size)
			}
		}
	}
}

// wantMay looks that a header is taken just if it may be.
func wantMay(t *testing.T, h elfhead.Head, size int) {
	t.Helper()
	if may(h, size) {
		wantTake(t, "may be", file(h, size), h, api.OK)
	} else {
		wantNone(t, "may not be", file(h, size), api.ErrHead)
	}
}

// A header's numbers are held in the lowest bytes first, each in its own place.
func TestTakeOfEachByte(t *testing.T) {
	h := elfhead.Head{Type: 2, Machine: 183, Shoff: 0x0128, Shnum: 33, Shstr: 17}
	b := file(h, 8000)
	for at := 16; at < 64; at++ {
		for v := range 256 {
			held := b[at]
			b[at] = byte(v)
			want := elfhead.Head{
				Type:    int(b[16]) + 256*int(b[17]),
				Machine: int(b[18]) + 256*int(b[19]),
				Shoff:   binary.LittleEndian.Uint64(b[40:]),
				Shnum:   int(b[60]) + 256*int(b[61]),
				Shstr:   int(b[62]) + 256*int(b[63]),
			}
			fast := binary.LittleEndian.Uint32(b[20:]) == 1 && bytes.Equal(b[52:54], []byte{64, 0}) && bytes.Equal(b[56:60], []byte{0, 0, 64, 0})
			if fast && may(want, len(b)) {
				wantTake(t, "another byte", b, want, api.OK)
			} else {
				wantNone(t, "another byte", b, api.ErrHead)
			}
			b[at] = held
		}
	}
}

func TestTakeCountsWhatIsBehind(t *testing.T) {
	b := file(plain, 400)
	for at := 64; at < len(b); at++ {
		b[at] ^= 255
		wantTake(t, "another byte behind it", b, plain, api.OK)
	}
	wantTake(t, "zero behind it", append(whole(plain), make([]byte, 128)...), plain, api.OK)
	wantTake(t, "two headers", append(whole(plain), file(plain, 128)...), plain, api.OK)
}

func TestTakeOfAnything(t *testing.T) {
	chance := rand.New(rand.NewSource(6))
	for range 20000 {
		b := make([]byte, chance.Intn(300))
		chance.Read(b)
		copy(b, whole(plain)[:chance.Intn(65)])
		h, e := elfhead.Take(b)
		if e == api.OK != (h != elfhead.Head{}) {
			t.Errorf("Take(%x) = %+v, %d", b, h, e)
		}
		switch e {
		case api.OK:
			if !may(h, len(b)) {
				t.Errorf("Take(%x) = %+v", b, h)
			}
		case api.ErrMagic:
			if len(b) >= 64 && bytes.HasPrefix(b, []byte{127, 69, 76, 70, 2, 1, 1}) {
				t.Errorf("Take(%x) = %d", b, e)
			}
		case api.ErrHead:
			if len(b) < 64 || !bytes.HasPrefix(b, []byte{127, 69, 76, 70, 2, 1, 1}) {
				t.Errorf("Take(%x) = %d", b, e)
			}
		default:
			t.Errorf("Take(%x) = %d", b, e)
		}
	}
}

// P6.2

func TestPut(t *testing.T) {
	wantPut(t, elfhead.Head{Type: 0x0201, Machine: 0x0403, Shoff: 0x0c0b0a0908070605, Shnum: 0x0e0d, Shstr: 0x100f}, []byte{
		127, 69, 76, 70, 2, 1, 1, 0, 0, 0, 0, 0, 0, 0, 0, 0,
		0x01, 0x02, 0x03, 0x04, 1, 0, 0, 0,
		0, 0, 0, 0, 0, 0, 0, 0,
		0, 0, 0, 0, 0, 0, 0, 0,
		0x05, 0x06, 0x07, 0x08, 0x09, 0x0a, 0x0b, 0x0c,
		0, 0, 0, 0, 64, 0, 0, 0, 0, 0, 64, 0,
		0x0d, 0x0e, 0x0f, 0x10,
	})
	wantPut(t, plain, whole(plain))
	wantPut(t, elfhead.Head{}, whole(elfhead.Head{}))
}

// Of numbers beyond their bytes the lowest bytes are put, whatever may be.
func TestPutOfNumbersBeyondTheirBytes(t *testing.T) {
	for _, n := range append(odd(), 65535, 65536, 65537, 1<<16|62, -65535, -65536) {
		for _, h := range []elfhead.Head{
			{Type: n, Machine: 62, Shoff: 64, Shnum: 2, Shstr: 1},
			{Type: 1, Machine: n, Shoff: 64, Shnum: 2, Shstr: 1},
			{Type: 1, Machine: 62, Shoff: 64, Shnum: n, Shstr: 1},
			{Type: 1, Machine: 62, Shoff: 64, Shnum: 2, Shstr: n},
			{Type: 1, Machine: 62, Shoff: uint64(n), Shnum: 2, Shstr: 1},
			{Type: n, Machine: n, Shoff: uint64(n), Shnum: n, Shstr: n},
		} {
			wantPut(t, h, whole(h))
		}
	}
	for _, at := range places() {
		h := plain
		h.Shoff = at
		wantPut(t, h, whole(h))
	}
	minus := elfhead.Put(elfhead.Head{Type: -1, Machine: -2, Shoff: top, Shnum: -256, Shstr: math.MinInt})
	if !bytes.Equal(minus[16:20], []byte{255, 255, 254, 255}) || !bytes.Equal(minus[60:], []byte{0, 255, 0, 0}) {
		t.Errorf("Put of numbers below 0 = %x", minus)
	}
}

func TestPutIsNewMemory(t *testing.T) {
	a, b := elfhead.Put(plain), elfhead.Put(plain)
	for i := range a {
		a[i] ^= 255
	}
	_ = append(a, 1, 2, 3)
	wantPut(t, plain, whole(plain))
	if !bytes.Equal(b, whole(plain)) {
		t.Errorf("another answer is now %x", b)
	}
	wantTake(t, "what was put", append(b, make([]byte, 128)...), plain, api.OK)
}

func TestExample1(t *testing.T) {
	b := elfhead.Put(plain)
	if !bytes.HasPrefix(b, []byte{0x7f, 0x45, 0x4c, 0x46, 0x02, 0x01, 0x01}) {
		t.Errorf("Put = %x", b)
	}
	wantTake(t, "with 128 bytes behind it", append(b, make([]byte, 128)...), plain, api.OK)
}

// P6.3

// each calls f with headers that may be, of each type, machine and count.
func each(f func(h elfhead.Head)) {
	for _, kind := range []int{1, 2} {
		for _, machine := range []int{api.X86, api.Arm} {
			for count := 2; count <= api.MaxSections; count++ {
				for _, names := range []int{1, count / 2, count - 1} {
					for _, at := range []uint64{0, 64, 72, 1000} {
						f(elfhead.Head{Type: kind, Machine: machine, Shoff: at, Shnum: count, Shstr: names})
					}
				}
			}
		}
	}
}

func TestWhatIsPutIsTaken(t *testing.T) {
	each(func(h elfhead.Head) {
		for _, more := range []int{0, 1, 300} {
			size := int(h.Shoff) + 64*h.Shnum + more
			wantRight(t, h, size, true)
			b := append(elfhead.Put(h), file(h, size)[64:]...)
			wantTake(t, "what was put", b, h, api.OK)
		}
	})
}

func TestWhatIsTakenIsPut(t *testing.T) {
	each(func(h elfhead.Head) {
		b := file(h, 6000)
		got, e := elfhead.Take(b)
		if back := elfhead.Put(got); !bytes.Equal(back, b[:64]) || e != api.OK {
			t.Errorf("Put of what Take tells of %x = %x, %d", b[:64], back, e)
		}
	})
}

func TestWhatIsNotLookedAtChangesNothing(t *testing.T) {
	for at := range 64 {
		if looked(at) {
			continue
		}
		for v := range 256 {
			b := file(plain, 192)
			b[at] = byte(v)
			wantTake(t, "a byte that is not looked at", b, plain, api.OK)
			wantNone(t, "the same of too short a file", b[:191], api.ErrHead)
			b[20] = 0
			wantNone(t, "the same of another version", b, api.ErrHead)
			b[0] = 0
			wantNone(t, "the same of another magic", b, api.ErrMagic)
		}
	}
	each(func(h elfhead.Head) {
		b := file(h, 6000)
		for at := range 64 {
			if !looked(at) {
				b[at] = byte(255 - at)
			}
		}
		wantTake(t, "all bytes that are not looked at", b, h, api.OK)
	})
}

// The bytes that are looked at are all but those that the chapter names.
func TestWhatIsLookedAtChangesSomething(t *testing.T) {
	h := elfhead.Head{Type: 1, Machine: 62, Shoff: 0x0100, Shnum: 4, Shstr: 3}
	for at := range 64 {
		b := file(h, 512)
		b[at] ^= 255
		got, e := elfhead.Take(b)
		if changed := got != h || e != api.OK; changed != looked(at) {
			t.Errorf("byte %d: Take = %+v, %d", at, got, e)
		}
	}
}
