package pool_test

import (
	"bytes"
	"runtime"
	"slices"
	"strconv"
	"strings"
	"testing"

	"sindri/api"
	"sindri/cstr"
	"sindri/pool"
)

// letters makes a text of so many bytes that are not alike.
func letters(n int) string {
	b := make([]byte, n)
	for i := range b {
		b[i] = byte('a' + i%26)
	}
	return string(b)
}

// numbered makes a text of size bytes that no other number makes.
func numbered(i, size int) string {
	s := strconv.Itoa(i) + "."
	return s + letters(size-len(s))
}

func wantAdd(t *testing.T, p *pool.Pool, s string, at uint64, e api.Errno) {
	t.Helper()
	if got, err := p.Add(s); got != at || err != e {
		t.Errorf("Add(%.20q) = %d, %d, want %d, %d", s, got, err, at, e)
	}
}

func wantFind(t *testing.T, p *pool.Pool, s string, at uint64, ok bool) {
	t.Helper()
	if got, found := p.Find(s); got != at || found != ok {
		t.Errorf("Find(%.20q) = %d, %v, want %d, %v", s, got, found, at, ok)
	}
}

// wantTexts looks at all that a pool tells: it has just these texts, in order.
func wantTexts(t *testing.T, p *pool.Pool, texts ...string) {
	t.Helper()
	var table []byte
	for _, s := range texts {
		wantFind(t, p, s, uint64(len(table)), true)
		table = append(append(table, s...), 0)
	}
	if got := p.Bytes(); !bytes.Equal(got, table) {
		t.Errorf("Bytes = %d bytes %.60q, want %d bytes %.60q", len(got), got, len(table), table)
	}
	if got := p.Count(); got != len(texts) {
		t.Errorf("Count = %d, want %d", got, len(texts))
	}
}

// filled makes a pool whose table has so many bytes, and tells its texts.
func filled(t *testing.T, size int) (*pool.Pool, []string) {
	t.Helper()
	p := pool.New()
	var texts []string
	for at := 0; at < size; {
		whole := min(size-at, api.MaxText+1)
		if rest := size - at - whole; rest > 0 && rest < 10 { // too few for a number
			whole -= 10
		}
		s := numbered(len(texts), whole-1)
		wantAdd(t, p, s, uint64(at), api.OK)
		texts = append(texts, s)
		at += whole
	}
	return p, texts
}

// P4.1

func TestNewHasNoText(t *testing.T) {
	p := pool.New()
	if p == nil {
		t.Fatal("New = nil")
	}
	wantTexts(t, p)
	wantFind(t, p, "", 0, false)
	wantFind(t, p, "a", 0, false)
}

func TestNewMakesPoolsOfTheirOwn(t *testing.T) {
	p, q := pool.New(), pool.New()
	wantAdd(t, p, "a", 0, api.OK)
	wantAdd(t, p, "b", 2, api.OK)
	wantTexts(t, q)
	wantAdd(t, q, "b", 0, api.OK)
	wantTexts(t, p, "a", "b")
	wantTexts(t, q, "b")
	wantFind(t, q, "a", 0, false)
	wantTexts(t, pool.New())
}

func TestAddPutsBehindAllOthers(t *testing.T) {
	p := pool.New()
	wantAdd(t, p, "main", 0, api.OK)
	wantTexts(t, p, "main")
	wantAdd(t, p, "b", 5, api.OK)
	wantTexts(t, p, "main", "b")
	wantAdd(t, p, "a", 7, api.OK) // in the order of adding, not of the texts
	wantTexts(t, p, "main", "b", "a")
	wantAdd(t, p, "\xff\xfe\x01", 9, api.OK)
	wantTexts(t, p, "main", "b", "a", "\xff\xfe\x01")
}

func TestAddOfTheEmptyText(t *testing.T) {
	p := pool.New()
	wantAdd(t, p, "", 0, api.OK)
	wantTexts(t, p, "")
	wantAdd(t, p, "a", 1, api.OK)
	wantAdd(t, p, "", 0, api.OK)
	wantTexts(t, p, "", "a")

	q := pool.New()
	wantAdd(t, q, "ab", 0, api.OK)
	wantFind(t, q, "", 0, false) // it stands there as ab's end, but was not added
	wantAdd(t, q, "", 3, api.OK)
	wantAdd(t, q, "c", 4, api.OK)
	wantAdd(t, q, "", 3, api.OK)
	wantTexts(t, q, "ab", "", "c")
}

func TestAddAgain(t *testing.T) {
	p := pool.New()
	wantAdd(t, p, "ab", 0, api.OK)
	wantAdd(t, p, "ab", 0, api.OK)
	wantTexts(t, p, "ab")
	wantAdd(t, p, "c", 3, api.OK)
	wantAdd(t, p, "c", 3, api.OK)
	wantAdd(t, p, "ab", 0, api.OK)
	wantTexts(t, p, "ab", "c")
	wantAdd(t, p, "d", 5, api.OK)
	wantTexts(t, p, "ab", "c", "d")
}

func TestAddAgainMuchLater(t *testing.T) {
	p, texts := filled(t, 60000)
	for range 2 {
		for i, s := range texts {
			wantAdd(t, p, s, uint64(i*(api.MaxText+1)), api.OK)
		}
	}
	wantTexts(t, p, texts...)
	wantAdd(t, p, "new", 60000, api.OK)
	wantAdd(t, p, texts[0], 0, api.OK)
	wantTexts(t, p, append(texts, "new")...)
}

func TestAddOfEndsOfOthers(t *testing.T) {
	p := pool.New()
	wantAdd(t, p, "main", 0, api.OK)
	wantAdd(t, p, "ain", 5, api.OK)
	wantAdd(t, p, "n", 9, api.OK)
	wantAdd(t, p, "m", 11, api.OK)
	wantAdd(t, p, "mai", 13, api.OK)
	wantAdd(t, p, "xmain", 17, api.OK)
	wantAdd(t, p, "Main", 23, api.OK)
	wantAdd(t, p, "main ", 28, api.OK)
	wantTexts(t, p, "main", "ain", "n", "m", "mai", "xmain", "Main", "main ")
}

func TestAddOfLongTexts(t *testing.T) {
	p := pool.New()
	wantAdd(t, p, letters(199), 0, api.OK)
	wantAdd(t, p, letters(200), 200, api.OK)
	wantAdd(t, p, letters(201), 0, api.ErrText)
	wantAdd(t, p, letters(202), 0, api.ErrText)
	wantAdd(t, p, letters(70000), 0, api.ErrText) // too great for the table too
	wantAdd(t, p, strings.Repeat("é", 100), 401, api.OK)
	wantAdd(t, p, strings.Repeat("é", 101), 0, api.ErrText) // bytes count, not letters
	wantAdd(t, p, "a", 602, api.OK)
	wantTexts(t, p, letters(199), letters(200), strings.Repeat("é", 100), "a")
	wantFind(t, p, letters(201), 0, false)
}

func TestAddOfTextsWithAByte0(t *testing.T) {
	p := pool.New()
	wantAdd(t, p, "a", 0, api.OK)
	for _, s := range []string{"\x00", "a\x00", "\x00a", "a\x00b", "a\x00a\x00", letters(199) + "\x00", letters(200) + "\x00"} {
		wantAdd(t, p, s, 0, api.ErrText)
		wantFind(t, p, s, 0, false)
		wantTexts(t, p, "a")
	}
	wantFind(t, p, "", 0, false)
	wantAdd(t, p, "b", 2, api.OK)
	wantTexts(t, p, "a", "b")
}

// The edge of a table is met by a text of each size, from the empty one on.
func TestAddToTheLastByte(t *testing.T) {
	for _, size := range []int{0, 1, 2, 7, 9, 199, 200} {
		p, texts := filled(t, api.MaxBytes-size-1)
		last := strings.Repeat("~", size)
		wantAdd(t, p, last, uint64(api.MaxBytes-size-1), api.OK)
		texts = append(texts, last)
		wantTexts(t, p, texts...)
		if n := len(p.Bytes()); n != api.MaxBytes {
			t.Errorf("the full table has %d bytes", n)
		}
		wantFullPool(t, p, texts)
	}
}

// wantFullPool looks that a pool takes what it has, and nothing new.
func wantFullPool(t *testing.T, p *pool.Pool, texts []string) {
	t.Helper()
	for _, s := range []string{"", "!", "!!", strings.Repeat("!", 200)} {
		if slices.Contains(texts, s) {
			continue
		}
		wantAdd(t, p, s, 0, api.ErrBig)
		wantFind(t, p, s, 0, false)
	}
	wantAdd(t, p, letters(201), 0, api.ErrText) // ErrText is named first
	wantAdd(t, p, "!\x00", 0, api.ErrText)
	wantAdd(t, p, texts[0], 0, api.OK)
	wantAdd(t, p, texts[1], 201, api.OK)
	last := len(texts) - 1
	wantAdd(t, p, texts[last], uint64(api.MaxBytes-len(texts[last])-1), api.OK)
	wantTexts(t, p, texts...)
}

func TestAddOneByteTooMany(t *testing.T) {
	for _, size := range []int{1, 2, 7, 9, 199, 200} {
		p, texts := filled(t, api.MaxBytes-size)
		long := strings.Repeat("~", size)
		for range 2 {
			wantAdd(t, p, long, 0, api.ErrBig)
			wantFind(t, p, long, 0, false)
			wantTexts(t, p, texts...)
		}
		// What is refused takes no room: one byte less still fits.
		wantAdd(t, p, long[1:], uint64(api.MaxBytes-size), api.OK)
		wantTexts(t, p, append(texts, long[1:])...)
		wantAdd(t, p, long, 0, api.ErrBig)
	}
}

func TestAddRefusedChangesNothing(t *testing.T) {
	p := pool.New()
	for _, s := range []string{letters(201), "\x00", "ab\x00"} {
		wantAdd(t, p, s, 0, api.ErrText)
		wantTexts(t, p)
	}
	wantAdd(t, p, "ab", 0, api.OK)
	for _, s := range []string{letters(201), "\x00", "ab\x00", "ab\x00c"} {
		wantAdd(t, p, s, 0, api.ErrText)
		wantFind(t, p, s, 0, false)
		wantTexts(t, p, "ab")
	}
	wantAdd(t, p, "c", 3, api.OK)
	wantTexts(t, p, "ab", "c")
}

// Nothing of what is handed in is kept: else the great texts stayed here.
func TestAddKeepsNoMoreThanTheText(t *testing.T) {
	const rounds, size = 40, 1 << 20
	p := pool.New()
	held := heap()
	for i := range rounds {
		great := strings.Repeat(strconv.Itoa(i)+"-", size)
		if _, e := p.Add(great[:20]); e != api.OK {
			t.Fatalf("Add = %d", e)
		}
	}
	if grown := heap() - held; grown > rounds*size/4 {
		t.Errorf("%d texts of 20 bytes keep %d bytes", p.Count(), grown)
	}
}

// heap tells how many bytes are in use.
func heap() int64 {
	var m runtime.MemStats
	runtime.GC()
	runtime.ReadMemStats(&m)
	return int64(m.HeapAlloc)
}

// P4.2

func TestFind(t *testing.T) {
	p := pool.New()
	for _, s := range []string{"main", "", "ab", "b"} {
		wantFind(t, p, s, 0, false)
		wantFind(t, p, s, 0, false) // asking adds nothing
	}
	wantTexts(t, p)
	p.Add("main")
	p.Add("ab")
	wantFind(t, p, "main", 0, true)
	wantFind(t, p, "ab", 5, true)
	for _, s := range []string{"", "b", "a", "ain", "n", "mai", "main\x00", "main\x00ab", "ab\x00", "\x00", "Main", letters(200), letters(201)} {
		wantFind(t, p, s, 0, false)
	}
	wantTexts(t, p, "main", "ab")
	p.Add("b")
	wantFind(t, p, "b", 8, true)
}

func TestBytesAreNewMemory(t *testing.T) {
	p := pool.New()
	p.Add("ab")
	p.Add("c")
	b, other := p.Bytes(), p.Bytes()
	b[0], b[2], b[4] = 'x', 'y', 'z'
	room := b[:cap(b)]
	for i := range room {
		room[i] = '!'
	}
	_ = append(b[:0], "zzzzzzzzzz"...)
	if string(other) != "ab\x00c\x00" {
		t.Errorf("the table handed out beside it is now %q", other)
	}
	wantTexts(t, p, "ab", "c")
	wantAdd(t, p, "d", 5, api.OK)
	wantAdd(t, p, "x", 7, api.OK)
	wantTexts(t, p, "ab", "c", "d", "x")
	if string(other) != "ab\x00c\x00" {
		t.Errorf("a later Add made of what was handed out %q", other)
	}
	for i := range room {
		if room[i] != '!' && room[i] != 'z' {
			t.Errorf("a later Add wrote into what was handed out: %q", room)
		}
	}
}

// A table that was handed out shares no spare room with the pool, whatever room
// the pool has behind its own.
func TestBytesShareNoSpareRoom(t *testing.T) {
	p := pool.New()
	var texts []string
	for i := range 100 {
		s := numbered(i, 5+i%7)
		b := p.Bytes()
		wantAdd(t, p, s, uint64(len(b)), api.OK)
		texts = append(texts, s)
		room := b[:cap(b)]
		for j := range room {
			room[j] = '!'
		}
		_ = append(b, "????????????"...)
		wantTexts(t, p, texts...)
	}
}

func TestCount(t *testing.T) {
	p := pool.New()
	for i := range 300 {
		if n := p.Count(); n != i {
			t.Fatalf("Count = %d, want %d", n, i)
		}
		p.Add(numbered(i, 10))
		p.Add(numbered(i/2, 10))
		p.Add("\x00")
	}
}

func TestNobody(t *testing.T) {
	var none *pool.Pool
	var zero pool.Pool
	for _, p := range []*pool.Pool{none, &zero, new(pool.Pool)} {
		for range 2 {
			for _, s := range []string{"", "ab", letters(200), letters(201), "a\x00", letters(70000)} {
				wantAdd(t, p, s, 0, api.ErrNil) // ErrNil is named first
				wantFind(t, p, s, 0, false)
			}
			if b := p.Bytes(); len(b) != 0 {
				t.Errorf("Bytes of nobody = %q", b)
			}
			if n := p.Count(); n != 0 {
				t.Errorf("Count of nobody = %d", n)
			}
		}
	}
}

// P4.3

func TestOnce(t *testing.T) {
	for _, x := range []struct {
		table string
		want  bool
	}{
		{"", true}, {"\x00", true}, {"a\x00", true}, {"ab\x00c\x00", true}, {"\x00a\x00", true}, {"a\x00\x00", true},
		{"\x00\x00", false}, {"a\x00a\x00", false}, {"a\x00\x00b\x00\x00", false}, {"a\x00b\x00a\x00", false}, {"b\x00a\x00a\x00", false},
		{"a\x00a\x00b\x00", false}, {"a\x00a\x00a\x00", false}, {"\x00a\x00b\x00\x00", false},
		{"ab\x00b\x00", true}, {"b\x00ab\x00", true}, {"a\x00ab\x00", true}, {"aa\x00a\x00", true}, // ends and beginnings are others
		{"a\x00A\x00a \x00", true}, {"ab\x00b\x00ab\x00", false}, {"\xff\x00\xfe\x00", true}, {"\xff\x00\xff\x00", false},
		{letters(200) + "\x00" + letters(199) + "\x00", true}, {letters(200) + "\x00" + letters(200) + "\x00", false},
	} {
		b := []byte(x.table)
		if got, e := pool.Once(b); got != x.want || e != api.OK {
			t.Errorf("Once(%.40q) = %v, %d, want %v", x.table, got, e, x.want)
		}
		if string(b) != x.table {
			t.Errorf("Once(%.40q) changed the table to %.40q", x.table, b)
		}
	}
	if got, e := pool.Once(nil); !got || e != api.OK {
		t.Errorf("Once(nil) = %v, %d", got, e)
	}
}

func TestOnceRefuses(t *testing.T) {
	for _, x := range []struct {
		table string
		want  api.Errno
	}{
		{"a", api.ErrText}, {"ab\x00c", api.ErrText}, {"\x00c", api.ErrText}, {"a\x00a", api.ErrText},
		{"a\x00a\x00b", api.ErrText}, {"\x00\x00b", api.ErrText}, // a text twice, and no end
		{letters(200), api.ErrText}, {letters(201), api.ErrText}, {letters(70000), api.ErrText},
		{letters(201) + "\x00", api.ErrBig}, {"ab\x00" + letters(201) + "\x00c\x00", api.ErrBig},
		{"a\x00a\x00" + letters(201) + "\x00", api.ErrBig}, {letters(201) + "\x00a\x00a\x00", api.ErrBig},
		{letters(201) + "\x00c", api.ErrBig}, {letters(200) + "\x00c", api.ErrText}, // the first refusal
	} {
		if got, e := pool.Once([]byte(x.table)); got || e != x.want {
			t.Errorf("Once(%.40q) = %v, %d, want %d", x.table, got, e, x.want)
		}
	}
}

func TestOnceReadsNothingBehindTheTable(t *testing.T) {
	room := []byte("a\x00b\x00a\x00c")
	for size, want := range map[int]bool{0: true, 2: true, 4: true, 6: false} {
		if got, e := pool.Once(room[:size]); got != want || e != api.OK {
			t.Errorf("Once of %d bytes = %v, %d, want %v", size, got, e, want)
		}
	}
	if got, e := pool.Once(room[:5]); got || e != api.ErrText {
		t.Errorf("Once of 5 bytes = %v, %d", got, e)
	}
}

// A table may have more bytes than one of a pool.
func TestOnceOfGreatTables(t *testing.T) {
	var table []byte
	for i := range 1000 {
		table = cstr.Put(table, numbered(i, 199))
	}
	for _, x := range []struct {
		last string
		want bool
	}{{"new", true}, {numbered(0, 199), false}, {numbered(500, 199), false}, {numbered(999, 199), false}, {numbered(1000, 199), true}} {
		if got, e := pool.Once(cstr.Put(bytes.Clone(table), x.last)); got != x.want || e != api.OK {
			t.Errorf("Once with %.20q = %v, %d, want %v", x.last, got, e, x.want)
		}
	}
	if got, e := pool.Once(append(table, 'x')); got || e != api.ErrText {
		t.Errorf("Once without an end = %v, %d", got, e)
	}
}

func TestExample1(t *testing.T) {
	p := pool.New()
	wantAdd(t, p, "ab", 0, api.OK)
	wantAdd(t, p, "c", 3, api.OK)
	wantAdd(t, p, "ab", 0, api.OK)
	if b := p.Bytes(); string(b) != "ab\x00c\x00" {
		t.Errorf("Bytes = %q", b)
	}
}

// P4.4

// chance tells numbers of all kinds by a short rule.
type chance uint64

func (r *chance) next(below int) int {
	*r = *r*6364136223846793005 + 1442695040888963407
	return int(uint64(*r) >> 33 % uint64(below))
}

// text tells a text of a few letters, or of many, or one that may not be.
func (r *chance) text() string {
	size := r.next(6)
	if r.next(4) == 0 {
		size = r.next(203)
	}
	b := make([]byte, size)
	for i := range b {
		b[i] = byte('a' + r.next(3))
	}
	if size > 0 && r.next(20) == 0 {
		b[r.next(size)] = 0
	}
	return string(b)
}

// told is a text, and the place that an Add told of it.
type told struct {
	text string
	at   uint64
}

// wantTold looks that all places that were told are their texts'.
func wantTold(t *testing.T, p *pool.Pool, places []told) {
	t.Helper()
	table := p.Bytes()
	for _, x := range places {
		if s, e := cstr.At(table, x.at); s != x.text || e != api.OK {
			t.Fatalf("At(%d) = %.20q, %d, want %.20q", x.at, s, e, x.text)
		}
		wantFind(t, p, x.text, x.at, true)
	}
	if once, e := pool.Once(table); !once || e != api.OK {
		t.Fatalf("Once of a pool's table = %v, %d", once, e)
	}
}

func TestPlacesStay(t *testing.T) {
	for seed := range 8 {
		r := chance(seed)
		p := pool.New()
		var places []told
		var texts []string // each once, in the order of adding
		for i := range 1500 {
			s := r.text()
			known := slices.Contains(texts, s)
			size := len(p.Bytes())
			at, e := p.Add(s)
			switch {
			case e == api.ErrText && !cstr.Right(s), e == api.ErrBig && !known && size+len(s)+1 > api.MaxBytes:
				continue
			case e != api.OK:
				t.Fatalf("Add(%.20q) to %d bytes = %d", s, size, e)
			case !known && at != uint64(size):
				t.Fatalf("Add(%.20q) to %d bytes = %d", s, size, at)
			case !known:
				texts = append(texts, s)
			}
			places = append(places, told{s, at})
			if i%250 == 0 {
				wantTold(t, p, places)
			}
		}
		wantTold(t, p, places)
		wantTexts(t, p, texts...)
		if all, e := cstr.All(p.Bytes()); !slices.Equal(all, texts) || e != api.OK {
			t.Errorf("All of the table = %d texts, %d, want %d", len(all), e, len(texts))
		}
	}
}

func TestOrderOfAddingAgainChangesNothing(t *testing.T) {
	var texts []string
	for i := range 200 {
		texts = append(texts, numbered(i*7%200, 4+i%11))
	}
	once := pool.New()
	for _, s := range texts {
		once.Add(s)
	}
	wantTexts(t, once, texts...)
	for seed := range 20 {
		r := chance(100 + seed)
		p := pool.New()
		for i, s := range texts {
			p.Add(s)
			for range r.next(4) {
				again := texts[r.next(i+1)]
				at, _ := once.Find(again)
				wantAdd(t, p, again, at, api.OK)
			}
		}
		for range 400 {
			again := texts[r.next(len(texts))]
			at, _ := once.Find(again)
			wantAdd(t, p, again, at, api.OK)
		}
		wantTexts(t, p, texts...)
	}
}
