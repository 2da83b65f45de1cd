package cstr_test

import (
	"bytes"
	"math"
	"slices"
	"strings"
	"testing"

	"sindri/api"
	"sindri/cstr"
	"sindri/cursor"
)

// letters makes a text of so many bytes that are not alike.
func letters(n int) string {
	b := make([]byte, n)
	for i := range b {
		b[i] = byte('a' + i%26)
	}
	return string(b)
}

// anyBytes is a text of all bytes but 0, which is too long by no means but its size.
func anyBytes() string {
	b := make([]byte, 255)
	for i := range b {
		b[i] = byte(i + 1)
	}
	return string(b)
}

func wantCursor(t *testing.T, what string, c *cursor.Cursor, at, left int, e api.Errno) {
	t.Helper()
	if c.At() != at || c.Left() != left || c.Err() != e {
		t.Errorf("%s: cursor at %d, left %d, error %d; want %d, %d, %d", what, c.At(), c.Left(), c.Err(), at, left, e)
	}
}

func wantText(t *testing.T, what, got, want string) {
	t.Helper()
	if got != want {
		t.Errorf("%s = %q, want %q", what, got, want)
	}
}

// P3.1

func TestRight(t *testing.T) {
	for _, x := range []struct {
		s    string
		want bool
	}{
		{"", true}, {"a", true}, {"main", true}, {"a b\n\t/\\\"", true},
		{letters(199), true}, {letters(200), true}, {letters(201), false}, {letters(202), false}, {letters(70000), false},
		{anyBytes()[:200], true}, {anyBytes()[55:], true}, {anyBytes(), false},
		{strings.Repeat("\xff", 200), true}, {strings.Repeat("\xff", 201), false},
		{strings.Repeat("é", 100), true}, {strings.Repeat("é", 101), false}, // bytes count, not letters
		{strings.Repeat("€", 66), true}, {strings.Repeat("€", 67), false},
		{"\x00", false}, {"\x00a", false}, {"a\x00", false}, {"a\x00b", false}, {"\x00\x00", false},
		{letters(199) + "\x00", false}, {"\x00" + letters(199), false}, {letters(200) + "\x00", false}, {letters(100) + "\x00" + letters(99), false},
		{"0", true}, {"\x01", true},
	} {
		if got := cstr.Right(x.s); got != x.want {
			t.Errorf("Right(%q) = %v, want %v", x.s, got, x.want)
		}
	}
}

// P3.2

func TestTake(t *testing.T) {
	for _, x := range []struct {
		b, want string
	}{
		{"ab\x00", "ab"}, {"ab\x00c\x00", "ab"}, {"ab\x00c", "ab"}, {"\x00", ""}, {"\x00ab", ""}, {"\x00\x00\x00", ""},
		{letters(199) + "\x00", letters(199)},
		{letters(200) + "\x00", letters(200)},
		{letters(200) + "\x00" + letters(300), letters(200)},
		{anyBytes()[:128] + "\x00", anyBytes()[:128]}, {anyBytes()[127:] + "\x00x", anyBytes()[127:]},
		{"\xff\xfe\x00\xff", "\xff\xfe"},
	} {
		for _, ahead := range []int{0, 1, 300} {
			c := cursor.New([]byte(strings.Repeat("\x00", ahead) + x.b))
			c.Seek(uint64(ahead))
			wantText(t, "Take", cstr.Take(c), x.want)
			size := len(x.want) + 1
			wantCursor(t, "behind the text", c, ahead+size, len(x.b)-size, api.OK)
		}
	}
}

func TestTakeOneBehindTheOther(t *testing.T) {
	c := cursor.New([]byte("ab\x00\x00c\x00de"))
	for _, x := range []struct {
		text string
		at   int
	}{{"ab", 3}, {"", 4}, {"c", 6}} {
		wantText(t, "Take", cstr.Take(c), x.text)
		wantCursor(t, "Take", c, x.at, 8-x.at, api.OK)
	}
	wantText(t, "Take of the last one", cstr.Take(c), "")
	wantCursor(t, "Take of the last one", c, 6, 0, api.ErrText)
	wantText(t, "Take afterwards", cstr.Take(c), "")
	wantCursor(t, "Take afterwards", c, 6, 0, api.ErrText)
}

func TestTakeRefuses(t *testing.T) {
	for _, x := range []struct {
		b    string
		want api.Errno
	}{
		{"", api.ErrText}, {"a", api.ErrText}, {letters(199), api.ErrText}, {letters(200), api.ErrText},
		{letters(201), api.ErrText}, {letters(202), api.ErrText}, {letters(70000), api.ErrText},
		{letters(201) + "\x00", api.ErrBig}, {letters(202) + "\x00", api.ErrBig}, {letters(201) + "\x00a\x00", api.ErrBig},
		{letters(201) + "\x00a", api.ErrBig}, {letters(70000) + "\x00", api.ErrBig}, {strings.Repeat("é", 101) + "\x00", api.ErrBig},
	} {
		for _, ahead := range []int{0, 1, 3, 250} {
			c := cursor.New([]byte(strings.Repeat("\x00", ahead) + x.b))
			c.Seek(uint64(ahead))
			wantText(t, "Take", cstr.Take(c), "")
			wantCursor(t, "Take refuses", c, ahead, 0, x.want)

			// The first refusal is kept, and nothing is told any more.
			wantText(t, "Take again", cstr.Take(c), "")
			c.Fail(api.ErrForm)
			c.Seek(0)
			if n := c.U8(); n != 0 {
				t.Errorf("U8 = %d", n)
			}
			wantCursor(t, "Take refused", c, ahead, 0, x.want)
		}
	}
}

func TestTakeOfAPart(t *testing.T) {
	c := cursor.New([]byte("abc\x00d\x00"))
	s := c.Sub(3)
	wantText(t, "Take of a part without its end", cstr.Take(s), "")
	wantCursor(t, "the part", s, 0, 0, api.ErrText)
	wantCursor(t, "what the part is of", c, 3, 3, api.OK)
	wantText(t, "Take of the rest", cstr.Take(c), "")
	wantText(t, "Take of the rest", cstr.Take(c), "d")
	wantCursor(t, "the rest", c, 6, 0, api.OK)
}

func TestTakeOfRefusedCursors(t *testing.T) {
	for _, e := range []api.Errno{api.ErrNil, api.ErrArg, api.ErrBig, api.ErrShort, api.ErrText, api.ErrForm, -1} {
		c := cursor.New([]byte("a\x00bc\x00"))
		c.U16()
		c.Fail(e)
		wantText(t, "Take of one that has refused", cstr.Take(c), "")
		wantCursor(t, "one that has refused", c, 2, 0, e)
	}
	for _, c := range []*cursor.Cursor{nil, new(cursor.Cursor)} {
		wantText(t, "Take of nobody", cstr.Take(c), "")
		wantCursor(t, "nobody", c, 0, 0, api.ErrNil)
	}
}

// P3.3

func wantAt(t *testing.T, table string, off uint64, want string, e api.Errno) {
	t.Helper()
	b := []byte(table)
	got, err := cstr.At(b, off)
	if got != want || err != e {
		t.Errorf("At(%.20q, %d) = %q, %d, want %q, %d", table, off, got, err, want, e)
	}
	if string(b) != table {
		t.Errorf("At(%.20q, %d) changed the table to %.20q", table, off, b)
	}
}

func TestAt(t *testing.T) {
	const table = "ab\x00\x00cde\x00"
	for off, want := range []string{"ab", "b", "", "", "cde", "de", "e", ""} {
		wantAt(t, table, uint64(off), want, api.OK)
	}
	long := letters(201) + "\x00" + letters(200) + "\x00"
	wantAt(t, long, 0, "", api.ErrBig)
	wantAt(t, long, 1, letters(201)[1:], api.OK)
	wantAt(t, long, 2, letters(201)[2:], api.OK)
	wantAt(t, long, 201, "", api.OK)
	wantAt(t, long, 202, letters(200), api.OK)
	wantAt(t, long, 402, "", api.OK)
}

func TestAtBehindTheTable(t *testing.T) {
	for _, table := range []string{"", "\x00", "ab\x00c\x00", "ab", letters(300), strings.Repeat("a\x00", 1000)} {
		size := uint64(len(table))
		for _, off := range []uint64{size, size + 1, size + 200, 1 << 31, 1 << 32, 1<<32 + 1, 1<<63 - 1, 1 << 63, 1<<63 + 1, math.MaxUint64 - 1, math.MaxUint64} {
			wantAt(t, table, off, "", api.ErrShort)
		}
	}
	wantAt(t, "ab\x00c\x00", 4, "", api.OK)
	if s, e := cstr.At(nil, 0); s != "" || e != api.ErrShort {
		t.Errorf("At(nil, 0) = %q, %d", s, e)
	}
}

func TestAtRefusesWhatTakeRefuses(t *testing.T) {
	wantAt(t, "a", 0, "", api.ErrText)
	wantAt(t, "ab\x00c", 0, "ab", api.OK)
	wantAt(t, "ab\x00c", 3, "", api.ErrText)
	wantAt(t, "ab\x00"+letters(200), 3, "", api.ErrText)
	wantAt(t, "ab\x00"+letters(300), 3, "", api.ErrText)
	wantAt(t, "ab\x00"+letters(300), 302, "", api.ErrText)
	wantAt(t, "ab\x00"+letters(201)+"\x00", 3, "", api.ErrBig)
	wantAt(t, "ab\x00"+letters(300)+"\x00x", 3, "", api.ErrBig)
	wantAt(t, "ab\x00"+letters(300)+"\x00x", 102, "", api.ErrBig)
	wantAt(t, "ab\x00"+letters(300)+"\x00x", 103, letters(300)[100:], api.OK)
	wantAt(t, "ab\x00"+letters(300)+"\x00x", 304, "", api.ErrText)
}

func TestAtReadsNothingBehindTheTable(t *testing.T) {
	room := []byte("ab\x00cd\x00")
	if s, e := cstr.At(room[:5], 3); s != "" || e != api.ErrText {
		t.Errorf("At = %q, %d", s, e)
	}
	if s, e := cstr.At(room[:3], 3); s != "" || e != api.ErrShort {
		t.Errorf("At = %q, %d", s, e)
	}
	if l, e := cstr.All(room[:5]); len(l) != 0 || e != api.ErrText {
		t.Errorf("All = %q, %d", l, e)
	}
	if l, e := cstr.All(room[:3]); !slices.Equal(l, []string{"ab"}) || e != api.OK {
		t.Errorf("All = %q, %d", l, e)
	}
}

// P3.4

func TestPut(t *testing.T) {
	for _, x := range []struct{ s, want string }{
		{"", "\x00"}, {"a", "a\x00"}, {"ab", "ab\x00"}, {"\xff\xfe", "\xff\xfe\x00"}, {anyBytes(), anyBytes() + "\x00"},
		{"\x00", "\x00"}, {"\x00ab", "\x00"}, {"ab\x00", "ab\x00"}, {"ab\x00cd", "ab\x00"}, {"ab\x00cd\x00ef", "ab\x00"}, {"ab\x00\x00", "ab\x00"},
		{letters(200), letters(200) + "\x00"}, {letters(201), letters(201) + "\x00"}, {letters(70000), letters(70000) + "\x00"},
		{letters(300) + "\x00x", letters(300) + "\x00"},
	} {
		for _, ahead := range []string{"", "x", "\x00", "x\x00y"} {
			wantText(t, "Put", string(cstr.Put([]byte(ahead), x.s)), ahead+x.want)
		}
		wantText(t, "Put behind nil", string(cstr.Put(nil, x.s)), x.want)
	}
}

func TestPutLeavesWhatIsThere(t *testing.T) {
	room := []byte("123456")
	if got := cstr.Put(room[1:3], "a"); string(got) != "23a\x00" {
		t.Errorf("Put = %q", got)
	}
	if string(room[:3]) != "123" || room[5] != '6' {
		t.Errorf("what was handed in is now %q", room)
	}
}

func TestAll(t *testing.T) {
	for _, x := range []struct {
		table string
		want  []string
	}{
		{"", nil}, {"\x00", []string{""}}, {"\x00\x00", []string{"", ""}}, {"a\x00", []string{"a"}},
		{"ab\x00c\x00", []string{"ab", "c"}}, {"\x00ab\x00", []string{"", "ab"}}, {"ab\x00\x00", []string{"ab", ""}},
		{"a\x00a\x00\x00a\x00", []string{"a", "a", "", "a"}},
		{letters(200) + "\x00" + letters(200) + "\x00", []string{letters(200), letters(200)}},
		{strings.Repeat("\x00", 3000), make([]string, 3000)},
	} {
		b := []byte(x.table)
		got, e := cstr.All(b)
		if !slices.Equal(got, x.want) || e != api.OK {
			t.Errorf("All(%.20q) = %.100q, %d", x.table, got, e)
		}
		if string(b) != x.table {
			t.Errorf("All(%.20q) changed the table to %.20q", x.table, b)
		}
	}
	if l, e := cstr.All(nil); len(l) != 0 || e != api.OK {
		t.Errorf("All(nil) = %q, %d", l, e)
	}
}

func TestAllRefuses(t *testing.T) {
	for _, x := range []struct {
		table string
		want  api.Errno
	}{
		{"a", api.ErrText}, {"ab\x00c", api.ErrText}, {"\x00\x00c", api.ErrText}, {"ab\x00" + letters(200), api.ErrText},
		{"ab\x00" + letters(201), api.ErrText}, {letters(400), api.ErrText},
		{letters(201) + "\x00", api.ErrBig}, {"ab\x00" + letters(201) + "\x00", api.ErrBig}, {"ab\x00" + letters(201) + "\x00c\x00", api.ErrBig},
		{letters(201) + "\x00c", api.ErrBig}, // the first text's refusal, not the last one's
		{letters(200) + "\x00c", api.ErrText},
	} {
		if l, e := cstr.All([]byte(x.table)); len(l) != 0 || e != x.want {
			t.Errorf("All(%.20q) = %.100q, %d, want %d", x.table, l, e, x.want)
		}
	}
}

func TestExample1(t *testing.T) {
	table := []byte("ab\x00c\x00")
	if s, e := cstr.At(table, 1); s != "b" || e != api.OK {
		t.Errorf("At = %q, %d", s, e)
	}
	if l, e := cstr.All(table); !slices.Equal(l, []string{"ab", "c"}) || e != api.OK {
		t.Errorf("All = %q, %d", l, e)
	}
}

// P3.5

// chance tells numbers of all kinds by a short rule.
type chance uint64

func (r *chance) next(below int) int {
	*r = *r*6364136223846793005 + 1442695040888963407
	return int(uint64(*r) >> 33 % uint64(below))
}

// text tells one that may be.
func (r *chance) text() string {
	sizes := []int{0, 1, 2, 3, r.next(30), r.next(201), 199, 200}
	b := make([]byte, sizes[r.next(len(sizes))])
	for i := range b {
		b[i] = byte(1 + r.next(255))
	}
	return string(b)
}

func TestWhatIsPutIsTaken(t *testing.T) {
	r := chance(1)
	for range 2000 {
		s := r.text()
		if !cstr.Right(s) {
			t.Fatalf("Right(%q) = false", s)
		}
		for _, after := range []string{"", "\x00", "a", "a\x00", letters(300), letters(300) + "\x00"} {
			for _, ahead := range []string{"", "x", "x\x00"} {
				c := cursor.New(append(cstr.Put([]byte(ahead), s), after...))
				c.Bytes(uint64(len(ahead)))
				wantText(t, "what was put", cstr.Take(c), s)
				wantCursor(t, "what was put", c, len(ahead)+len(s)+1, len(after), api.OK)
				if rest := c.Bytes(uint64(len(after))); string(rest) != after {
					t.Errorf("behind it %.20q, want %.20q", rest, after)
				}
			}
		}
	}
}

func TestAllOfWhatWasPut(t *testing.T) {
	r := chance(2)
	for count := range 200 {
		var table []byte
		var texts []string
		var places []uint64
		sum := 0
		for i := range count {
			s := r.text()
			texts = append(texts, s)
			places = append(places, uint64(sum+i))
			sum += len(s)
			table = cstr.Put(table, s)
		}
		was := bytes.Clone(table)
		got, e := cstr.All(table)
		if !slices.Equal(got, texts) || e != api.OK {
			t.Fatalf("All of %d texts = %.100q, %d", count, got, e)
		}
		for i, s := range texts {
			wantAt(t, string(table), places[i], s, api.OK)
		}
		wantAt(t, string(table), uint64(sum+count), "", api.ErrShort)
		if !bytes.Equal(table, was) {
			t.Fatalf("the table of %d texts was changed", count)
		}
	}
}
