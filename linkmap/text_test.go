package linkmap_test

import (
	"bytes"
	"fmt"
	"math"
	"math/rand"
	"reflect"
	"regexp"
	"runtime"
	"strconv"
	"strings"
	"testing"

	"sindri/api"
	"sindri/linkmap"
	"sindri/object"
)

// equal tells whether maps are the same: lists may be nil or empty.
func equal(a, b api.Map) bool {
	return reflect.DeepEqual(append([]api.Place{}, a.Places...), append([]api.Place{}, b.Places...)) &&
		reflect.DeepEqual(append([]api.Named{}, a.Syms...), append([]api.Named{}, b.Syms...))
}

// wantText looks at what Text tells of a map, and that it leaves it.
func wantText(t *testing.T, m api.Map, want string) {
	t.Helper()
	before := given{m: m}.held()
	if got := linkmap.Text(m); string(got) != want {
		t.Errorf("Text of %s = %.200q, want %.200q", show(m), got, want)
	}
	if !reflect.DeepEqual(given{m: m}.held(), before) {
		t.Errorf("Text of %s changed what was handed in", show(m))
	}
}

// wantRead looks at what Read tells of a text, and that it leaves it.
func wantRead(t *testing.T, text string, want api.Map) {
	t.Helper()
	b := []byte(text)
	if got, e := linkmap.Read(b); !equal(got, want) || e != api.OK {
		t.Errorf("Read of %.100q = %s, %d, want %s", text, show(got), e, show(want))
	}
	if string(b) != text {
		t.Errorf("Read of %.100q changed it to %.100q", text, b)
	}
}

// wantUnread looks that Read refuses a text.
func wantUnread(t *testing.T, text string, want api.Errno) {
	t.Helper()
	b := []byte(text)
	if got, e := linkmap.Read(b); got.Places != nil || got.Syms != nil || e != want {
		t.Errorf("Read of %.100q = %s, %d, want nothing, %d", text, show(got), e, want)
	}
	if string(b) != text {
		t.Errorf("Read of %.100q changed it to %.100q", text, b)
	}
}

// wantWrong looks that Read refuses a text, alone and with others around it.
func wantWrong(t *testing.T, text string) {
	t.Helper()
	const others = "place 7 8 9\nsym other a\n"
	wantUnread(t, text, api.ErrMap)
	wantUnread(t, others+text, api.ErrMap)
	if strings.HasSuffix(text, "\n") {
		wantUnread(t, text+others, api.ErrMap)
		wantUnread(t, others+text+others, api.ErrMap)
	}
}

// sym is a map of one symbol.
func sym(name string, addr uint64) api.Map {
	return api.Map{Syms: []api.Named{{Name: name, Addr: addr}}}
}

// P11.4

func TestExample1(t *testing.T) {
	wantText(t, place(0, 1, 4096), "place 0 1 1000\n")
	wantRead(t, "place 0 1 1000\n", place(0, 1, 4096))
}

func TestText(t *testing.T) {
	wantText(t, api.Map{}, "")
	wantText(t, api.Map{Places: []api.Place{}, Syms: []api.Named{}}, "")
	wantText(t, place(0, 0, 0), "place 0 0 0\n")
	wantText(t, place(5, 63, 0xabcdef), "place 5 63 abcdef\n")
	wantText(t, place(10, 100, 16), "place 10 100 10\n")
	wantText(t, place(123456789, 987654321, 0x0123456789abcdef), "place 123456789 987654321 123456789abcdef\n")
	wantText(t, place(1, 2, top), "place 1 2 ffffffffffffffff\n")
	wantText(t, sym("f", 0), "sym f 0\n")
	wantText(t, sym("_ZN3fooC1Ev", 0x401000), "sym _ZN3fooC1Ev 401000\n")
	wantText(t, sym("f", top), "sym f ffffffffffffffff\n")
	wantText(t, api.Map{
		Places: []api.Place{{Obj: 1, Sect: 4, Addr: 10}, {Obj: 0, Sect: 2, Addr: 9}},
		Syms:   []api.Named{{Name: "b", Addr: 31}, {Name: "a", Addr: 15}},
	}, "place 1 4 a\nplace 0 2 9\nsym b 1f\nsym a f\n")
}

// What may not be read is put all the same.
func TestTextOfAnyMap(t *testing.T) {
	wantText(t, place(-1, math.MinInt, 1), "place -1 -9223372036854775808 1\n")
	wantText(t, place(math.MaxInt, 1000000000, 1), "place 9223372036854775807 1000000000 1\n")
	wantText(t, sym("", 1), "sym  1\n")
	wantText(t, sym("a b\nc\x00\xff", 1), "sym a b\nc\x00\xff 1\n")
	wantText(t, sym(strings.Repeat("x", 300), 1), "sym "+strings.Repeat("x", 300)+" 1\n")
	var m api.Map
	want := ""
	for range 201 {
		m.Places = append(m.Places, api.Place{})
		want += "place 0 0 0\n"
	}
	for range 201 {
		m.Syms = append(m.Syms, api.Named{Name: "f"})
		want += "sym f 0\n"
	}
	wantText(t, m, want)
	wantText(t, api.Map{Places: m.Places[:1], Syms: m.Syms[:1]}, "place 0 0 0\nsym f 0\n")
}

func TestTextIsNewMemory(t *testing.T) {
	m := place(0, 1, 4096)
	m.Syms = named("f").Syms
	first, second := linkmap.Text(m), linkmap.Text(m)
	for i := range first[:cap(first)] {
		first[:cap(first)][i] = '!'
	}
	if want := "place 0 1 1000\nsym f 1\n"; string(second) != want {
		t.Errorf("the text handed out beside it is now %q", second)
	}
	wantText(t, m, "place 0 1 1000\nsym f 1\n")
}

func TestRead(t *testing.T) {
	wantRead(t, "", api.Map{})
	if m, e := linkmap.Read(nil); !equal(m, api.Map{}) || e != api.OK {
		t.Errorf("Read of nil = %v, %d", m, e)
	}
	wantRead(t, "place 0 0 0\n", place(0, 0, 0))
	wantRead(t, "place 5 63 abcdef\n", place(5, 63, 0xabcdef))
	wantRead(t, "sym f 0\n", sym("f", 0))
	wantRead(t, "sym main 401000\n", sym("main", 0x401000))
	// A section twice, a symbol twice, an address that may not be: New's matter.
	wantRead(t, "place 0 1 ffffffffffffffff\nplace 0 1 1\nsym f 1\nsym f ffffffffffffffff\n", api.Map{
		Places: []api.Place{{Sect: 1, Addr: top}, {Sect: 1, Addr: 1}}, Syms: []api.Named{{Name: "f", Addr: 1}, {Name: "f", Addr: top}},
	})
}

func TestReadInAnyOrder(t *testing.T) {
	want := api.Map{
		Places: []api.Place{{Obj: 1, Sect: 4, Addr: 10}, {Obj: 0, Sect: 2, Addr: 9}},
		Syms:   []api.Named{{Name: "b", Addr: 31}, {Name: "a", Addr: 15}},
	}
	for _, text := range []string{
		"place 1 4 a\nplace 0 2 9\nsym b 1f\nsym a f\n",
		"sym b 1f\nsym a f\nplace 1 4 a\nplace 0 2 9\n",
		"sym b 1f\nplace 1 4 a\nsym a f\nplace 0 2 9\n",
		"place 1 4 a\nsym b 1f\nplace 0 2 9\nsym a f\n",
		"place 1 4 a\nsym b 1f\nsym a f\nplace 0 2 9\n",
	} {
		wantRead(t, text, want)
	}
}

func TestReadOfPlacesNumbers(t *testing.T) {
	for _, x := range []struct {
		word string
		want int
	}{{"0", 0}, {"1", 1}, {"9", 9}, {"10", 10}, {"99", 99}, {"100", 100}, {"12345678", 12345678}, {"100000000", 100000000}, {"123456789", 123456789}, {"999999999", 999999999}} {
		wantRead(t, "place "+x.word+" 1 a\n", place(x.want, 1, 10))
		wantRead(t, "place 1 "+x.word+" a\n", place(1, x.want, 10))
	}
	for _, word := range []string{
		"1000000000", "1234567890", "4294967296", "9999999999", "99999999999999999999", strings.Repeat("9", 100), // more than nine digits
		"00", "01", "007", "000000001", "0000000001", "0123456789",
		"-0", "-1", "+0", "+1", "-", "+", "--1", "1-", "1+", "-123456789",
		"a", "f", "1a", "0x1", "0x", "0b1", "0o7", "1_0", "_1", "1.0", "1e1", ".", "1,0", "½", "١", "１", "x", "\x001", "1\x00", "1\t", "\t1", "1\r", "1\v", "1\f", "1\u00a0", "\xff",
	} {
		wantWrong(t, "place "+word+" 1 a\n")
		wantWrong(t, "place 1 "+word+" a\n")
	}
}

func TestReadOfAddresses(t *testing.T) {
	for _, addr := range []uint64{0, 1, 9, 10, 15, 16, 255, 256, 0xabcdef, 1<<31 - 1, 1 << 32, 1<<60 - 1, 1 << 60, 1<<63 - 1, 1 << 63, 0xfedcba9876543210, top - 1, top} {
		word := fmt.Sprintf("%x", addr)
		wantRead(t, "place 1 2 "+word+"\n", place(1, 2, addr))
		wantRead(t, "sym f "+word+"\n", sym("f", addr))
	}
	for _, word := range []string{
		"10000000000000000", "fffffffffffffffff", "00000000000000001", "0ffffffffffffffff", strings.Repeat("1", 17), strings.Repeat("f", 100), // seventeen digits and more
		"00", "01", "0a", "0000000000000000", "0fffffffffffffff", "0000000000001000",
		"A", "F", "aB", "1A", "ABCDEF", "FFFFFFFFFFFFFFFF", "fffffffffffffffF", "Abcdef",
		"-1", "+1", "-a", "+a", "-", "+", "g", "1g", "0x1", "0X1", "0x", "x1", "1h", "1_0", "1.0", "1p1", "١", "１", "\x001", "1\x00", "1\t", "\t1", "1\r", "1\v", "\xff",
	} {
		wantWrong(t, "place 1 2 "+word+"\n")
		wantWrong(t, "sym f "+word+"\n")
	}
}

func TestReadOfNames(t *testing.T) {
	long := strings.Repeat("x", 200)
	for _, name := range []string{"f", "0", "sym", "place", "-1", "SYM", "_Z3foov", ".text", "a,b", "\"q\"", "\xff\xfe", "é", "\u00a0", "\u2003", "\u2028", long, long[:199], strings.Repeat("é", 100)} {
		wantRead(t, "sym "+name+" 1f\n", sym(name, 31))
	}
	// Just the byte 32 is a space, so a name may have others that look like one.
	for _, name := range []string{"a\tb", "\tf", "f\t", "\t", "f\r", "\r", "a\vb\f"} {
		wantRead(t, "sym "+name+" 1f\n", sym(name, 31))
	}
	for _, name := range []string{"", "\x00", "f\x00", "\x00f", "a\x00b", long + "x", long + "\x00", strings.Repeat("é", 101), strings.Repeat("x", 1000), "a b", " a", "a ", " ", "a\nb", "\n"} {
		wantWrong(t, "sym "+name+" 1f\n")
	}
}

func TestReadOfSpaces(t *testing.T) {
	for _, line := range []string{"place 1 2 a", "sym f a"} {
		for i := range len(line) + 1 {
			for _, more := range []string{" ", "  ", "\n", "\x00"} {
				wantWrong(t, line[:i]+more+line[i:]+"\n")
			}
		}
		for i := range line {
			if line[i] != ' ' {
				continue
			}
			for _, other := range []string{"", "  ", "   ", "\t", "\t\t", "\r", "\v", "\f", "\u00a0", "\n", "\r\n", ",", "_", "\x00"} {
				wantWrong(t, line[:i]+other+line[i+1:]+"\n")
			}
		}
		wantWrong(t, "\t"+line+"\n")
		wantWrong(t, line+"\t\n")
		wantWrong(t, "\r"+line+"\n")
		wantWrong(t, line+"\r\n")
		wantWrong(t, line+"\r")
		wantWrong(t, line+"\n\r")
		wantWrong(t, "\ufeff"+line+"\n")
	}
	for _, line := range []string{"place\t 1 2 a", "place \t1 2 a", "place 1\t 2 a", "place 1 2\t a", "place 1 2 \ta", "sym\t f a", "sym f \ta"} {
		wantWrong(t, line+"\n")
	}
}

func TestReadOfWords(t *testing.T) {
	for _, text := range []string{
		"place\n", "place 1\n", "place 1 2\n", "place 1 2 a b\n", "place 1 2 a place\n", "place 1 2 3 4\n", "place f a\n", "place  1 2\n",
		"sym\n", "sym f\n", "sym a\n", "sym f a b\n", "sym f 1 2\n", "sym f g a\n", "sym 1 2 a\n",
		"Place 1 2 a\n", "PLACE 1 2 a\n", "places 1 2 a\n", "plac 1 2 a\n", "plac\u00e9 1 2 a\n", "place: 1 2 a\n", "p 1 2 a\n", "\x00place 1 2 a\n", "place\x00 1 2 a\n",
		"Sym f a\n", "SYM f a\n", "syms f a\n", "sy f a\n", "symbol f a\n", "s f a\n",
		"1 2 a\n", "f a\n", "a\n", "1 2 a place\n", "f a sym\n", "# place 1 2 a\n", "#\n", "place 1 2 a # c\n", "image 1 2 a\n", "section f a\n", " \n", "  \n", "   \n", "\x00\n",
	} {
		wantWrong(t, text)
	}
}

func TestReadOfEmptyLines(t *testing.T) {
	wantWrong(t, "\n")
	wantWrong(t, "\n\n")
	wantWrong(t, "\nplace 1 2 a\n")
	wantWrong(t, "place 1 2 a\n\n")
	wantWrong(t, "place 1 2 a\n\nsym f a\n")
	wantWrong(t, "sym f a\n\n")
}

func TestReadOfALastLineWithoutItsEnd(t *testing.T) {
	for _, text := range []string{"place 1 2 a", "sym f a", "p", " ", "\r", "place 1 2 a\nsym f a", "sym f a\nplace 1 2 a", "sym f a\nx", "sym f a\n "} {
		wantUnread(t, text, api.ErrMap)
	}
	b := []byte("place 1 2 a\nsym f a\n")
	for n := range len(b) {
		if n == 0 || n == 12 {
			if _, e := linkmap.Read(b[:n]); e != api.OK {
				t.Errorf("Read of %d bytes = %d", n, e)
			}
			continue
		}
		// Neither is what lies behind the length read, nor a half line.
		if m, e := linkmap.Read(b[:n]); !equal(m, api.Map{}) || e != api.ErrMap {
			t.Errorf("Read of %d bytes = %v, %d", n, m, e)
		}
	}
}

func TestReadOfMostBytes(t *testing.T) {
	// A map of the most places and symbols is far below the most bytes.
	var m api.Map
	for i := range 200 {
		m.Places = append(m.Places, api.Place{Obj: 999999999 - i, Sect: 999999999, Addr: top})
		m.Syms = append(m.Syms, api.Named{Name: strings.Repeat("x", 200), Addr: top})
	}
	wantRead(t, string(linkmap.Text(m)), m)
	for _, line := range []string{"place 1 2 a\n", "sym f a\n", "sym ffffffff fffffff\n", "\n", "x"} {
		text := strings.Repeat(line, api.MaxBytes/len(line)+2)
		wantUnread(t, text[:api.MaxBytes-1], api.ErrMap)
		wantUnread(t, text[:api.MaxBytes], api.ErrMap)
		wantUnread(t, text[:api.MaxBytes+1], api.ErrBig)
		wantUnread(t, text[:api.MaxBytes+2], api.ErrBig)
		wantUnread(t, strings.Repeat(text, 3), api.ErrBig)
	}
	wantUnread(t, strings.Repeat("\x00", api.MaxBytes), api.ErrMap)
	wantUnread(t, strings.Repeat("\x00", api.MaxBytes+1), api.ErrBig)
	// What lies behind the length does not count.
	b := append([]byte("sym f a\n"), make([]byte, api.MaxBytes)...)
	if got, e := linkmap.Read(b[:8]); !equal(got, sym("f", 10)) || e != api.OK {
		t.Errorf("Read of what has room behind it = %v, %d", got, e)
	}
}

func TestReadOfMostLines(t *testing.T) {
	for _, n := range []int{199, 200, 201, 202, 400} {
		var places, syms strings.Builder
		var m api.Map
		for i := range n {
			fmt.Fprintf(&places, "place 0 %d %x\n", i, i)
			fmt.Fprintf(&syms, "sym s%d %x\n", i, i)
			m.Places = append(m.Places, api.Place{Sect: i, Addr: uint64(i)})
			m.Syms = append(m.Syms, api.Named{Name: fmt.Sprintf("s%d", i), Addr: uint64(i)})
		}
		p, s := places.String(), syms.String()
		if n <= 200 {
			wantRead(t, p, api.Map{Places: m.Places})
			wantRead(t, s, api.Map{Syms: m.Syms})
			wantRead(t, p+s, m)
			wantRead(t, s+p, m)
			continue
		}
		for _, text := range []string{p, s, p + s, s + p, p + "sym f a\n", "sym f a\n" + p, s + "place 1 2 a\n", "place 1 2 a\n" + s} {
			wantUnread(t, text, api.ErrMap)
		}
	}
}

func TestReadIsNewMemory(t *testing.T) {
	b := []byte("place 1 2 a\nsym f a\nsym g b\n")
	first, _ := linkmap.Read(b)
	second, _ := linkmap.Read(b)
	want := api.Map{Places: []api.Place{{Obj: 1, Sect: 2, Addr: 10}}, Syms: []api.Named{{Name: "f", Addr: 10}, {Name: "g", Addr: 11}}}
	for i := range b {
		b[i] = '!'
	}
	for i := range first.Places[:cap(first.Places)] {
		first.Places[:cap(first.Places)][i] = api.Place{Obj: 9}
	}
	for i := range first.Syms[:cap(first.Syms)] {
		first.Syms[:cap(first.Syms)][i] = api.Named{Name: "h"}
	}
	if !equal(second, want) {
		t.Errorf("what was read is now %v", second)
	}
	wantRead(t, "place 1 2 a\nsym f a\nsym g b\n", want)
}

// A name keeps no more than itself of the text that it was read from.
func TestReadKeepsNoMoreThanTheNames(t *testing.T) {
	const rounds = 400
	text := []byte("sym f a\n" + strings.Repeat("sym "+strings.Repeat("x", 199)+" ffffffffffffffff\n", 190))
	var names []string
	held := heap()
	for range rounds {
		m, e := linkmap.Read(text)
		if len(m.Syms) != 191 || e != api.OK {
			t.Fatalf("Read = %d symbols, %d", len(m.Syms), e)
		}
		names = append(names, m.Syms[0].Name)
	}
	if grown := heap() - held; grown > int64(rounds*len(text)/4) {
		t.Errorf("%d names keep %d bytes", len(names), grown)
	}
	runtime.KeepAlive(names)
}

// P11.5

// anyPlace is a place whose numbers may be read.
func anyPlace(r *rand.Rand) api.Place {
	sizes := []int{1, 2, 10, 11, 64, 1000, 1000000000}
	return api.Place{
		Obj:  r.Intn(sizes[r.Intn(len(sizes))]),
		Sect: r.Intn(sizes[r.Intn(len(sizes))]),
		Addr: r.Uint64() >> r.Intn(65),
	}
}

// anySym is a symbol whose name has neither spaces nor line feeds.
func anySym(r *rand.Rand) api.Named {
	name := make([]byte, []int{1, 2, 5, 1 + r.Intn(200), 200}[r.Intn(5)])
	for i := range name {
		for name[i] == 0 || name[i] == ' ' || name[i] == '\n' {
			name[i] = byte(r.Intn(256))
		}
	}
	return api.Named{Name: string(name), Addr: r.Uint64() >> r.Intn(65)}
}

func TestMapsAreReadFromTheirTexts(t *testing.T) {
	r := rand.New(rand.NewSource(7))
	for range 3000 {
		var m api.Map
		for range r.Intn(8) {
			m.Places = append(m.Places, anyPlace(r))
		}
		for range r.Intn(8) {
			m.Syms = append(m.Syms, anySym(r))
		}
		text := linkmap.Text(m)
		wantRead(t, string(text), m)
		if !bytes.Equal(text, linkmap.Text(m)) {
			t.Errorf("Text of %s is not the same again", show(m))
		}
		if t.Failed() {
			return
		}
	}
	for _, n := range []int{199, 200} {
		var m api.Map
		for range n {
			m.Places = append(m.Places, anyPlace(r))
			m.Syms = append(m.Syms, anySym(r))
		}
		wantRead(t, string(linkmap.Text(m)), m)
	}
}

// Lines as the chapter has them: texts are bytes here, not letters.
var (
	placeLine = regexp.MustCompile(`^place (0|[1-9][0-9]{0,8}) (0|[1-9][0-9]{0,8}) (0|[1-9a-f][0-9a-f]{0,15})$`)
	symLine   = regexp.MustCompile(`(?s)^sym ([^ \n\x00]+) (0|[1-9a-f][0-9a-f]{0,15})$`)
)

// readAnew is what a text says, by the chapter's words.
func readAnew(text string) (api.Map, api.Errno) {
	var m api.Map
	lines := strings.Split(text, "\n")
	if lines[len(lines)-1] != "" {
		return api.Map{}, api.ErrMap
	}
	for _, line := range lines[:len(lines)-1] {
		if p := placeLine.FindStringSubmatch(line); p != nil {
			obj, _ := strconv.Atoi(p[1])
			sect, _ := strconv.Atoi(p[2])
			addr, _ := strconv.ParseUint(p[3], 16, 64)
			m.Places = append(m.Places, api.Place{Obj: obj, Sect: sect, Addr: addr})
			continue
		}
		s := symLine.FindStringSubmatch(line)
		if s == nil || len(s[1]) > 200 {
			return api.Map{}, api.ErrMap
		}
		addr, _ := strconv.ParseUint(s[2], 16, 64)
		m.Syms = append(m.Syms, api.Named{Name: s[1], Addr: addr})
	}
	return m, api.OK
}

// Texts that are turned here and there are read, or refused, by the chapter's
// words.
func TestReadByChance(t *testing.T) {
	r := rand.New(rand.NewSource(5))
	met := map[api.Errno]int{}
	for range 60000 {
		text := turned(r)
		want, e := readAnew(text)
		met[e]++
		if e == api.OK {
			wantRead(t, text, want)
		} else {
			wantUnread(t, text, e)
		}
		if t.Failed() {
			return
		}
	}
	if met[api.OK] < 5000 || met[api.ErrMap] < 5000 {
		t.Errorf("%v of texts", met)
	}
}

// turned is a text of some lines in some order, with some bytes turned.
func turned(r *rand.Rand) string {
	const bytesOf = "0123456789abcdefABCDEF  \n\n\t\r-+xplacesym\x00\xff"
	var m api.Map
	var text []byte
	for range 1 + r.Intn(3) {
		if r.Intn(2) == 0 {
			m = api.Map{Places: []api.Place{anyPlace(r)}}
		} else {
			m = sym(string(rune('a'+r.Intn(26))), r.Uint64()>>r.Intn(65))
		}
		text = append(text, linkmap.Text(m)...)
	}
	for range r.Intn(3) {
		at := r.Intn(len(text))
		switch one := bytesOf[r.Intn(len(bytesOf))]; r.Intn(3) {
		case 0:
			text[at] = one
		case 1:
			text = append(text[:at], append([]byte{one}, text[at:]...)...)
		case 2:
			text = append(text[:at], text[at+1:]...)
		}
	}
	return string(text)
}

// A map that was read is made just as the one that its text was of.
func TestMapsOfTexts(t *testing.T) {
	r := rand.New(rand.NewSource(13))
	for range 2000 {
		g := chance(r)
		m, e := linkmap.Read(linkmap.Text(g.m))
		if !equal(m, g.m) || e != api.OK {
			t.Fatalf("Read of the text of %s = %s, %d", show(g.m), show(m), e)
		}
		first, a := linkmap.New(g.m, g.all, g.left)
		second, b := linkmap.New(m, g.all, g.left)
		if a != b || !reflect.DeepEqual(first.Images(), second.Images()) {
			t.Fatalf("New of %s = %d, of what was read %d", show(g.m), a, b)
		}
	}
	l, e := linkmap.Read([]byte("place 0 2 40\nsym printf 401000\nplace 1 1 1000\n"))
	if e != api.OK {
		t.Fatalf("Read = %d", e)
	}
	all := []object.Object{sized(8, 16), sized(4)}
	wantImages(t, made(t, "a map that was read", l, all, nil), 64, 80, 4096, 4100)
	wantSym(t, made(t, "a map that was read", l, all, nil), "printf", 0x401000)
}
