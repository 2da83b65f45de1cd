package syms_test

import (
	"bytes"
	"encoding/binary"
	"fmt"
	"math"
	"slices"
	"strings"
	"testing"

	"sindri/api"
	"sindri/syms"
)

const (
	top   = math.MaxUint64
	limit = 2147483647 // the greatest Sym, and Type, of a relocation that is read
	most  = 400        // symbols, and relocations, that are read
	room  = 65536      // bytes of the names that are put
)

// entry is a symbol's entry by the chapter's words.
type entry struct {
	name        uint32
	both, skip  byte
	sect        uint16
	value, size uint64
}

// lay is entries' bytes.
func lay(l ...entry) []byte {
	var b []byte
	for _, x := range l {
		b = binary.LittleEndian.AppendUint32(b, x.name)
		b = append(b, x.both, x.skip)
		b = binary.LittleEndian.AppendUint16(b, x.sect)
		b = binary.LittleEndian.AppendUint64(b, x.value)
		b = binary.LittleEndian.AppendUint64(b, x.size)
	}
	return b
}

const names = "\x00main\x00data\x00abs\x00" // the places: 0, 1, 6, 11; 15 bytes

// plain is entries whose names stand in names.
func plain() []entry {
	return []entry{
		{},
		{1, 0x12, 0, 1, 0x1020304050607080, 0x90},
		{6, 0x01, 2, 3, 8, 0x0102030405060708},
		{11, 0xf0, 0, 65521, top, 0},
	}
}

// plainSymbols is what plain's entries tell.
func plainSymbols() []api.Symbol {
	return []api.Symbol{
		{},
		{Name: "main", Bind: 1, Type: 2, Sect: 1, Value: 0x1020304050607080, Size: 0x90},
		{Name: "data", Bind: 0, Type: 1, Sect: 3, Value: 8, Size: 0x0102030405060708},
		{Name: "abs", Bind: 15, Type: 0, Sect: 65521, Value: top},
	}
}

// show tells so many of a list as can be read.
func show[T any](l []T) string {
	text := fmt.Sprintf("%d of %T", len(l), l)
	for _, x := range l[:min(len(l), 6)] {
		text += fmt.Sprintf(" %.120s", fmt.Sprintf("%+v", x))
	}
	return text
}

// wantTake looks at what Take tells, and that it leaves what it is handed.
func wantTake(t *testing.T, what string, table []byte, names string, want []api.Symbol, e api.Errno) {
	t.Helper()
	a, b := bytes.Clone(table), []byte(names)
	if got, err := syms.Take(a, b); !slices.Equal(got, want) || err != e {
		t.Errorf("%s: Take = %s, %d, want %s, %d", what, show(got), err, show(want), e)
	}
	if !bytes.Equal(a, table) || string(b) != names {
		t.Errorf("%s: Take changed what was handed in", what)
	}
}

// wantNone looks that Take refuses.
func wantNone(t *testing.T, what string, table []byte, names string, e api.Errno) {
	t.Helper()
	wantTake(t, what, table, names, nil, e)
}

// wantPut looks at what Put puts of symbols that may be, and that it leaves them.
func wantPut(t *testing.T, what string, l []api.Symbol, table []byte, names string) {
	t.Helper()
	before := slices.Clone(l)
	if !syms.Right(l) {
		t.Errorf("%s: Right = false", what)
	}
	a, b, e := syms.Put(l)
	if !bytes.Equal(a, table) || string(b) != names || e != api.OK {
		t.Errorf("%s: Put = %x, %.60q of %d, %d, want %x, %.60q of %d, 0", what, a, b, len(b), e, table, names, len(names))
	}
	if !slices.Equal(l, before) {
		t.Errorf("%s: what was handed in is changed", what)
	}
}

// wantUnput looks that Put refuses symbols, of which Right tells whether they may be.
func wantUnput(t *testing.T, what string, l []api.Symbol, right bool) {
	t.Helper()
	before := slices.Clone(l)
	if got := syms.Right(l); got != right {
		t.Errorf("%s: Right = %v", what, got)
	}
	if a, b, e := syms.Put(l); len(a) != 0 || len(b) != 0 || e != api.ErrArg {
		t.Errorf("%s: Put = %d bytes, %d bytes, %d, want none and %d", what, len(a), len(b), e, api.ErrArg)
	}
	if !slices.Equal(l, before) {
		t.Errorf("%s: what was handed in is changed", what)
	}
}

// wantBack looks that what is put is taken, and what is taken is put.
func wantBack(t *testing.T, what string, l []api.Symbol) {
	t.Helper()
	if !syms.Right(l) {
		t.Errorf("%s: Right = false", what)
	}
	before := slices.Clone(l)
	table, names, e := syms.Put(l)
	if e != api.OK || len(table) != 24*len(l) {
		t.Errorf("%s: Put = %d bytes, %d", what, len(table), e)
	}
	wantTake(t, what, table, string(names), before, api.OK)
	wantPut(t, what, before, table, string(names))
	if !slices.Equal(l, before) {
		t.Errorf("%s: what was handed in is changed", what)
	}
}

// text is a name of so many bytes, another one for each number.
func text(number, size int) string {
	s := fmt.Sprint(number, ".")
	return (s + strings.Repeat("n", 200))[:size]
}

// several is so many symbols that may be, each different.
func several(count int) []api.Symbol {
	var l []api.Symbol
	for i := range count {
		l = append(l, api.Symbol{Name: text(i, 4+i%5), Bind: i % 16, Type: (i + 3) % 16, Sect: i * 150, Value: uint64(i) << 40, Size: top - uint64(i)})
	}
	return l
}

// turned is bytes with one of them at another number.
func turned(b []byte, at int, to byte) []byte {
	b = bytes.Clone(b)
	b[at] = to
	return b
}
