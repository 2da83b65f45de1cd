package ops_test

import (
	"bytes"
	"fmt"
	"slices"
	"testing"

	"sindri/api"
	"sindri/ops"
)

// P18.4

// wantSame looks whether expressions are alike, whichever is named first, and that they
// are left.
func wantSame(t *testing.T, what string, a, b []api.Op, want bool) {
	t.Helper()
	for _, p := range [][2][]api.Op{{a, b}, {b, a}, {roomy(a), b}, {a, roomy(b)}} {
		x, y := tell(p[0]), tell(p[1])
		if got := ops.Same(p[0], p[1]); got != want {
			t.Errorf("%s: Same(%s, %s) = %v", what, show(p[0]), show(p[1]), got)
		}
		if tell(p[0]) != x || tell(p[1]) != y {
			t.Errorf("%s: Same changes what it is handed", what)
		}
	}
}

func TestSame(t *testing.T) {
	l := []api.Op{{Code: 146, A: 1, B: 2}, {Code: 158, Data: []byte{1, 2, 3}}, {Code: 157, A: top, B: half}, {Code: 150}}
	wantSame(t, "nil and nil", nil, nil, true)
	wantSame(t, "nil and none", nil, []api.Op{}, true)
	wantSame(t, "Data nil and none", []api.Op{{Code: 158}}, []api.Op{{Code: 158, Data: []byte{}}}, true)
	wantSame(t, "alike", l, slices.Clone(l), true)
	wantSame(t, "one zero", []api.Op{{}}, nil, false)
	for n := range len(l) {
		wantSame(t, fmt.Sprint("a shorter one, ", n), l, l[:n], false)
	}
	wantSame(t, "two in another order", l, []api.Op{l[1], l[0], l[2], l[3]}, false)
	for at := range l {
		for i, other := range []func(o *api.Op){
			func(o *api.Op) { o.Code++ },
			func(o *api.Op) { o.Code = -o.Code },
			func(o *api.Op) { o.Code += 256 },
			func(o *api.Op) { o.Code += 1 << 32 },
			func(o *api.Op) { o.A++ },
			func(o *api.Op) { o.A += 1 << 32 },
			func(o *api.Op) { o.A += half },
			func(o *api.Op) { o.B-- },
			func(o *api.Op) { o.B += 1 << 32 },
			func(o *api.Op) { o.B += half },
			func(o *api.Op) { o.A, o.B = o.B, o.A+7 },
			func(o *api.Op) { o.Data = append(slices.Clone(o.Data), 0) },
			func(o *api.Op) { o.Data = append([]byte{0}, o.Data...) },
		} {
			x := slices.Clone(l)
			other(&x[at])
			wantSame(t, fmt.Sprint("another one at ", at, ", the ", i), l, x, false)
		}
	}
	for i := range 3 {
		x := slices.Clone(l)
		x[1].Data = bytes.Clone(x[1].Data)
		x[1].Data[i] ^= 128
		wantSame(t, fmt.Sprint("another byte at ", i), l, x, false)
		x[1].Data = l[1].Data[:i]
		wantSame(t, fmt.Sprint("fewer bytes, ", i), l, x, false)
	}
	wrong := []api.Op{{Code: -1, A: 1, B: 2, Data: []byte{1}}, {Code: 1 << 40}}
	wantSame(t, "such as may not be", wrong, slices.Clone(wrong), true)
	many := list(nops(200)...)
	wantSame(t, "many", many, slices.Clone(many), true)
	wantSame(t, "many, and one more", many, append(slices.Clone(many), many[0]), false)
}

// wantResolve looks at what operations are resolved to, that operations and items are left,
// and that what is answered is new memory.
func wantResolve(t *testing.T, what string, l []api.Op, items []uint64, want []api.Op) {
	t.Helper()
	for _, l := range [][]api.Op{l, roomy(l)} {
		for _, items := range [][]uint64{items, room(items, 7, 8, 9)} {
			was, itemsWere := tell(l), whole(items)
			got, e := ops.Resolve(l, items)
			if !same(got, want) || e != api.OK {
				t.Errorf("%s: Resolve(%s, %v) = %s, %d, want %s, 0", what, show(l), items, show(got), e, show(want))
				return
			}
			wipeEach(t, what, got, want)
			if tell(l) != was || !slices.Equal(whole(items), itemsWere) {
				t.Errorf("%s: what was handed in is changed", what)
			}
			if got, e := ops.Resolve(l, items); !same(got, want) || e != api.OK {
				t.Errorf("%s: Resolve, once more, = %s, %d, want %s, 0", what, show(got), e, show(want))
			}
		}
	}
}

// wantUnresolved looks that operations are refused, and that they and the items are left.
func wantUnresolved(t *testing.T, what string, l []api.Op, items []uint64) {
	t.Helper()
	for _, l := range [][]api.Op{l, roomy(l)} {
		for _, items := range [][]uint64{items, room(items, 7, 8, 9)} {
			was, itemsWere := tell(l), whole(items)
			if got, e := ops.Resolve(l, items); len(got) != 0 || e != api.ErrOp {
				t.Errorf("%s: Resolve(%s, %v) = %s, %d, want none, 46", what, show(l), items, show(got), e)
			}
			if tell(l) != was || !slices.Equal(whole(items), itemsWere) {
				t.Errorf("%s: what was handed in is changed", what)
			}
		}
	}
}

func TestResolveItems(t *testing.T) {
	items := []uint64{4096, 0, top, half, 77}
	for code, as := range map[int]int{161: 3, 162: 14} {
		for i, item := range items {
			l := []api.Op{{Code: code, A: uint64(i)}}
			want := []api.Op{{Code: as, A: item}}
			wantResolve(t, fmt.Sprint("alone, ", code, i), l, items, want)
			wantResolve(t, fmt.Sprint("of just as many items, ", code, i), l, items[:i+1], want)
			wantResolve(t, fmt.Sprint("between others, ", code, i), slices.Concat(list(nop(), data(3)), l, list(nop())), items, slices.Concat(list(nop(), data(3)), want, list(nop())))
			wantUnresolved(t, fmt.Sprint("of one item less, ", code, i), l, items[:i])
			l[0].B, l[0].Data = 5, []byte{1}
			wantResolve(t, fmt.Sprint("with more than it may have, ", code, i), l, items, want)
		}
		for _, n := range []uint64{5, 6, 255, 256, 1 << 16, 1 << 31, 1 << 32, 1<<32 + 1, half - 1, half, half + 1, top - 1, top} {
			l := []api.Op{{Code: code, A: n}}
			wantUnresolved(t, fmt.Sprint("alone, ", code, n), l, items)
			wantUnresolved(t, fmt.Sprint("of no items, ", code, n), l, nil)
			wantUnresolved(t, fmt.Sprint("behind others, ", code, n), slices.Concat(list(nop(), data(3)), []api.Op{{Code: code}}, l), items)
			wantUnresolved(t, fmt.Sprint("ahead of others, ", code, n), slices.Concat(l, []api.Op{{Code: code}}, list(nop(), data(3))), items)
		}
		wantUnresolved(t, "of items that are none", []api.Op{{Code: code}}, []uint64{})
	}
	wantResolve(t, "both, of one item", []api.Op{{Code: 161, A: 1}, {Code: 162, A: 1}}, []uint64{5, 6}, []api.Op{{Code: 3, A: 6}, {Code: 14, A: 6}})
}

func TestResolveLeavesTheOthers(t *testing.T) {
	wantResolve(t, "none", nil, nil, nil)
	wantResolve(t, "none, of items", []api.Op{}, []uint64{1, 2}, nil)
	for _, items := range [][]uint64{nil, {5, 6, 7}} {
		for _, p := range edges() {
			if p.o.Code < 161 {
				wantResolve(t, fmt.Sprintf("code %d, %d", p.o.Code, p.o.A), list(p), items, list(p))
			}
		}
		others := []api.Op{{Code: 40, A: 3}, {Code: 47, A: 99}, {Code: 3, A: 1}, {Code: 14, A: 1}, {Code: 160, A: 9}, {Code: 164, A: 9}, {Code: 161 + 256, A: 9}, {Code: -161}, {Code: 163 - 256, Data: []byte{0}}, {Code: 150, A: 1, B: 2, Data: []byte{161, 0}}}
		wantResolve(t, "such as may not be", others, items, others)
		full := []api.Op{{Code: 158, Data: []byte{161, 0}}, {Code: 158, Data: []byte{0}}, {Code: 158, Data: make([]byte, mostBytes+1)}}
		wantResolve(t, "bytes of a block", full, items, full)
	}
	many := slices.Repeat([]api.Op{{Code: 150}, {Code: 161}}, 100)
	wantResolve(t, "more than may be", many, []uint64{5}, slices.Repeat([]api.Op{{Code: 150}, {Code: 3, A: 5}}, 100))
	jumps := []api.Op{{Code: 40, A: 2}, {Code: 161}, {Code: 47, A: 1}, {Code: 162}, {Code: 40}}
	wantResolve(t, "jumps", jumps, []uint64{5}, []api.Op{{Code: 40, A: 2}, {Code: 3, A: 5}, {Code: 47, A: 1}, {Code: 14, A: 5}, {Code: 40}})
}

// within is bytes in a 163, with others ahead and behind; so many times.
func within(b []byte, times int) []byte {
	for range times {
		b = cat([]byte{150, 163}, u(uint64(len(b))), b, []byte{150})
	}
	return b
}

func TestResolveLooksIntoEntryValues(t *testing.T) {
	fine := [][]byte{
		nil,
		{150},
		{0x50},
		jump(40, 0),
		cat(jump(40, 1), []byte{150}),
		cat([]byte{158}, u(2), []byte{161, 0}),
		cat([]byte{158}, u(mostBytes), make([]byte, mostBytes), []byte{150}),
		cat([]byte{16}, u(161), []byte{17}, s(162)),
		bytes.Repeat([]byte{150}, most),
	}
	wrong := [][]byte{
		{0},
		{150, 0},
		{3, 1},
		{40, 1, 0},
		cat([]byte{16}, tooLong()),
		cat([]byte{158}, u(mostBytes+1), make([]byte, mostBytes+1)),
		bytes.Repeat([]byte{150}, most+1),
		{161, 0},
		{162, 0},
		{161, 5},
		{150, 161, 0, 150},
		{80, 162, 1},
		{161},
	}
	for _, items := range [][]uint64{nil, {1, 2, 3, 4, 5, 6, 7, 8}} {
		for i, b := range fine {
			for times := range 3 {
				if x := within(b, times); len(x) <= mostBytes {
					l := append(list(nop()), api.Op{Code: 163, Data: x}, api.Op{Code: 48})
					wantResolve(t, fmt.Sprint("fine ", i, " within ", times), l, items, l)
				}
			}
		}
		for i, b := range wrong {
			for times := range 4 {
				l := append(list(nop()), api.Op{Code: 163, Data: within(b, times)}, api.Op{Code: 48})
				wantUnresolved(t, fmt.Sprint("wrong ", i, " within ", times), l, items)
			}
			two := cat([]byte{163, 1, 150, 163}, u(uint64(len(b))), b, []byte{163, 1, 150})
			wantUnresolved(t, fmt.Sprint("wrong ", i, " in one of three"), []api.Op{{Code: 163, Data: two}}, items)
			wantUnresolved(t, fmt.Sprint("wrong ", i, " behind a fine one"), []api.Op{{Code: 163, Data: []byte{150}}, {Code: 163, Data: b}}, items)
		}
	}
	l := []api.Op{{Code: 161, A: 1}, {Code: 163, A: 5, B: 6, Data: []byte{80}}, {Code: 162}}
	wantResolve(t, "with items around it", l, []uint64{8, 9}, []api.Op{{Code: 3, A: 9}, l[1], {Code: 14, A: 8}})
	wantUnresolved(t, "with no items around it", l, []uint64{8})
}

// As deep as there is room in Data.
func TestResolveLooksDeep(t *testing.T) {
	deep := func(b []byte) []byte {
		for {
			x := cat([]byte{163}, u(uint64(len(b))), b)
			if len(x) > mostBytes {
				return b
			}
			b = x
		}
	}
	l := []api.Op{{Code: 163, Data: deep(nil)}}
	if got, e := ops.Resolve(l, nil); !same(got, l) || e != api.OK {
		t.Errorf("deep: Resolve = %s, %d", show(got), e)
	}
	l[0].Data = deep([]byte{161, 0})
	if got, e := ops.Resolve(l, []uint64{1}); len(got) != 0 || e != api.ErrOp {
		t.Errorf("deep, with a 161: Resolve = %s, %d", show(got), e)
	}
}
