package die_test

import (
	"fmt"
	"testing"

	"sindri/api"
	"sindri/die"
)

// P17.3

// wantFind looks at a place, and that the entries are left.
func wantFind(t *testing.T, l []die.Entry, off uint64, want int) {
	t.Helper()
	before := fmt.Sprint(l)
	if got := die.Find(l, off); got != want {
		t.Errorf("Find(%s, %d) = %d, want %d", show(l), off, got, want)
	}
	if fmt.Sprint(l) != before {
		t.Errorf("Find changed the entries")
	}
}

func TestFind(t *testing.T) {
	for _, from := range []uint64{0, 1, 12, 1 << 32} {
		for what, x := range forest(false) {
			l := x.entries(from)
			is := map[uint64]int{}
			for i, e := range l {
				is[e.Off] = i
			}
			for off := range uint64(len(x.bytes()) + 3) {
				want, ok := is[from+off-1]
				if !ok {
					want = -1
				}
				if got := die.Find(l, from+off-1); got != want {
					t.Errorf("%s: Find(%d) = %d, want %d", what, from+off-1, got, want)
				}
			}
		}
	}
}

func TestFindOfNone(t *testing.T) {
	for _, l := range [][]die.Entry{nil, {}, room([]die.Entry{}, leaf(1).entries(0)...)} {
		for _, off := range []uint64{0, 1, top} {
			wantFind(t, l, off, -1)
		}
	}
	wantFind(t, room(over(2, leaf(1)).entries(5), leaf(1).entries(9)...), 9, -1)
}

func TestFindOfGreatNumbers(t *testing.T) {
	l := []die.Entry{{Off: 5}, {Off: top}, {Off: 1 << 63}, {Off: 1<<32 + 5}, {Off: 0}, {Off: top - 1}}
	for i, e := range l {
		wantFind(t, l, e.Off, i)
	}
	for _, off := range []uint64{top - 2, 1<<63 + 5, 1<<63 - 1, 1 << 32, 1, 4, 6} {
		wantFind(t, l, off, -1)
	}
	for _, off := range []uint64{top, top - 1, 1 << 63, 1<<32 + 5} {
		wantFind(t, l[:1], off, -1)
	}
}

// Of two with one place the first one is told; only the place counts.
func TestFindOfTwo(t *testing.T) {
	l := []die.Entry{{Off: 9, Code: 4}, {Off: 4, Code: 9, Tag: 7, Parent: 7, Depth: 7}, {Off: 9}, {Off: 4}, {Off: 9}}
	wantFind(t, l, 9, 0)
	wantFind(t, l, 4, 1)
	wantFind(t, l[2:], 9, 0)
	wantFind(t, l[2:], 4, 1)
	wantFind(t, l, 7, -1)
	wantFind(t, l, 0, -1)
}

// wantGet looks at a value, and that the entry is left.
func wantGet(t *testing.T, e die.Entry, at int, want api.Raw, is bool) {
	t.Helper()
	before := fmt.Sprint(e)
	if got, ok := die.Get(e, at); !sameRaw(got, want) || ok != is {
		t.Errorf("Get(%d) = %+v, %v, want %+v, %v", at, got, ok, want, is)
	}
	if fmt.Sprint(e) != before {
		t.Errorf("Get changed the entry")
	}
}

func TestGet(t *testing.T) {
	for _, wide := range both {
		l := values(wide)
		e := leaf(1, l...).entries(0)[0]
		for _, v := range l {
			wantGet(t, e, v.pair.At, v.x, true)
		}
		for _, at := range []int{0, -1, len(l) + 1, 1<<16 + 1, 1<<32 + 1, 1<<63 - 1, -1 << 63} {
			wantGet(t, e, at, api.Raw{}, false)
		}
	}
}

func TestGetOfNone(t *testing.T) {
	x := die.Attr{At: 3, Val: api.Raw{Form: 11, U: 7}}
	for _, l := range [][]die.Attr{nil, {}, room([]die.Attr{}, x)} {
		for _, at := range []int{0, 3, -1} {
			wantGet(t, die.Entry{Off: 3, Code: 3, Tag: 3, Parent: 3, Depth: 3, Attrs: l}, at, api.Raw{}, false)
		}
	}
	wantGet(t, die.Entry{Attrs: room([]die.Attr{x}, die.Attr{At: 4})}, 4, api.Raw{}, false)
}

// Of two with one number the first one is told, also if its value is zero.
func TestGetOfTwo(t *testing.T) {
	one, two := api.Raw{Form: 11, U: 7}, api.Raw{Form: 8, Text: "a"}
	e := die.Entry{Attrs: []die.Attr{{At: 3, Val: one}, {At: 4}, {At: 3, Val: two}, {At: 4, Val: two}, {At: -5, Val: two}, {At: -5, Val: one}}}
	wantGet(t, e, 3, one, true)
	wantGet(t, e, 4, api.Raw{}, true)
	wantGet(t, e, -5, two, true)
	wantGet(t, e, 5, api.Raw{}, false)
	e.Attrs = e.Attrs[2:]
	wantGet(t, e, 3, two, true)
	wantGet(t, e, 4, two, true)
}
