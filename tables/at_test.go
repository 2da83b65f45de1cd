package tables_test

import (
	"testing"

	"sindri/tables"
)

// P16.3

func TestAt(t *testing.T) {
	for _, s := range sorts() {
		_, l := s.layAll(s.mixed()...)
		for _, x := range l {
			for i, n := range x.Items {
				wantAt(t, l, x.Base, uint64(i), n, true)
			}
		}
	}
}

func TestAtTellsFirstAndLast(t *testing.T) {
	l := []tables.Table{{Base: 8, Items: []uint64{10, 11, 12}}, {Base: 28, Items: []uint64{20}}, {Wide: true, Base: 60, Items: []uint64{0, top}}}
	for _, x := range []struct{ base, i, want uint64 }{{8, 0, 10}, {8, 1, 11}, {8, 2, 12}, {28, 0, 20}, {60, 0, 0}, {60, 1, top}} {
		wantAt(t, l, x.base, x.i, x.want, true)
	}
}

// A number at the table's end or above is that of no item, however great it is.
func TestAtBehindTheLast(t *testing.T) {
	l := []tables.Table{{Base: 8, Items: []uint64{10, 11, 12}}, {Base: 28}, {Wide: true, Base: 60, Items: []uint64{30, 31}}}
	for _, x := range l {
		size := uint64(len(x.Items))
		for _, i := range []uint64{size, size + 1, size + 2, 100, half, half + 1, 1 << 32, 1<<32 + 1, 1<<63 - 1, 1 << 63, 1<<63 + 1, 1 << 61, 1 << 62, top - 7, top - 1, top} {
			wantAt(t, l, x.Base, i, 0, false)
		}
	}
}

// A base is a table's own alone: not a place of another of its items, nor of its length.
func TestAtOfNoTable(t *testing.T) {
	l := []tables.Table{{Base: 8, Items: []uint64{10, 11, 12}}, {Base: 28, Items: []uint64{20}}}
	for _, base := range []uint64{0, 1, 4, 7, 9, 12, 16, 20, 27, 29, 32, half, 1<<32 + 8, 1<<63 + 8, top - 7, top} {
		for _, i := range []uint64{0, 1, 2, top} {
			wantAt(t, l, base, i, 0, false)
		}
	}
	for _, none := range [][]tables.Table{nil, {}} {
		for _, base := range []uint64{0, 8, top} {
			wantAt(t, none, base, 0, 0, false)
			wantAt(t, none, base, top, 0, false)
		}
	}
}

func TestAtOfAnyBase(t *testing.T) {
	for _, base := range []uint64{0, 1, 7, half, half + 1, 1 << 63, top} {
		l := []tables.Table{{Base: base, Items: []uint64{5, 6}}}
		wantAt(t, l, base, 0, 5, true)
		wantAt(t, l, base, 1, 6, true)
		wantAt(t, l, base, 2, 0, false)
		wantAt(t, l, base+1, 0, 0, false)
		wantAt(t, l, base-1, 0, 0, false)
	}
}

// Of two tables with one base the first one counts, also for what it has not.
func TestAtOfTwoWithOneBase(t *testing.T) {
	l := []tables.Table{
		{Base: 3, Items: []uint64{1}}, {Base: 8, Items: []uint64{10, 11}}, {Base: 8, Wide: true, Items: []uint64{20, 21, 22}},
		{Base: 8, Items: []uint64{30}}, {Base: 9}, {Base: 9, Items: []uint64{40}},
	}
	wantAt(t, l, 8, 0, 10, true)
	wantAt(t, l, 8, 1, 11, true)
	wantAt(t, l, 8, 2, 0, false)
	wantAt(t, l, 9, 0, 0, false)
	wantAt(t, l[2:], 8, 0, 20, true)
	wantAt(t, l[2:], 8, 2, 22, true)
}

// What lies behind a list is not told: neither a table nor an item.
func TestAtLeavesWhatLiesBehind(t *testing.T) {
	items := []uint64{1, 2, 3}
	l := []tables.Table{{Base: 8, Items: items[:1]}, {Base: 28, Items: items[1:]}}
	wantAt(t, l[:1], 8, 0, 1, true)
	wantAt(t, l[:1], 8, 1, 0, false)
	wantAt(t, l[:1], 28, 0, 0, false)
}
