package unit_test

import (
	"slices"
	"testing"

	"sindri/unit"
)

// P15.3

// wantOf looks at what Of tells, and that it leaves the heads, and what is behind them.
func wantOf(t *testing.T, l []unit.Head, off uint64, want int) {
	t.Helper()
	given := append(make([]unit.Head, 0, len(l)+2), l...)
	behind := unit.Head{Kind: compile, Off: 0, First: 0, End: top}
	room := append(given, behind, behind)
	before := slices.Clone(room)
	if got := unit.Of(given, off); got != want {
		t.Errorf("Of(%s, %d) = %d, want %d", show(l), off, got, want)
	}
	if !slices.Equal(room, before) {
		t.Errorf("Of(%s, %d) changed the heads", show(l), off)
	}
}

func TestOf(t *testing.T) {
	_, l := layAll(mixed()...)
	for i, h := range l {
		for off := h.Off; off < h.First; off++ {
			wantOf(t, l, off, -1)
		}
		for off := h.First; off < h.End; off++ {
			wantOf(t, l, off, i)
		}
	}
	for _, off := range []uint64{l[len(l)-1].End, l[len(l)-1].End + 1, half, half + 1, 1 << 63, top - 1, top} {
		wantOf(t, l, off, -1)
	}
	if l[0].First != l[0].End || l[len(l)-1].First == l[len(l)-1].End {
		t.Errorf("of the first unit there are entries, or of the last one none: %s", show(l))
	}
}

// The places are written out, so that nothing of All is leant on.
func TestOfAtTheEdges(t *testing.T) {
	l := []unit.Head{
		{Kind: compile, Off: 0, First: 12, End: 15},
		{Kind: partial, Off: 15, First: 27, End: 27},
		{Kind: typed, Off: 27, First: 51, End: 52},
	}
	for off, want := range map[uint64]int{0: -1, 11: -1, 12: 0, 13: 0, 14: 0, 15: -1, 16: -1, 26: -1, 27: -1, 28: -1, 50: -1, 51: 2, 52: -1, 53: -1, top: -1} {
		wantOf(t, l, off, want)
	}
	wantOf(t, l[1:2], 27, -1)
	wantOf(t, l[:1], 51, -1)
	wantOf(t, l[2:], 51, 0)
}

func TestOfNoHeads(t *testing.T) {
	for _, off := range []uint64{0, 1, 12, top} {
		wantOf(t, nil, off, -1)
		wantOf(t, []unit.Head{}, off, -1)
	}
}

// Whatever heads come in, Of ends, and tells the first one.
func TestOfOtherHeads(t *testing.T) {
	wantOf(t, []unit.Head{{First: top - 2, End: top}}, top-1, 0)
	wantOf(t, []unit.Head{{First: top - 2, End: top}}, top, -1)
	wantOf(t, []unit.Head{{First: 0, End: top}}, 0, 0)
	wantOf(t, []unit.Head{{First: 20, End: 10}}, 15, -1)
	wantOf(t, []unit.Head{{First: 20, End: 10}, {First: 12, End: 18}, {First: 10, End: 20}}, 15, 1)
	wantOf(t, make([]unit.Head, 70), 0, -1)
}
