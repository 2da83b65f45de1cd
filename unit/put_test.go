package unit_test

import (
	"bytes"
	"fmt"
	"math"
	"testing"

	"sindri/unit"
)

// P15.2

// noKinds is numbers that are no kind.
var noKinds = []int{0, -1, -2, -3, 4, 5, 8, 255, 256, 257, 258, 259, 1<<32 + 1, 1<<32 + 2, -255, -254, math.MaxInt, math.MinInt, math.MinInt + 1}

func TestSize(t *testing.T) {
	for kind, want := range map[int][2]int{compile: {12, 24}, typed: {24, 40}, partial: {12, 24}} {
		for i, wide := range both {
			if n := unit.Size(kind, wide); n != want[i] {
				t.Errorf("Size(%d, %v) = %d, want %d", kind, wide, n, want[i])
			}
		}
	}
	for _, kind := range noKinds {
		for _, wide := range both {
			if n := unit.Size(kind, wide); n != 0 {
				t.Errorf("Size(%d, %v) = %d", kind, wide, n)
			}
		}
	}
}

func TestPut(t *testing.T) {
	for _, kind := range kinds {
		for _, wide := range both {
			for _, body := range [][]byte{nil, {}, {0}, {1, 2, 3, 0}, bytes.Repeat([]byte{200}, 300), make([]byte, 65536), make([]byte, 100000)} {
				p := plain(kind, wide, body...)
				wantPut(t, fmt.Sprintf("kind %d, wide %v", kind, wide), p.h, body, lay(p))
				if n := len(lay(p)) - len(body); n != unit.Size(kind, wide) {
					t.Errorf("kind %d, wide %v: %d bytes stand ahead, Size tells %d", kind, wide, n, unit.Size(kind, wide))
				}
			}
		}
	}
}

func TestPutOfNoKind(t *testing.T) {
	for _, kind := range noKinds {
		for _, wide := range both {
			wantWrong(t, "no kind", unit.Head{Kind: kind, Wide: wide})
			wantWrong(t, "no kind", unit.Head{Kind: kind, Wide: wide, Abbrev: 1, Sig: 2, Type: 3, Off: 4, First: 5, End: 6})
		}
	}
}

func TestPutOfOffsets(t *testing.T) {
	for _, kind := range kinds {
		for _, n := range []uint64{0, 1, 255, 256, 1 << 16, 1 << 24, 1 << 31, half - 1, half} {
			for _, wide := range both {
				p := plain(kind, wide, 7)
				p.h.Abbrev = n
				wantPut(t, fmt.Sprintf("wide %v, Abbrev %d", wide, n), p.h, p.body, lay(p))
			}
		}
		for _, n := range []uint64{half + 1, half + 2, 1 << 33, 1 << 40, 1 << 63, top - 1, top} {
			p := plain(kind, true, 7)
			p.h.Abbrev = n
			wantPut(t, fmt.Sprintf("wide, Abbrev %d", n), p.h, p.body, lay(p))
			p.h.Wide = false
			wantWrong(t, fmt.Sprintf("Abbrev %d", n), p.h)
		}
	}
}

func TestPutOfTypes(t *testing.T) {
	for _, n := range []uint64{0, 1, 255, 1 << 31, half - 1, half} {
		for _, wide := range both {
			p := plain(typed, wide)
			p.h.Type = n
			wantPut(t, fmt.Sprintf("wide %v, Type %d", wide, n), p.h, nil, lay(p))
		}
	}
	for _, n := range []uint64{half + 1, half + 2, 1 << 33, 1 << 63, top} {
		p := plain(typed, true)
		p.h.Type = n
		wantPut(t, fmt.Sprintf("wide, Type %d", n), p.h, nil, lay(p))
		p.h.Wide = false
		wantWrong(t, fmt.Sprintf("Type %d", n), p.h)
		p.h.Abbrev = n
		wantWrong(t, fmt.Sprintf("Type and Abbrev %d", n), p.h)
	}
	for _, n := range []uint64{0, 1, half, half + 1, 1 << 63, top} {
		for _, wide := range both {
			p := plain(typed, wide, 1)
			p.h.Sig = n
			wantPut(t, fmt.Sprintf("wide %v, Sig %d", wide, n), p.h, p.body, lay(p))
		}
	}
}

// What is no type unit has neither a signature nor a type.
func TestPutOfTypesWhereNoneMayBe(t *testing.T) {
	for _, kind := range []int{compile, partial} {
		for _, wide := range both {
			for _, n := range []uint64{1, 2, 256, half, half + 1, 1 << 63, top} {
				for _, h := range []unit.Head{{Sig: n}, {Type: n}, {Sig: n, Type: n}, {Abbrev: 5, Sig: n}, {Abbrev: 5, Type: n}} {
					h.Kind, h.Wide = kind, wide
					wantWrong(t, "what is no type unit", h)
				}
			}
		}
	}
}
