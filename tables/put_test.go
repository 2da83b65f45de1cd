package tables_test

import (
	"fmt"
	"slices"
	"testing"

	"sindri/api"
	"sindri/tables"
)

// P16.2

func TestPut(t *testing.T) {
	for _, s := range sorts() {
		for _, wide := range both {
			s.wantPut(t, "nil", part{wide: wide}, wrap(wide, s.head))
			s.wantPut(t, "no items", part{wide, []uint64{}}, wrap(wide, s.head))
			for _, count := range []int{1, 2, 3, 63, 64, 300, 20000} {
				p := s.table(wide, count)
				s.wantPut(t, fmt.Sprintf("wide %v, %d items", wide, count), p, s.lay(p))
			}
		}
	}
}

// Each section's bytes are written out.
func TestPutOfWrittenBytes(t *testing.T) {
	strs().wantPut(t, "offsets", part{false, []uint64{0x04030201, 255}}, []byte{12, 0, 0, 0, 5, 0, 0, 0, 1, 2, 3, 4, 255, 0, 0, 0})
	strs().wantPut(t, "wide offsets", part{true, []uint64{0x0807060504030201}},
		[]byte{255, 255, 255, 255, 12, 0, 0, 0, 0, 0, 0, 0, 5, 0, 0, 0, 1, 2, 3, 4, 5, 6, 7, 8})
	addrs().wantPut(t, "addresses", part{false, []uint64{0x0807060504030201}}, []byte{12, 0, 0, 0, 5, 0, 8, 0, 1, 2, 3, 4, 5, 6, 7, 8})
	addrs().wantPut(t, "addresses of a wide table", part{true, []uint64{0x0807060504030201}},
		[]byte{255, 255, 255, 255, 12, 0, 0, 0, 0, 0, 0, 0, 5, 0, 8, 0, 1, 2, 3, 4, 5, 6, 7, 8})
}

// places is items among which one stands in each place.
func places(n uint64) [][]uint64 {
	return [][]uint64{{n}, {n, 0}, {0, n}, {1, 2, n, 3}, {1, 2, 3, 4, n}, {n, n}}
}

// An item that fits its bytes is put, in whatever place.
func TestPutOfItemsThatFit(t *testing.T) {
	for _, s := range sorts() {
		for _, wide := range both {
			for _, n := range []uint64{0, 1, 255, 256, 65536, 1 << 31, half - 1, half, half + 1, 1 << 40, 1 << 63, top - 1, top} {
				if n > s.greatest(wide) {
					continue
				}
				for _, items := range places(n) {
					p := part{wide, items}
					s.wantPut(t, fmt.Sprintf("wide %v, %d", wide, n), p, s.lay(p))
				}
			}
		}
	}
}

// An offset of 2 to the 32 or more fits eight bytes alone; each address fits.
func TestPutOfItemsThatDoNot(t *testing.T) {
	for _, n := range []uint64{half + 1, half + 2, 1 << 33, 1 << 40, 1<<63 - 1, 1 << 63, top - 1, top} {
		for _, items := range places(n) {
			strs().wantWrong(t, fmt.Sprint(n), part{false, items})
		}
		strs().wantWrong(t, fmt.Sprintf("%d, behind many", n), part{false, append(run(3000, 4), n)})
		strs().wantWrong(t, fmt.Sprintf("%d, ahead of many", n), part{false, append([]uint64{n}, run(3000, 4)...)})
	}
}

// What lies behind the items is not put, whether it would fit or not.
func TestPutLeavesWhatLiesBehind(t *testing.T) {
	all := []uint64{1, 2, 3, top, top}
	for count := range 4 {
		for _, s := range sorts() {
			p := part{false, slices.Clone(all[:count])}
			if b, e := s.put(false, all[:count]); string(b) != string(s.lay(p)) || e != api.OK {
				t.Errorf("Put%s of %d items = %s, %d", s.name, count, short(b), e)
			}
		}
	}
	if !slices.Equal(all, []uint64{1, 2, 3, top, top}) {
		t.Errorf("items were changed: %v", all)
	}
}

// What is put is one table, and is taken again.
func TestPutIsTaken(t *testing.T) {
	for _, s := range sorts() {
		for _, wide := range both {
			for count := range 20 {
				p := s.table(wide, count)
				b, e := s.put(p.wide, p.items)
				if e != api.OK {
					t.Fatalf("Put%s = %d", s.name, e)
				}
				base := uint64(8)
				if wide {
					base = 16
				}
				s.wantTake(t, "what was put", b, []tables.Table{{Wide: wide, Base: base, Items: p.items}})
			}
		}
	}
}
