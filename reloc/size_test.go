package reloc_test

import (
	"testing"

	"sindri/reloc"
)

// pair is a machine and a type of its relocations.
type pair struct{ machine, kind int }

// sizes are all types that have a size, by the chapter's words.
func sizes() map[pair]int {
	return map[pair]int{{62, 1}: 8, {62, 10}: 4, {62, 11}: 4, {183, 257}: 8, {183, 258}: 4}
}

// P12.1

func TestSizeOfFive(t *testing.T) {
	for p, want := range sizes() {
		if n := reloc.Size(p.machine, p.kind); n != want {
			t.Errorf("Size(%d, %d) = %d, want %d", p.machine, p.kind, n, want)
		}
	}
}

func TestSizeOfOthers(t *testing.T) {
	for _, p := range []pair{
		{62, 0}, {62, 2}, {62, 9}, {62, 12}, {62, -1}, {62, -10}, {62, 257}, {62, 258},
		{183, 256}, {183, 259}, {183, 0}, {183, -1}, {183, -257}, {183, 1}, {183, 10}, {183, 11},
		{0, 1}, {0, 10}, {0, 11}, {0, 257}, {0, 258}, {0, 0}, {3, 1}, {61, 1}, {63, 10}, {182, 257}, {184, 258},
		{-62, 1}, {-183, 257}, {-1, 10},
		{62, 1<<32 + 1}, {62, 1<<32 + 10}, {62, 1<<8 + 10}, {62, 1<<16 + 1}, {183, 1<<32 + 257}, {183, 1<<16 + 258},
		{1<<32 + 62, 1}, {1<<16 + 62, 10}, {1<<8 + 62, 11}, {1<<32 + 183, 257}, {1<<16 + 183, 258},
		{most, most}, {least, least}, {62, most}, {62, least}, {183, most}, {183, least}, {most, 1}, {least, 257},
	} {
		if n := reloc.Size(p.machine, p.kind); n != 0 {
			t.Errorf("Size(%d, %d) = %d, want 0", p.machine, p.kind, n)
		}
	}
}

func TestSizeOfAllNear(t *testing.T) {
	all := sizes()
	for machine := -200; machine <= 400; machine++ {
		for kind := -300; kind <= 1200; kind++ {
			if n := reloc.Size(machine, kind); n != all[pair{machine, kind}] {
				t.Fatalf("Size(%d, %d) = %d, want %d", machine, kind, n, all[pair{machine, kind}])
			}
		}
	}
}
