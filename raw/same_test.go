package raw_test

import (
	"bytes"
	"math"
	"strings"
	"testing"

	"sindri/api"
	"sindri/raw"
)

// P14.4

// wantSame looks at what Same tells of two values, whichever is the first.
func wantSame(t *testing.T, a, b api.Raw, want bool) {
	t.Helper()
	if raw.Same(a, b) != want || raw.Same(b, a) != want {
		t.Errorf("Same(%s, %s) = %v, %v, want %v", show(a), show(b), raw.Same(a, b), raw.Same(b, a), want)
	}
}

// full is a value that has all that there is.
func full() api.Raw {
	return api.Raw{Form: 11, U: 5, S: -3, B: []byte{1, 2, 3}, Text: "abc"}
}

func TestSame(t *testing.T) {
	for _, w := range table() {
		for _, wide := range both {
			for i, a := range values(w, wide) {
				for j, b := range values(w, wide) {
					wantSame(t, a, b, i == j)
				}
			}
		}
	}
	wantSame(t, full(), full(), true)
	wantSame(t, api.Raw{}, api.Raw{}, true)
	wantSame(t, api.Raw{}, full(), false)
}

func TestSameOfOneDifference(t *testing.T) {
	for _, x := range []api.Raw{{}, full(), {Form: 15, U: 9}, {Form: 13, S: -9}, {Form: 9, B: []byte{1, 2, 3}}, {Form: 8, Text: "abc"}, {Form: 25, U: 1}} {
		var l []api.Raw
		for _, n := range []int{1, -1, 1 << 8, 1 << 16, 1 << 32, math.MinInt} {
			y := x
			y.Form += n
			l = append(l, y)
		}
		for _, n := range []uint64{1, 2, 1 << 8, 1 << 16, 1 << 31, 1 << 32, 1 << 63} {
			y := x
			y.U ^= n
			z := x
			z.S ^= int64(n)
			l = append(l, y, z)
		}
		for _, b := range [][]byte{{0}, {1}, {1, 2}, {1, 2, 3, 0}, {1, 2, 4}, {0, 2, 3}, {1, 3, 3}, {3, 2, 1}, block(16), block(mostBytes + 1)} {
			y := x
			y.B = b
			l = append(l, y)
		}
		for _, text := range []string{"\x00", "a", "ab", "abd", "bbc", "acc", "abc\x00", "abc ", "ABC", "cba", strings.Repeat("x", 300)} {
			y := x
			y.Text = text
			l = append(l, y)
		}
		wantSame(t, x, x, true)
		for _, y := range l {
			wantSame(t, x, y, false)
		}
	}
	// What has gone from one part into another one is another value.
	wantSame(t, api.Raw{Form: 8, Text: "a"}, api.Raw{Form: 8, B: []byte("a")}, false)
	wantSame(t, api.Raw{Form: 11, U: 7}, api.Raw{Form: 11, S: 7}, false)
	wantSame(t, api.Raw{Form: 11}, api.Raw{U: 11}, false)
	// A number in another form is another value.
	wantSame(t, api.Raw{Form: 11, U: 7}, api.Raw{Form: 15, U: 7}, false)
	wantSame(t, api.Raw{Form: 12, U: 1}, api.Raw{Form: 25, U: 1}, false)
	wantSame(t, api.Raw{Form: 12, U: 1}, api.Raw{Form: 12, U: 2}, false)
	wantSame(t, api.Raw{Form: 13, S: 1}, api.Raw{Form: 33, S: 1}, false)
}

// Bytes are looked at, wherever they are kept, and not the room behind them.
func TestSameOfBytes(t *testing.T) {
	a, b := full(), full()
	a.B, b.B = append(make([]byte, 0, 9), 1, 2, 3), []byte{1, 2, 3, 4, 5}[:3]
	wantSame(t, a, b, true)
	room := []byte{1, 2, 3, 4, 5}
	a.B, b.B = room[:3], room[:4]
	wantSame(t, a, b, false)
	a.B, b.B = room[:3], room[1:4]
	wantSame(t, a, b, false)
	if !bytes.Equal(room, []byte{1, 2, 3, 4, 5}) {
		t.Errorf("the bytes are %x", room)
	}
	for _, x := range [][]byte{nil, {}, make([]byte, 0, 9), room[:0], room[5:]} {
		for _, y := range [][]byte{nil, {}, make([]byte, 0, 9), room[:0], room[5:]} {
			wantSame(t, api.Raw{Form: 9, B: x}, api.Raw{Form: 9, B: y}, true)
		}
		wantSame(t, api.Raw{Form: 9, B: x}, api.Raw{Form: 9, B: []byte{0}}, false)
	}
}
