package raw_test

import (
	"bytes"
	"fmt"
	"math/big"
	"math/rand"
	"strings"
	"testing"

	"sindri/api"
	"sindri/cursor"
	"sindri/raw"
)

// P14.5

// pick is one of some.
func pick[T any](r *rand.Rand, l ...T) T { return l[r.Intn(len(l))] }

// some is bytes by chance.
func some(r *rand.Rand, size int) []byte {
	b := make([]byte, size)
	r.Read(b)
	return b
}

// chance is a value of a row that may be.
func chance(r *rand.Rand, w row, wide bool) api.Raw {
	x := api.Raw{Form: w.form}
	switch w.what {
	case number, numberU, numberO:
		x.U = pick(r, r.Uint64(), r.Uint64()>>r.Intn(64), uint64(r.Intn(300)), top) & w.greatest(wide)
	case sized, sizedU:
		x.B = some(r, int(min(w.greatest(wide), pick(r, 0, 1, 255, 256, uint64(r.Intn(100)), uint64(r.Intn(100)), uint64(r.Intn(100)), uint64(r.Intn(65537))))))
	case plain:
		x.B = some(r, 16)
	case signed, pair:
		x.S = pick(r, int64(r.Uint64()), int64(r.Uint64())>>r.Intn(64), int64(r.Intn(300)-150))
	case text:
		x.Text = strings.ReplaceAll(string(some(r, pick(r, 0, 1, 5, 199, 200, r.Intn(201)))), "\x00", "z")
	case always:
		x.U = 1
	}
	return x
}

// What is put is taken as it was, by the pair of its form and by form 22 ahead of it.
func TestWhatIsPutIsTaken(t *testing.T) {
	r := rand.New(rand.NewSource(14))
	for range 300 {
		for _, w := range table() {
			wide := r.Intn(2) == 0
			x := chance(r, w, wide)
			ahead, behind := some(r, r.Intn(5)), some(r, r.Intn(5))
			if w.form != implicit && r.Intn(2) == 0 {
				ahead = cat(ahead, u(uint64(w.form)))
				wantBack(t, x, api.Spec{At: 3, Form: indirect}, wide, ahead, behind, len(ahead)-1)
			} else {
				wantBack(t, x, of(x), wide, ahead, behind, len(ahead))
			}
		}
	}
}

// wantBack puts a value between some bytes, and looks that it is taken from some place
// on as it was.
func wantBack(t *testing.T, x api.Raw, p api.Spec, wide bool, ahead, behind []byte, from int) {
	t.Helper()
	if !raw.Right(x, wide) {
		t.Fatalf("wide %v: Right = false of %s", wide, show(x))
	}
	b, e := raw.Put(bytes.Clone(ahead), x, wide)
	if e != api.OK || !bytes.HasPrefix(b, ahead) {
		t.Fatalf("wide %v: Put = %.40x, %d, of %s", wide, b, e, show(x))
	}
	c := cursor.New(cat(b, behind))
	c.Seek(uint64(from))
	got := raw.Take(c, p, wide)
	if !same(got, x) || !raw.Same(got, x) || c.Err() != api.OK || c.At() != len(b) || !bytes.Equal(c.Bytes(uint64(len(behind))), behind) {
		t.Fatalf("wide %v: Take = %s, %d, and the cursor stands at %d of %d, of %s", wide, show(got), c.Err(), c.At(), len(b), show(x))
	}
	if again, e := raw.Put(nil, got, wide); e != api.OK || !bytes.Equal(again, b[len(ahead):]) {
		t.Fatalf("wide %v: Put, of what is taken, = %.40x, %d, of %s", wide, again, e, show(x))
	}
}

// reader reads a value by the chapter's words, and panics with what is refused.
type reader struct {
	b  []byte
	at int
}

// refuse panics with an error if something is so.
func refuse(so bool, e api.Errno) {
	if so {
		panic(e)
	}
}

func (r *reader) bytes(n int) []byte {
	refuse(n > len(r.b)-r.at, api.ErrShort)
	r.at += n
	return r.b[r.at-n : r.at]
}

func (r *reader) fixed(size int) uint64 {
	n := new(big.Int)
	for i, v := range r.bytes(size) {
		n.Add(n, new(big.Int).Lsh(big.NewInt(int64(v)), uint(8*i)))
	}
	return n.Uint64()
}

// leb reads a number of 7-bit bytes, whatever it is, and tells how many bits it has.
func (r *reader) leb() (n *big.Int, width uint) {
	n = new(big.Int)
	for range 10 {
		v := r.bytes(1)[0]
		n.Add(n, new(big.Int).Lsh(big.NewInt(int64(v%128)), width))
		width += 7
		if v < 128 {
			return n, width
		}
	}
	panic(api.ErrLeb)
}

func (r *reader) unsigned() uint64 {
	n, _ := r.leb()
	refuse(!n.IsUint64(), api.ErrLeb)
	return n.Uint64()
}

func (r *reader) signed() int64 {
	n, width := r.leb()
	if n.Bit(int(width)-1) == 1 {
		n.Sub(n, new(big.Int).Lsh(big.NewInt(1), width))
	}
	refuse(!n.IsInt64(), api.ErrLeb)
	return n.Int64()
}

func (r *reader) text() string {
	n := bytes.IndexByte(r.b[r.at:], 0)
	refuse(n < 0, api.ErrText)
	refuse(n > longest, api.ErrBig)
	return string(r.bytes(n + 1)[:n])
}

func (r *reader) sized(n uint64) []byte {
	refuse(n > 65536, api.ErrBig)
	return r.bytes(int(n))
}

func (r *reader) value(p api.Spec, wide bool) api.Raw {
	form := p.Form
	if form == indirect {
		n := r.unsigned()
		refuse(n == indirect || n == implicit || n > 44, api.ErrForm)
		form = int(n)
	}
	for _, w := range table() {
		if w.form != form {
			continue
		}
		x := api.Raw{Form: form}
		switch w.what {
		case number, numberO:
			x.U = r.fixed(w.bytes(wide))
		case numberU:
			x.U = r.unsigned()
		case sized:
			x.B = r.sized(r.fixed(w.size))
		case sizedU:
			x.B = r.sized(r.unsigned())
		case plain:
			x.B = r.bytes(16)
		case signed:
			x.S = r.signed()
		case pair:
			x.S = p.Implicit
		case text:
			x.Text = r.text()
		case always:
			x.U = 1
		}
		return x
	}
	panic(api.ErrForm)
}

// read is what bytes tell by the chapter's words, how many they are, and what is refused.
func read(b []byte, p api.Spec, wide bool) (x api.Raw, size int, e api.Errno) {
	r := &reader{b: b}
	defer func() {
		if v := recover(); v != nil {
			x, size, e = api.Raw{}, r.at, v.(api.Errno)
		}
	}()
	x = r.value(p, wide)
	return x, r.at, api.OK
}

// noisy is bytes by chance, of which many are great, or like forms.
func noisy(r *rand.Rand) []byte {
	b := make([]byte, pick(r, r.Intn(4), r.Intn(12), r.Intn(24), r.Intn(400)))
	high := pick(r, 0, 2, 3, 10)
	for i := range b {
		b[i] = pick(r, 0, 1, 2, byte(r.Intn(45)), byte(r.Intn(45)), 127, 128, byte(r.Intn(256)))
		if r.Intn(10) < high {
			b[i] |= 128
		}
	}
	if r.Intn(3) == 0 {
		b = bytes.ReplaceAll(b, []byte{0}, []byte{9})
	}
	return b
}

// Of bytes of all kinds each answer is that of the chapter's words.
func TestTakeByTheWords(t *testing.T) {
	r := rand.New(rand.NewSource(141))
	told := map[api.Errno]int{}
	for range 60000 {
		b := noisy(r)
		p := api.Spec{At: r.Intn(200), Form: pick(r, r.Intn(47), r.Intn(47), indirect, 8, 4, 9), Implicit: int64(r.Uint64())}
		wide := r.Intn(2) == 0
		want, size, e := read(b, p, wide)
		told[e]++
		c := cursor.New(b)
		x := raw.Take(c, p, wide)
		if !same(x, want) || c.Err() != e || e == api.OK && c.At() != size {
			t.Fatalf("%+v of %x, wide %v: Take = %s, %d at %d, want %s, %d at %d", p, b, wide, show(x), c.Err(), c.At(), show(want), e, size)
		}
		if e == api.OK {
			wantBack(t, x, of(x), wide, nil, []byte{1, 2}, 0)
		}
	}
	for _, e := range []api.Errno{api.OK, api.ErrShort, api.ErrLeb, api.ErrText, api.ErrForm, api.ErrBig} {
		if told[e] < 500 {
			t.Errorf("told so often: %v", told)
		}
	}
}

// may tells whether a value may be, by the chapter's words, and its row.
func may(x api.Raw, wide bool) (row, bool) {
	for _, w := range table() {
		if w.form != x.Form {
			continue
		}
		n := uint64(len(x.B))
		noU, noS, noB, noText := x.U == 0, x.S == 0, n == 0, x.Text == ""
		switch w.what {
		case number, numberU, numberO:
			return w, noS && noB && noText && x.U <= w.greatest(wide)
		case sized, sizedU:
			return w, noU && noS && noText && n <= 65536 && n <= w.greatest(wide)
		case plain:
			return w, noU && noS && noText && n == 16
		case signed, pair:
			return w, noU && noB && noText
		case text:
			return w, noU && noS && noB && len(x.Text) <= longest && !strings.Contains(x.Text, "\x00")
		case always:
			return w, x.U == 1 && noS && noB && noText
		}
	}
	return row{}, false
}

// spoil changes something of a value, which may be or not then.
func spoil(r *rand.Rand, x *api.Raw) {
	switch r.Intn(6) {
	case 0:
		x.Form = pick(r, r.Intn(47), x.Form+1, x.Form-1, -x.Form, x.Form+256)
	case 1:
		x.U = pick(r, 0, 1, 255, 256, 65535, 65536, 1<<24-1, 1<<24, 1<<32-1, 1<<32, top, r.Uint64())
	case 2:
		x.S = pick(r, 0, 1, -1, int64(r.Uint64()))
	case 3:
		x.B = some(r, pick(r, 0, 1, 15, 16, 17, 255, 256))
	case 4:
		x.B = some(r, pick(r, 0, 1, 65535, 65536, 65537))
	case 5:
		x.Text = pick(r, "", "a", "\x00", strings.Repeat("x", 200), strings.Repeat("x", 201), "a\x00")
	}
}

// Of values of all kinds Right and Put answer by the chapter's words.
func TestRightByTheWords(t *testing.T) {
	r := rand.New(rand.NewSource(1414))
	told := map[bool]int{}
	for range 8000 {
		wide := r.Intn(2) == 0
		x := chance(r, pick(r, table()...), wide)
		for range r.Intn(3) {
			spoil(r, &x)
		}
		wide = r.Intn(2) == 0
		w, ok := may(x, wide)
		told[ok]++
		what := fmt.Sprintf("by chance, %s", show(x))
		if ok {
			wantPut(t, what, roomy(x), wide, lay(w, x, wide))
		} else {
			wantWrong(t, what, roomy(x), wide)
		}
	}
	if told[true] < 1000 || told[false] < 1000 {
		t.Errorf("told so often: %v", told)
	}
}
