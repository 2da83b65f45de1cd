package ops_test

import (
	"bytes"
	"math/big"
	"math/rand"
	"slices"
	"testing"

	"sindri/api"
	"sindri/ops"
)

// P18.5

// pick is one of some.
func pick[T any](r *rand.Rand, l ...T) T { return l[r.Intn(len(l))] }

// some is bytes by chance.
func some(r *rand.Rand, size int) []byte {
	b := make([]byte, size)
	r.Read(b)
	return b
}

// value is a number by chance, often one at an edge.
func value(r *rand.Rand) uint64 {
	n := uint64(1) << r.Intn(64)
	return pick(r, uint64(r.Intn(300)), neg(int64(r.Intn(300))), n, n-1, neg(int64(n)), neg(int64(n))-1, r.Uint64(), r.Uint64()>>r.Intn(64))
}

// The model: what the chapters' words say, by numbers without a greatest one.

// refuse ends a part of the model with an error; refused tells it.
func refuse(e api.Errno) { panic(e) }

func refused(do func()) (e api.Errno) {
	defer func() {
		if x := recover(); x != nil {
			e = x.(api.Errno)
		}
	}()
	do()
	return api.OK
}

// reader is bytes that are read by the words.
type reader struct {
	b  []byte
	at int
}

func (r *reader) bytes(n *big.Int) []byte {
	if n.Cmp(big.NewInt(int64(len(r.b)-r.at))) > 0 {
		refuse(api.ErrShort)
	}
	r.at += int(n.Int64())
	return r.b[r.at-int(n.Int64()) : r.at]
}

func power(n int) *big.Int { return new(big.Int).Lsh(big.NewInt(1), uint(n)) }

// number is one of so many bytes, with a sign or without.
func (r *reader) number(size int, sign bool) *big.Int {
	n := new(big.Int)
	for i, x := range r.bytes(big.NewInt(int64(size))) {
		n.Add(n, new(big.Int).Mul(big.NewInt(int64(x)), power(8*i)))
	}
	if sign && n.Cmp(power(8*size-1)) >= 0 {
		n.Sub(n, power(8*size))
	}
	return n
}

// leb is a U or an S.
func (r *reader) leb(sign bool) *big.Int {
	n := new(big.Int)
	for i := 0; ; i++ {
		x := r.bytes(big.NewInt(1))[0]
		n.Add(n, new(big.Int).Mul(big.NewInt(int64(x%128)), power(7*i)))
		if x >= 128 && i == 9 {
			refuse(api.ErrLeb)
		}
		if x >= 128 {
			continue
		}
		if sign && x >= 64 {
			n.Sub(n, power(7*i+7))
		}
		if !fits(n, 8, sign) {
			refuse(api.ErrLeb)
		}
		return n
	}
}

// fits tells whether a number is one of so many bytes.
func fits(n *big.Int, size int, sign bool) bool {
	if sign {
		return n.Cmp(new(big.Int).Neg(power(8*size-1))) >= 0 && n.Cmp(power(8*size-1)) < 0
	}
	return n.Sign() >= 0 && n.Cmp(power(8*size)) < 0
}

// operand is a number as an operand has it.
func operand(n *big.Int) uint64 {
	return new(big.Int).Mod(n, power(64)).Uint64()
}

// take is an expression by the words of P18.2.
func take(b []byte) (l []api.Op, e api.Errno) {
	e = refused(func() {
		r := reader{b: b}
		begins := map[int]int{}
		goesTo := map[int]int{}
		for r.at < len(b) {
			if len(l) == most {
				refuse(api.ErrBig)
			}
			begins[r.at] = len(l)
			o := api.Op{Code: int(r.number(1, false).Int64())}
			switch shapeOf(o.Code) {
			case 0:
				refuse(api.ErrOp)
			case 2, 3, 7:
				o.A = operand(r.number(sizeOf(o.Code), false))
			case 4:
				o.A = operand(r.number(sizeOf(o.Code), true))
			case 5:
				o.A = operand(r.leb(false))
			case 6:
				o.A = operand(r.leb(true))
			case 8:
				way := int(r.number(2, true).Int64())
				goesTo[len(l)] = r.at + way
			case 9:
				o.A = operand(r.leb(false))
				o.B = operand(r.leb(true))
			case 10:
				o.A = operand(r.leb(false))
				o.B = operand(r.leb(false))
			case 11:
				size := r.leb(false)
				if size.Cmp(big.NewInt(mostBytes)) > 0 {
					refuse(api.ErrBig)
				}
				o.Data = bytes.Clone(r.bytes(size))
			}
			l = append(l, o)
		}
		begins[len(b)] = len(l)
		for i, to := range goesTo {
			place, ok := begins[to]
			if !ok {
				refuse(api.ErrOp)
			}
			l[i].A = uint64(place)
		}
	})
	if e != api.OK {
		return nil, e
	}
	return l, api.OK
}

// one is the bytes of an operation by the words, a jump's with the way 0; none, if it may
// not be.
func one(o api.Op) []byte {
	a, b := new(big.Int).SetUint64(o.A), new(big.Int).SetUint64(o.B)
	below := big.NewInt(int64(o.A))
	shape, size := shapeOf(o.Code), sizeOf(o.Code)
	hasA, hasB, hasData := shape != 1 && shape != 11, shape == 9 || shape == 10, shape == 11
	if shape == 0 || !hasA && a.Sign() != 0 || !hasB && b.Sign() != 0 || !hasData && len(o.Data) > 0 || len(o.Data) > mostBytes {
		return nil
	}
	code := []byte{byte(o.Code)}
	switch shape {
	case 2, 3, 7:
		if fits(a, size, false) {
			return cat(code, fixed(o.A, size))
		}
		return nil
	case 4:
		if fits(below, size, true) {
			return cat(code, fixed(o.A, size))
		}
		return nil
	case 5:
		return cat(code, u(o.A))
	case 6:
		return cat(code, s(int64(o.A)))
	case 8:
		return cat(code, []byte{0, 0})
	case 9:
		return cat(code, u(o.A), s(int64(o.B)))
	case 10:
		return cat(code, u(o.A), u(o.B))
	case 11:
		return cat(code, u(uint64(len(o.Data))), o.Data)
	}
	return code
}

// put is the bytes of operations by the words of P18.3, and whether they may be.
func put(l []api.Op) ([]byte, bool) {
	if len(l) > most {
		return nil, false
	}
	var parts [][]byte
	begin := func(place int) int { return len(cat(parts[:place]...)) }
	for _, o := range l {
		b := one(o)
		if b == nil {
			return nil, false
		}
		parts = append(parts, b)
	}
	for i, o := range l {
		if shapeOf(o.Code) != 8 {
			continue
		}
		if o.A > uint64(len(l)) {
			return nil, false
		}
		way := begin(int(o.A)) - begin(i) - 3
		if !fits(big.NewInt(int64(way)), 2, true) {
			return nil, false
		}
		parts[i] = jump(byte(o.Code), way)
	}
	return cat(parts...), true
}

// resolve is operations by the words of P18.4.
func resolve(l []api.Op, items []uint64) (answer []api.Op, e api.Errno) {
	codes := map[int]int{161: 3, 162: 14}
	e = refused(func() {
		for _, o := range l {
			if o.Code == 163 {
				look(o.Data)
			}
			if code, ok := codes[o.Code]; ok {
				if o.A > uint64(len(items)) || len(items) == int(o.A) {
					refuse(api.ErrOp)
				}
				o = api.Op{Code: code, A: items[o.A]}
			}
			answer = append(answer, o)
		}
	})
	if e != api.OK {
		return nil, e
	}
	return answer, api.OK
}

// look refuses the Data of a 163 that may not be, and of those in it.
func look(b []byte) {
	l, e := take(b)
	for _, o := range l {
		if o.Code == 163 {
			look(o.Data)
		}
		if o.Code == 161 || o.Code == 162 {
			refuse(api.ErrOp)
		}
	}
	if e != api.OK {
		refuse(api.ErrOp)
	}
}

// operation is one by chance, among so many, that may be, but for a jump's way.
func operation(r *rand.Rand, count, deep int) api.Op {
	o := api.Op{Code: pick(r, codes(1+r.Intn(len(rows)))...)}
	size := uint(sizeOf(o.Code))
	switch shapeOf(o.Code) {
	case 2, 3, 7:
		o.A = value(r) << (64 - 8*size) >> (64 - 8*size)
	case 4:
		o.A = uint64(int64(value(r)<<(64-8*size)) >> (64 - 8*size))
	case 5, 6:
		o.A = pick(r, value(r), uint64(r.Intn(4)))
	case 8:
		o.A = uint64(r.Intn(count + 1))
	case 9, 10:
		o.A, o.B = value(r), value(r)
	case 11:
		o.Data = some(r, pick(r, 0, 1, r.Intn(10), r.Intn(300)))
		if deep > 0 && r.Intn(4) > 0 {
			o.Data, _ = put(expression(r, r.Intn(5), deep-1))
		}
		if r.Intn(60) == 0 {
			o.Data = some(r, pick(r, r.Intn(20000), 32760+r.Intn(10), mostBytes-r.Intn(3)))
		}
	}
	return o
}

// expression is so many operations by chance.
func expression(r *rand.Rand, count, deep int) []api.Op {
	var l []api.Op
	for range count {
		l = append(l, operation(r, count, deep))
	}
	return l
}

// spoil makes one operation another one, that often may not be.
func spoil(r *rand.Rand, l []api.Op) {
	if len(l) == 0 {
		return
	}
	o := &l[r.Intn(len(l))]
	switch r.Intn(5) {
	case 0:
		o.Code = pick(r, r.Intn(256), -1, 256, 300, o.Code+256, r.Intn(20))
	case 1:
		o.A = value(r)
	case 2:
		o.B = value(r)
	case 3:
		o.Data = some(r, pick(r, 0, 1, 5, mostBytes, mostBytes+1))
	case 4:
		o.A++
	}
}

// mar makes bytes others: some of them, fewer, or more.
func mar(r *rand.Rand, b []byte) []byte {
	b = bytes.Clone(b)
	at := r.Intn(len(b) + 1)
	switch r.Intn(6) {
	case 0:
		return b[:at]
	case 1:
		return cat(b[:at], some(r, 1+r.Intn(4)), b[at:])
	case 2:
		return cat(b[:at], pick(r, tooLong(), bytes.Repeat([]byte{255}, 9), []byte{0x80}, []byte{0}, []byte{150}), b[at:])
	case 3:
		if at < len(b) {
			b[at] = byte(r.Intn(256))
		}
	case 4:
		if at < len(b) {
			b[at] += byte(r.Intn(5)) - 2
		}
	case 5:
		return cat(b[:at], b[min(len(b), at+1+r.Intn(3)):])
	}
	return b
}

func TestTakeByTheWords(t *testing.T) {
	r := rand.New(rand.NewSource(181))
	met := map[api.Errno]int{}
	for range 15000 {
		count := pick(r, r.Intn(4), r.Intn(12), 55+r.Intn(8))
		if count > 12 && r.Intn(4) > 0 {
			count = 3
		}
		var b []byte
		for _, o := range expression(r, count, 0) {
			b = append(b, one(o)...)
		}
		if l := expression(r, count, 0); r.Intn(2) == 0 {
			b, _ = put(l)
		}
		for range r.Intn(3) {
			b = mar(r, b)
		}
		if r.Intn(20) == 0 {
			b = some(r, r.Intn(10))
		}
		want, e := take(b)
		met[e]++
		if e == api.OK {
			wantTake(t, "by the words", b, want)
		} else {
			wantRefused(t, "by the words", b, e)
		}
	}
	for _, e := range []api.Errno{api.OK, api.ErrBig, api.ErrOp, api.ErrShort, api.ErrLeb} {
		if met[e] < 100 {
			t.Errorf("the error %d was met %d times", e, met[e])
		}
	}
}

func TestPutByTheWords(t *testing.T) {
	r := rand.New(rand.NewSource(182))
	met := map[bool]int{}
	for range 15000 {
		count := pick(r, r.Intn(4), r.Intn(12), 55+r.Intn(8))
		if count > 12 && r.Intn(4) > 0 {
			count = 3
		}
		l := expression(r, count, 1)
		for range r.Intn(3) {
			spoil(r, l)
		}
		b, ok := put(l)
		met[ok]++
		if !ok {
			wantWrong(t, "by the words", l)
			continue
		}
		wantBoth(t, "by the words", l, b)
	}
	if met[true] < 3000 || met[false] < 3000 {
		t.Errorf("met %v", met)
	}
}

// What is taken may be put, in no more bytes, and is taken as it was.
func TestWhatIsTakenMayBePut(t *testing.T) {
	r := rand.New(rand.NewSource(183))
	met := 0
	for range 15000 {
		var b []byte
		for range r.Intn(8) {
			p := one(operation(r, 8, 0))
			if x := shapeOf(int(p[0])); x == 5 && r.Intn(2) == 0 {
				p = cat(p[:1], long(p[1:], 10))
			} else if x == 8 {
				p = jump(p[0], r.Intn(40)-20)
			}
			b = append(b, p...)
		}
		l, e := ops.Take(b)
		if e != api.OK {
			continue
		}
		met++
		again, e := ops.Put(l)
		if e != api.OK || len(again) > len(b) || !ops.Right(l) {
			t.Errorf("Put(%s) = %s, %d, of %s", show(l), short(again), e, short(b))
			continue
		}
		wantBoth(t, "taken", l, again)
	}
	if met < 5000 {
		t.Errorf("%d were taken", met)
	}
}

func TestResolveByTheWords(t *testing.T) {
	r := rand.New(rand.NewSource(184))
	met := map[api.Errno]int{}
	for range 15000 {
		l := expression(r, r.Intn(8), 3)
		for range r.Intn(2) {
			spoil(r, l)
		}
		var items []uint64
		for range r.Intn(6) {
			items = append(items, value(r))
		}
		want, e := resolve(l, items)
		met[e]++
		if e == api.OK {
			wantResolve(t, "by the words", l, items, want)
		} else {
			wantUnresolved(t, "by the words", l, items)
		}
	}
	if met[api.OK] < 3000 || met[api.ErrOp] < 1000 {
		t.Errorf("met %v", met)
	}
}

func TestSameByTheWords(t *testing.T) {
	r := rand.New(rand.NewSource(185))
	for range 5000 {
		l := expression(r, r.Intn(5), 0)
		x := slices.Clone(l)
		for range r.Intn(2) {
			spoil(r, x)
		}
		wantSame(t, "by the words", l, x, same(l, x))
	}
}

// Jumps go to the same operations when those between become longer, and their bytes are put
// and taken.
func TestJumpsStay(t *testing.T) {
	r := rand.New(rand.NewSource(186))
	for range 3000 {
		count := 1 + r.Intn(10)
		var l []api.Op
		for range count {
			l = append(l, pick(r, api.Op{Code: 161, A: uint64(r.Intn(3))}, api.Op{Code: 162, A: uint64(r.Intn(3))}, api.Op{Code: 40, A: uint64(r.Intn(count + 1))}, api.Op{Code: 150}))
		}
		b, ok := put(l)
		if !ok {
			t.Fatalf("%s may not be", show(l))
		}
		wantBoth(t, "ahead", l, b)
		got, e := ops.Resolve(l, []uint64{value(r), value(r), value(r)})
		if e != api.OK {
			t.Fatalf("Resolve(%s) = %d", show(l), e)
		}
		for i, o := range l {
			if o.Code == 40 && got[i].A != o.A {
				t.Errorf("a jump goes to %d, %d ahead", got[i].A, o.A)
			}
		}
		longer, _ := put(got)
		wantBoth(t, "resolved", got, longer)
	}
	// A way that fits, and does not any more.
	l := []api.Op{{Code: 40, A: 3}, {Code: 161}, data(32760).o}
	wantPut(t, "a long way", l, cat(jump(40, 2+32764), []byte{161, 0}, data(32760).b))
	got, _ := ops.Resolve(l, []uint64{1})
	wantWrong(t, "a way that is too long", got)
}
