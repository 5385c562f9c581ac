package coder_test

import (
	"bytes"
	"math"
	"math/big"
	"math/rand"
	"slices"
	"testing"

	"gypsum/api"
	"gypsum/coder"
	"gypsum/table"
)

// most is the greatest total of a table.
const most = 65536

// mustTable returns the table with these counts, which are right.
func mustTable(t *testing.T, counts ...int) *table.Table {
	t.Helper()
	x, e := table.New(counts...)
	if e != api.OK {
		t.Fatalf("table.New(%v): %v", counts, e)
	}
	return x
}

// power returns 2^n.
func power(n int) *big.Int {
	return new(big.Int).Lsh(big.NewInt(1), uint(n))
}

// An interval is the document's, with integers of any size.
type interval struct {
	k         int
	low, size *big.Int
}

// start returns the interval of the empty sequence.
func start() interval {
	return interval{0, new(big.Int), power(32)}
}

// with returns the interval after a symbol has been added, told from the
// document.
func (v interval) with(x *table.Table, sym int) interval {
	n, c, f := int64(x.Total()), int64(x.Low(sym)), int64(x.Count(sym))
	r := new(big.Int).Quo(v.size, big.NewInt(n))
	cr := new(big.Int).Mul(big.NewInt(c), r)
	low := new(big.Int).Add(v.low, cr)
	size := new(big.Int).Mul(big.NewInt(f), r)
	if c+f == n {
		size.Sub(v.size, cr)
	}
	k := v.k
	for size.Cmp(power(24)) < 0 {
		k++
		low.Lsh(low, 8)
		size.Lsh(size, 8)
	}
	return interval{k, low, size}
}

// after returns the interval of these symbols of one table.
func after(x *table.Table, syms ...int) interval {
	v := start()
	for _, sym := range syms {
		v = v.with(x, sym)
	}
	return v
}

// code returns the code of the interval: each length is tried in turn.
func (v interval) code() []byte {
	end := new(big.Int).Add(v.low, v.size)
	for m := 0; ; m++ {
		unit := power(32 + 8*v.k - 8*m)
		up := new(big.Int).Add(v.low, unit)
		up.Sub(up, big.NewInt(1)).Quo(up, unit)
		if new(big.Int).Mul(up, unit).Cmp(end) < 0 {
			return up.FillBytes(make([]byte, m))
		}
	}
}

// has tells whether the number of the bytes lies in the interval.
func (v interval) has(b []byte) bool {
	number := new(big.Int).SetBytes(b)
	number.Lsh(number, uint(32+8*v.k))
	low := new(big.Int).Lsh(v.low, uint(8*len(b)))
	end := new(big.Int).Add(v.low, v.size)
	end.Lsh(end, uint(8*len(b)))
	return low.Cmp(number) <= 0 && number.Cmp(end) < 0
}

// top returns the bytes of L ahead of its last four, of which there are k.
func (v interval) top() []byte {
	return new(big.Int).Rsh(v.low, 32).FillBytes(make([]byte, v.k))
}

// mustEncode adds symbols that the table has.
func mustEncode(t *testing.T, e *coder.Encoder, x *table.Table, syms ...int) {
	t.Helper()
	for i, sym := range syms {
		if f := e.Encode(x, sym); f != api.OK {
			t.Fatalf("symbol %d of %v: %v", i, syms, f)
		}
	}
}

// mustDecode takes symbols, which have to be these.
func mustDecode(t *testing.T, d *coder.Decoder, x *table.Table, syms ...int) {
	t.Helper()
	for i, sym := range syms {
		if got, f := d.Decode(x); got != sym || f != api.OK {
			t.Fatalf("symbol %d of %v: %d, %v", i, syms, got, f)
		}
	}
}

// checkCode holds what an encoder tells against the interval that it should
// have.
func checkCode(t *testing.T, e *coder.Encoder, v interval) {
	t.Helper()
	got, want := e.Finish(), v.code()
	if !bytes.Equal(got, want) {
		t.Fatalf("k %d, L %x, R %x: code % x, want % x", v.k, v.low, v.size, got, want)
	}
	if len(got) > v.k+1 { // P4.4
		t.Fatalf("k %d: code of %d bytes", v.k, len(got))
	}
}

// checkTrip encodes symbols of one table, and decodes them again.
func checkTrip(t *testing.T, x *table.Table, syms ...int) {
	t.Helper()
	e := coder.New()
	mustEncode(t, e, x, syms...)
	checkCode(t, e, after(x, syms...))
	d := coder.NewDecoder(e.Finish())
	mustDecode(t, d, x, syms...)
	if !d.Done() {
		t.Fatalf("%v: not done", syms)
	}
}

// randomTable returns a table of any of several kinds.
func randomTable(t *testing.T, rng *rand.Rand) *table.Table {
	t.Helper()
	switch rng.Intn(6) {
	case 0:
		return mustTable(t, 1+rng.Intn(most))
	case 1:
		return mustTable(t, slices.Repeat([]int{most / 256}, 256)...)
	case 2:
		return mustTable(t, 1, most-2, 1)
	case 3:
		return mustTable(t, most-1, 1)
	}
	counts := make([]int, 1+rng.Intn(12))
	for i := range counts {
		counts[i] = 1 + rng.Intn(1<<rng.Intn(12))
	}
	return mustTable(t, counts...)
}

func TestExamples(t *testing.T) { // P4.1, P4.2, P4.3
	x := mustTable(t, 1, 1, 2)
	for _, c := range []struct {
		syms      []int
		low, size *big.Int
		code      []byte
	}{
		{nil, new(big.Int), power(32), nil},
		{[]int{0, 0}, new(big.Int), power(28), nil},
		{[]int{2}, power(31), power(31), []byte{128}},
		{[]int{1, 0}, power(30), power(28), []byte{64}},
	} {
		v := after(x, c.syms...)
		if v.k != 0 || v.low.Cmp(c.low) != 0 || v.size.Cmp(c.size) != 0 {
			t.Fatalf("%v: k %d, L %x, R %x", c.syms, v.k, v.low, v.size)
		}
		e := coder.New()
		mustEncode(t, e, x, c.syms...)
		if b := e.Finish(); !bytes.Equal(b, c.code) {
			t.Errorf("%v: code % x, want % x", c.syms, b, c.code)
		}
		checkTrip(t, x, c.syms...)
	}
}

func TestNoSymbols(t *testing.T) { // P4.1, P4.2, P4.3
	if e := coder.New(); e == nil || len(e.Finish()) != 0 {
		t.Error("a new encoder has a code")
	}
	for _, b := range [][]byte{nil, {}} {
		if d := coder.NewDecoder(b); d == nil || !d.Done() {
			t.Error("the empty string isn't the code of no symbols")
		}
	}
	for _, b := range [][]byte{{0}, {1}, {255}, {0, 0}, {0, 1}, {0, 0, 0, 0, 0, 0, 0, 1}} {
		if coder.NewDecoder(b).Done() {
			t.Errorf("% x: done ahead of the first symbol", b)
		}
	}
	var e coder.Encoder
	var d coder.Decoder
	if len(e.Finish()) != 0 || !d.Done() {
		t.Error("a zero value has symbols")
	}
	x := mustTable(t, 3, 5)
	mustEncode(t, &e, x, 1, 0, 1)
	checkCode(t, &e, after(x, 1, 0, 1))
	mustDecode(t, &d, x, 0, 0, 0)
}

func TestOneSymbolTakesNothing(t *testing.T) { // P4.1, P4.2, P4.3
	for _, count := range []int{1, 7, most} {
		x := mustTable(t, count)
		checkTrip(t, x, make([]int, 1000)...)
		e := coder.New()
		mustEncode(t, e, x, make([]int, 1000)...)
		if len(e.Finish()) != 0 {
			t.Errorf("count %d: % x", count, e.Finish())
		}
		y := mustTable(t, 1, 1, 2)
		mustEncode(t, e, y, 1, 0)
		mustEncode(t, e, x, 0, 0)
		checkCode(t, e, after(y, 1, 0))
	}
}

func TestLastSymbolHasTheRest(t *testing.T) { // P4.1, P4.2
	// R isn't a multiple of these totals: the end of the interval is the last
	// symbol's, whatever the division leaves over.
	for _, counts := range [][]int{{1, 1, 1}, {2, 5}, {most/2 - 1, 1}, {60000, 1}, {1, 60000}, {1, 1, 1, 1, 1, 1, 1}} {
		x := mustTable(t, counts...)
		last := len(counts) - 1
		v := start()
		e := coder.New()
		d := coder.NewDecoder(bytes.Repeat([]byte{255}, 5000))
		for range 600 {
			v = v.with(x, last)
			mustEncode(t, e, x, last)
			mustDecode(t, d, x, last)
			if end := new(big.Int).Add(v.low, v.size); end.Cmp(power(32+8*v.k)) != 0 {
				t.Fatalf("counts %v: the last symbol doesn't end at 1", counts)
			}
		}
		checkCode(t, e, v)
	}
	checkTrip(t, mustTable(t, 1, 1, 1), 2, 2, 2, 0, 2, 1, 2, 2, 2, 2, 2, 2, 2, 2, 0, 0, 2)
}

func TestGreatestTotal(t *testing.T) { // P4.1, P4.2, P4.4
	for _, counts := range [][]int{
		{1, most - 1},
		{most - 1, 1},
		{1, most - 2, 1},
		slices.Repeat([]int{256}, 256),
		append(slices.Repeat([]int{1}, 255), most-255),
	} {
		x := mustTable(t, counts...)
		rng := rand.New(rand.NewSource(int64(len(counts))))
		for range 20 {
			syms := make([]int, rng.Intn(60))
			for i := range syms {
				syms[i] = rng.Intn(len(counts))
			}
			checkTrip(t, x, syms...)
		}
		for sym := range counts {
			checkTrip(t, x, sym, sym, sym)
		}
	}
}

// astride returns a table whose symbol 1 has 1/2 at its middle, which lies
// near the middle of the interval.
func (v interval) astride(t *testing.T) *table.Table {
	t.Helper()
	to := new(big.Int).Sub(power(31+8*v.k), v.low)
	to.Mul(to, big.NewInt(1000)).Quo(to, v.size)
	middle := int(to.Int64())
	return mustTable(t, middle-100, 200, 900-middle)
}

func TestCarryThroughBytes(t *testing.T) { // P4.1, P4.4
	for size := 1; size < 60; size++ {
		e := coder.New()
		v := start()
		for range size {
			x := v.astride(t)
			mustEncode(t, e, x, 1)
			v = v.with(x, 1)
			checkCode(t, e, v)
		}
		if v.k > 0 {
			// L is 7F FF FF .. below 1/2, whose one byte is the code.
			want := bytes.Repeat([]byte{255}, v.k)
			want[0] = 127
			if b := e.Finish(); !bytes.Equal(v.top(), want) || !bytes.Equal(b, []byte{128}) {
				t.Fatalf("code % x, % x ahead of the last bytes", b, v.top())
			}
		}
		x := v.astride(t)
		mustEncode(t, e, x, 2)
		v = v.with(x, 2)
		if v.low.Cmp(power(31+8*v.k)) < 0 {
			t.Fatal("the symbol doesn't carry")
		}
		checkCode(t, e, v)
		for _, sym := range []int{0, 1, 2, 1, 0} {
			x := mustTable(t, 1, 1, 2)
			mustEncode(t, e, x, sym)
			v = v.with(x, sym)
			checkCode(t, e, v)
		}
	}
}

func TestCodeMayBeShort(t *testing.T) { // P4.1, P4.3, P4.4
	y := mustTable(t, 1, 255)
	checkTrip(t, y, make([]int, 30)...)
	e := coder.New()
	mustEncode(t, e, y, make([]int, 30)...)
	if len(e.Finish()) != 0 {
		t.Errorf("zeros: % x", e.Finish())
	}
	// The bytes of L are 128 and then 0 all the way.
	z := mustTable(t, 128, 128)
	syms := append([]int{1}, make([]int, 40)...)
	checkTrip(t, z, syms...)
	e = coder.New()
	mustEncode(t, e, z, syms...)
	if !bytes.Equal(e.Finish(), []byte{128}) {
		t.Errorf("128 and zeros: % x", e.Finish())
	}
}

func TestFinishChangesNothing(t *testing.T) { // P4.1
	rng := rand.New(rand.NewSource(4))
	for range 50 {
		x := randomTable(t, rng)
		e := coder.New()
		v := start()
		for range 60 {
			sym := rng.Intn(x.Symbols())
			mustEncode(t, e, x, sym)
			v = v.with(x, sym)
			checkCode(t, e, v)
			code := e.Finish()
			for i := range code {
				code[i] ^= 255
			}
			_ = append(code, 1, 2, 3, 4)
			checkCode(t, e, v)
		}
	}
}

func TestTablesThatChange(t *testing.T) { // P4.1, P4.2, P4.4
	rng := rand.New(rand.NewSource(5))
	for range 200 {
		var used, again []*table.Table
		for range 1 + rng.Intn(3) {
			x := randomTable(t, rng)
			used = append(used, x)
			again = append(again, x.Clone())
		}
		e := coder.New()
		v := start()
		var which, syms []int
		for range rng.Intn(300) {
			at := rng.Intn(len(used))
			x := used[at]
			sym := rng.Intn(x.Symbols())
			if rng.Intn(2) == 0 {
				sym, _ = x.Find(rng.Intn(x.Total()))
			}
			mustEncode(t, e, x, sym)
			v = v.with(x, sym)
			x.Bump(sym)
			which, syms = append(which, at), append(syms, sym)
		}
		checkCode(t, e, v)
		d := coder.NewDecoder(e.Finish())
		for i, sym := range syms {
			mustDecode(t, d, again[which[i]], sym)
			again[which[i]].Bump(sym)
		}
		if !d.Done() {
			t.Fatal("not done")
		}
	}
}

func TestTableStaysAsItIs(t *testing.T) { // P4.1, P4.2
	x := mustTable(t, 4, 1, 9)
	e := coder.New()
	mustEncode(t, e, x, 2, 0, 1)
	mustDecode(t, coder.NewDecoder(e.Finish()), x, 2, 0, 1)
	if x.Total() != 14 || x.Count(0) != 4 || x.Count(1) != 1 || x.Count(2) != 9 {
		t.Error("the counts have changed")
	}
	y := x.Clone()
	d := coder.NewDecoder(e.Finish())
	x.Bump(0)
	mustDecode(t, d, y, 2, 0, 1)
	checkCode(t, e, after(y, 2, 0, 1))
}

func TestAnyBytesDecode(t *testing.T) { // P4.2, P4.3
	rng := rand.New(rand.NewSource(6))
	for range 400 {
		b := make([]byte, rng.Intn(12))
		for i := range b {
			b[i] = []byte{0, 255, 128, byte(rng.Intn(256))}[rng.Intn(4)]
		}
		x := randomTable(t, rng)
		d := coder.NewDecoder(b)
		v := start()
		for range 40 {
			if got, want := d.Done(), bytes.Equal(b, v.code()); got != want {
				t.Fatalf("% x: Done %v, the code is % x", b, got, v.code())
			}
			sym, f := d.Decode(x)
			if f != api.OK {
				t.Fatalf("% x: %v", b, f)
			}
			var fit []int
			for s := range x.Symbols() {
				if v.with(x, s).has(b) {
					fit = append(fit, s)
				}
			}
			if !slices.Equal(fit, []int{sym}) {
				t.Fatalf("% x: symbol %d, want one of %v", b, sym, fit)
			}
			v = v.with(x, sym)
		}
	}
}

func TestEmptyStringDecodes(t *testing.T) { // P4.2, P4.3
	x := mustTable(t, 1, 1, 2)
	d := coder.NewDecoder(nil)
	for range 1000 {
		mustDecode(t, d, x, 0)
		if !d.Done() {
			t.Fatal("the code of the first symbols is empty")
		}
	}
}

func TestDoneOfOtherBytes(t *testing.T) { // P4.3
	rng := rand.New(rand.NewSource(7))
	early, late, other := 0, 0, 0
	for range 300 {
		x := randomTable(t, rng)
		syms := make([]int, 1+rng.Intn(30))
		for i := range syms {
			syms[i] = rng.Intn(x.Symbols())
		}
		e := coder.New()
		mustEncode(t, e, x, syms...)
		code := e.Finish()
		check := func(b []byte) int {
			t.Helper()
			d := coder.NewDecoder(b)
			v := start()
			for range syms {
				sym, _ := d.Decode(x)
				v = v.with(x, sym)
			}
			if got, want := d.Done(), bytes.Equal(b, v.code()); got != want {
				t.Fatalf("% x: Done %v, the code is % x", b, got, v.code())
			}
			if d.Done() {
				return 0
			}
			return 1
		}
		for size := range code {
			early += check(code[:size])
		}
		for _, more := range []byte{0, 1, 128, 255} {
			late += check(append(slices.Clone(code), more))
		}
		for i := range code {
			b := slices.Clone(code)
			b[i] += byte(1 + rng.Intn(255))
			other += check(b)
		}
	}
	if early == 0 || late == 0 || other == 0 {
		t.Errorf("told apart: %d too short, %d too long, %d others", early, late, other)
	}
}

func TestDoneOnlyForTheCode(t *testing.T) { // P4.3
	x := mustTable(t, 1, 1, 2)
	for _, c := range []struct {
		b    []byte
		want bool
	}{
		{[]byte{128}, true},
		{[]byte{128, 0}, false},           // a byte too many, of the same number
		{[]byte{128, 0, 0, 0, 0}, false},  // more than there could be
		{[]byte{128, 1}, false},           // in the interval too, but longer
		{[]byte{129}, false},              // in the interval too, but not the least
		{[]byte{255, 255}, false},         // the end of the interval
		{[]byte{255, 255, 255, 1}, false}, // near it
	} {
		d := coder.NewDecoder(c.b)
		mustDecode(t, d, x, 2)
		if d.Done() != c.want {
			t.Errorf("% x: Done is %v", c.b, d.Done())
		}
	}
	// Two symbols whose code is as long as k: none of the bytes may be 0 at
	// its end, and no shorter string will do.
	y := mustTable(t, slices.Repeat([]int{1}, 256)...)
	e := coder.New()
	mustEncode(t, e, y, 7, 9, 0, 0)
	if !bytes.Equal(e.Finish(), []byte{7, 9}) {
		t.Fatalf("% x", e.Finish())
	}
	for _, c := range []struct {
		b    []byte
		want bool
	}{{[]byte{7, 9}, true}, {[]byte{7, 9, 0}, false}, {[]byte{7, 9, 0, 0}, false}, {[]byte{7, 9, 0, 0, 0}, false}} {
		d := coder.NewDecoder(c.b)
		mustDecode(t, d, y, 7, 9, 0, 0)
		if d.Done() != c.want {
			t.Errorf("% x: Done is %v", c.b, d.Done())
		}
	}
}

func TestDecoderKeepsItsBytes(t *testing.T) { // P4.2, R3
	x := mustTable(t, 1, 1, 2)
	syms := []int{2, 1, 0, 2, 1, 0, 2, 2, 1, 1, 0, 1, 2, 0, 1, 2, 1, 1, 0, 2, 1}
	e := coder.New()
	mustEncode(t, e, x, syms...)
	b := e.Finish()
	if len(b) < 5 {
		t.Fatalf("% x: no fit example", b)
	}
	kept := slices.Clone(b)
	d := coder.NewDecoder(b)
	for i := range b {
		b[i] = 0
	}
	mustDecode(t, d, x, syms...)
	if !d.Done() {
		t.Error("the decoder has lost its bytes")
	}
	d = coder.NewDecoder(kept)
	mustDecode(t, d, x, syms...)
	if !bytes.Equal(kept, e.Finish()) {
		t.Error("the decoder has changed its argument")
	}
}

func TestEncodeRefuses(t *testing.T) { // P4.1
	x := mustTable(t, 1, 1, 2)
	var none *coder.Encoder
	empty := &table.Table{}
	for _, sym := range []int{0, 1, 3, -1, math.MinInt, math.MaxInt} {
		for _, y := range []*table.Table{nil, empty, x} {
			if f := none.Encode(y, sym); f != api.ErrArg {
				t.Errorf("nil encoder, symbol %d: %v", sym, f)
			}
		}
	}
	if len(none.Finish()) != 0 {
		t.Error("a nil encoder has a code")
	}
	e := coder.New()
	v := start()
	for _, sym := range []int{1, 2, 0, 1, 1, 1, 2, 2, 2, 2, 0, 1, 1, 2} {
		for _, bad := range []int{0, 1, 3, -1} {
			for _, y := range []*table.Table{nil, empty} {
				if f := e.Encode(y, bad); f != api.ErrArg {
					t.Errorf("no symbols, symbol %d: %v", bad, f)
				}
			}
		}
		for _, bad := range []int{3, 4, 256, -1, math.MinInt, math.MaxInt} {
			if f := e.Encode(x, bad); f != api.ErrRange {
				t.Errorf("symbol %d: %v", bad, f)
			}
		}
		checkCode(t, e, v)
		mustEncode(t, e, x, sym)
		v = v.with(x, sym)
	}
	checkCode(t, e, v)
}

func TestDecodeRefuses(t *testing.T) { // P4.2, P4.3
	x := mustTable(t, 1, 1, 2)
	var none *coder.Decoder
	empty := &table.Table{}
	for _, y := range []*table.Table{nil, empty, x} {
		if sym, f := none.Decode(y); sym != 0 || f != api.ErrArg {
			t.Errorf("nil decoder: %d, %v", sym, f)
		}
	}
	if none.Done() {
		t.Error("a nil decoder is done")
	}
	syms := []int{2, 2, 0, 1, 1, 1, 2, 2, 2, 2, 0, 1, 1, 2}
	e := coder.New()
	mustEncode(t, e, x, syms...)
	d := coder.NewDecoder(e.Finish())
	for _, sym := range syms {
		for _, y := range []*table.Table{nil, empty} {
			before := d.Done()
			if got, f := d.Decode(y); got != 0 || f != api.ErrArg || d.Done() != before {
				t.Errorf("no symbols: %d, %v", got, f)
			}
		}
		mustDecode(t, d, x, sym)
	}
	if !d.Done() {
		t.Error("not done")
	}
}

func TestEachGoesItsOwnWay(t *testing.T) { // R4
	x := mustTable(t, 1, 1, 2)
	e, f := coder.New(), coder.New()
	mustEncode(t, e, x, 2, 2, 2, 2, 2, 2, 2, 2, 2)
	if len(f.Finish()) != 0 {
		t.Error("two encoders share their symbols")
	}
	b := e.Finish()
	d, g := coder.NewDecoder(b), coder.NewDecoder(b)
	mustDecode(t, d, x, 2, 2, 2, 2, 2, 2, 2, 2, 2)
	if !d.Done() || g.Done() {
		t.Error("two decoders share their symbols")
	}
	mustDecode(t, g, x, 2, 2, 2)
	mustDecode(t, d, x, 0, 0)
}
