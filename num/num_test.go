package num_test

import (
	"bytes"
	"math"
	"math/rand"
	"strconv"
	"strings"
	"testing"

	"gypsum/api"
	"gypsum/bits"
	"gypsum/num"
)

// top is the greatest integer that has a gamma code.
const top = 1 << 32

// gamma spells the gamma code of n from its description: the binary digits of
// n + 1, behind one zero for each digit but the first.
func gamma(n uint64) string {
	digits := strconv.FormatUint(n+1, 2)
	return strings.Repeat("0", len(digits)-1) + digits
}

// written spells the bits that a writer holds.
func written(w *bits.Writer) string {
	form := w.Bytes()
	var s strings.Builder
	for i := range w.Len() {
		if form[i/8]&(0x80>>(i%8)) != 0 {
			s.WriteByte('1')
		} else {
			s.WriteByte('0')
		}
	}
	return s.String()
}

// reading returns a reader of bits that are spelled out.
func reading(t *testing.T, s string) *bits.Reader {
	t.Helper()
	form := make([]byte, (len(s)+7)/8)
	for i := range len(s) {
		if s[i] == '1' {
			form[i/8] |= 0x80 >> (i % 8)
		}
	}
	r, e := bits.NewReader(form, len(s))
	if e != api.OK {
		t.Fatalf("NewReader of %s = %d", s, e)
	}
	return r
}

// roomFor returns a writer that takes as many bits more, and no more.
func roomFor(t *testing.T, room int) *bits.Writer {
	t.Helper()
	w := new(bits.Writer)
	for w.Len() < api.MaxBits-room {
		n := min(64, api.MaxBits-room-w.Len())
		if e := w.Put(1, n); e != api.OK {
			t.Fatalf("Put(1, %d) = %d", n, e)
		}
	}
	return w
}

func wantPut(t *testing.T, w *bits.Writer, n uint64, e api.Errno) {
	t.Helper()
	if got := num.Put(w, n); got != e {
		t.Errorf("Put(%d) = %d, want %d", n, got, e)
	}
}

func wantFixed(t *testing.T, w *bits.Writer, v, below int, e api.Errno) {
	t.Helper()
	if got := num.Fixed(w, v, below); got != e {
		t.Errorf("Fixed(%d, %d) = %d, want %d", v, below, got, e)
	}
}

func wantWritten(t *testing.T, w *bits.Writer, want string) {
	t.Helper()
	if got := written(w); got != want {
		t.Errorf("the writer holds %s, want %s", got, want)
	}
}

func wantGet(t *testing.T, s string, n uint64, e api.Errno) {
	t.Helper()
	gotN, gotE := num.Get(reading(t, s))
	if gotN != n || gotE != e {
		t.Errorf("Get of %s = %d, %d, want %d, %d", s, gotN, gotE, n, e)
	}
}

func wantUnfixed(t *testing.T, s string, below, v int, e api.Errno) {
	t.Helper()
	gotV, gotE := num.Unfixed(reading(t, s), below)
	if gotV != v || gotE != e {
		t.Errorf("Unfixed of %s below %d = %d, %d, want %d, %d", s, below, gotV, gotE, v, e)
	}
}

// gammaEdges holds 0 to 300, and the neighbours of the powers of two: where
// the length of the code changes.
func gammaEdges() []uint64 {
	var list []uint64
	for n := range uint64(301) {
		list = append(list, n)
	}
	for k := 9; k <= 31; k++ {
		list = append(list, 1<<k-2, 1<<k-1, 1<<k, 1<<k+1)
	}
	return append(list, top-2, top-1, top)
}

// boundEdges holds bounds from 1 on, those that are powers of two and one less
// and one more among them.
func boundEdges() []int {
	var list []int
	for below := 1; below <= 70; below++ {
		list = append(list, below)
	}
	for k := 7; k <= 62; k++ {
		list = append(list, 1<<k-1, 1<<k, 1<<k+1)
	}
	return append(list, math.MaxInt-1, math.MaxInt)
}

// P2.1, and the chapter's examples.
func TestPutExamples(t *testing.T) {
	for n, want := range []string{"1", "010", "011", "00100"} {
		w := new(bits.Writer)
		wantPut(t, w, uint64(n), api.OK)
		wantWritten(t, w, want)
		if got := num.Size(uint64(n)); got != len(want) {
			t.Errorf("Size(%d) = %d, want %d", n, got, len(want))
		}
	}
}

// P2.1: the code and its size, at each length of a code.
func TestPutAndSize(t *testing.T) {
	for _, n := range gammaEdges() {
		w := new(bits.Writer)
		wantPut(t, w, n, api.OK)
		wantWritten(t, w, gamma(n))
		if got := num.Size(n); got != len(gamma(n)) {
			t.Errorf("Size(%d) = %d, want %d", n, got, len(gamma(n)))
		}
	}
}

// P2.1: codes are appended to what a writer holds.
func TestPutAppends(t *testing.T) {
	w := new(bits.Writer)
	want := ""
	for _, n := range gammaEdges() {
		wantPut(t, w, n, api.OK)
		want += gamma(n)
	}
	wantWritten(t, w, want)
}

// P2.1: integers above 2^32 have no code, and write nothing.
func TestPutOutOfRange(t *testing.T) {
	w := new(bits.Writer)
	wantPut(t, w, 5, api.OK)
	for _, n := range []uint64{top + 1, top + 2, 1 << 33, 1 << 63, math.MaxUint64 - 1, math.MaxUint64} {
		wantPut(t, w, n, api.ErrRange)
		if got := num.Size(n); got != 0 {
			t.Errorf("Size(%d) = %d, want 0", n, got)
		}
	}
	wantWritten(t, w, gamma(5))
}

// P2.1: a nil writer comes ahead of all else.
func TestPutNil(t *testing.T) {
	for _, n := range []uint64{0, top, top + 1, math.MaxUint64} {
		wantPut(t, nil, n, api.ErrArg)
	}
}

// P2.1: a code that does not fit is not written in part; ErrRange comes ahead
// of ErrFull.
func TestPutFull(t *testing.T) {
	w := roomFor(t, 67)
	for _, c := range []struct {
		n uint64
		e api.Errno
	}{
		{1, api.OK},        // 64 bits of room are left
		{top, api.ErrFull}, // 65 bits
		{top - 1, api.ErrFull},
		{top + 1, api.ErrRange},
		{0, api.OK}, // 63
		{top, api.ErrFull},
		{top - 2, api.OK}, // the 63 bits of the next shorter code
		{0, api.ErrFull},
		{top, api.ErrFull},
		{top + 1, api.ErrRange},
		{math.MaxUint64, api.ErrRange},
	} {
		before, form := w.Len(), w.Bytes()
		wantPut(t, w, c.n, c.e)
		if c.e == api.OK {
			if w.Len() != before+len(gamma(c.n)) {
				t.Errorf("Put(%d) wrote %d bits", c.n, w.Len()-before)
			}
		} else if w.Len() != before || !bytes.Equal(w.Bytes(), form) {
			t.Errorf("a refused Put(%d) changed the writer", c.n)
		}
	}
	if w.Len() != api.MaxBits {
		t.Errorf("Len() = %d, want MaxBits", w.Len())
	}
}

// P2.1: just enough room, and one bit less, for codes whose zeros alone would
// fit.
func TestPutRoom(t *testing.T) {
	for _, n := range []uint64{0, 1, 6, 7, top} {
		size := len(gamma(n))
		w := roomFor(t, size)
		wantPut(t, w, n, api.OK)
		if w.Len() != api.MaxBits {
			t.Errorf("Put(%d) with room for it: %d bits are left", n, api.MaxBits-w.Len())
		}
		w = roomFor(t, size-1)
		form := w.Bytes()
		wantPut(t, w, n, api.ErrFull)
		if w.Len() != api.MaxBits-size+1 || !bytes.Equal(w.Bytes(), form) {
			t.Errorf("Put(%d) with too little room changed the writer", n)
		}
	}
}

// P2.2: each code is read, and none of its bits may be missing.
func TestGet(t *testing.T) {
	for _, n := range gammaEdges() {
		code := gamma(n)
		wantGet(t, code, n, api.OK)
		for i := range code {
			wantGet(t, code[:i], 0, api.ErrEnd)
		}
	}
}

// P2.2: what stands behind a code is neither read nor minded.
func TestGetStopsBehindCode(t *testing.T) {
	for _, n := range []uint64{0, 1, 2, 3, 1000, top} {
		for _, behind := range []string{"0", "1", "1101", strings.Repeat("0", 80), strings.Repeat("1", 80)} {
			r := reading(t, gamma(n)+behind)
			got, e := num.Get(r)
			if got != n || e != api.OK || r.Left() != len(behind) {
				t.Errorf("Get = %d, %d with %d bits left, want %d, OK, %d", got, e, r.Left(), n, len(behind))
			}
		}
	}
}

// P2.2: 32 zero bits may begin a code, 33 may not, whatever is behind them.
func TestGetZeros(t *testing.T) {
	zeros := strings.Repeat("0", 32)
	for i := range 33 {
		wantGet(t, zeros[:i], 0, api.ErrEnd)
	}
	for _, behind := range []string{"", "0", "1", zeros, "1" + zeros + "1"} {
		wantGet(t, zeros+"0"+behind, 0, api.ErrForm)
	}
}

// P2.2: codes of 65 bits that stand for too much are ErrForm when they are
// complete, and ErrEnd till then.
func TestGetTooGreat(t *testing.T) {
	wantGet(t, gamma(top-1), top-1, api.OK)
	wantGet(t, gamma(top), top, api.OK)
	for _, n := range []uint64{top + 1, top + 2, top + 1000, 1<<33 - 3, 1<<33 - 2} {
		code := gamma(n)
		if len(code) != 65 {
			t.Fatalf("the code of %d has %d bits", n, len(code))
		}
		wantGet(t, code, 0, api.ErrForm)
		wantGet(t, code+"0", 0, api.ErrForm)
		for i := range code {
			wantGet(t, code[:i], 0, api.ErrEnd)
		}
	}
}

// P2.2 and P2.3: a nil reader.
func TestNilReader(t *testing.T) {
	if n, e := num.Get(nil); n != 0 || e != api.ErrArg {
		t.Errorf("Get(nil) = %d, %d, want 0, ErrArg", n, e)
	}
	for _, below := range []int{math.MinInt, -1, 0, 1, 2, math.MaxInt} {
		if v, e := num.Unfixed(nil, below); v != 0 || e != api.ErrArg {
			t.Errorf("Unfixed(nil, %d) = %d, %d, want 0, ErrArg", below, v, e)
		}
	}
}

// P2.3: the width is the number of digits of below - 1, and 0 up to 1.
func TestWidth(t *testing.T) {
	for _, below := range []int{math.MinInt, math.MinInt + 1, -256, -1, 0, 1} {
		if got := num.Width(below); got != 0 {
			t.Errorf("Width(%d) = %d, want 0", below, got)
		}
	}
	if got := num.Width(5); got != 3 {
		t.Errorf("Width(5) = %d, want 3", got)
	}
	for _, below := range boundEdges()[1:] {
		want := len(strconv.FormatInt(int64(below-1), 2))
		if got := num.Width(below); got != want {
			t.Errorf("Width(%d) = %d, want %d", below, got, want)
		}
	}
}

// padded spells v in the width of a bound.
func padded(v, below int) string {
	if below == 1 {
		return ""
	}
	width := len(strconv.FormatInt(int64(below-1), 2))
	digits := strconv.FormatInt(int64(v), 2)
	return strings.Repeat("0", width-len(digits)) + digits
}

// P2.3: the code of each value below a bound, or of the edges of great ones.
func TestFixed(t *testing.T) {
	for _, below := range boundEdges() {
		values := []int{0, 1, below / 2, below - 2, below - 1}
		if below <= 70 {
			values = nil
			for v := range below {
				values = append(values, v)
			}
		}
		w := new(bits.Writer)
		want := ""
		for _, v := range values {
			wantFixed(t, w, v, below, api.OK)
			want += padded(v, below)
			wantUnfixed(t, padded(v, below), below, v, api.OK)
			wantUnfixed(t, padded(v, below)+"1", below, v, api.OK)
		}
		wantWritten(t, w, want)
	}
}

// P2.3: values that are not below the bound write nothing.
func TestFixedOutOfRange(t *testing.T) {
	w := new(bits.Writer)
	wantFixed(t, w, 4, 5, api.OK)
	for _, below := range boundEdges() {
		for _, v := range []int{-1, -below, math.MinInt, below, math.MaxInt} {
			wantFixed(t, w, v, below, api.ErrRange)
		}
	}
	for _, below := range []int{0, -1, -5, math.MinInt} {
		for _, v := range []int{0, 1, -1, below, below - 1, math.MinInt, math.MaxInt} {
			wantFixed(t, w, v, below, api.ErrRange)
		}
	}
	wantWritten(t, w, "100")
}

// P2.3: a nil writer comes ahead of all else.
func TestFixedNil(t *testing.T) {
	for _, c := range [][2]int{{0, 1}, {4, 5}, {5, 5}, {-1, 5}, {0, 0}, {0, -1}} {
		wantFixed(t, nil, c[0], c[1], api.ErrArg)
	}
}

// P2.3: a full writer takes the code of no bits, and ErrRange comes ahead of
// ErrFull.
func TestFixedFull(t *testing.T) {
	w := roomFor(t, 2)
	form := w.Bytes()
	wantFixed(t, w, 0, 5, api.ErrFull)
	wantFixed(t, w, 7, 8, api.ErrFull)
	wantFixed(t, w, 8, 8, api.ErrRange)
	wantFixed(t, w, math.MaxInt-1, math.MaxInt, api.ErrFull)
	if w.Len() != api.MaxBits-2 || !bytes.Equal(w.Bytes(), form) {
		t.Error("a refused Fixed changed the writer")
	}
	wantFixed(t, w, 3, 4, api.OK)
	form = w.Bytes()
	wantFixed(t, w, 0, 1, api.OK)
	wantFixed(t, w, 1, 2, api.ErrFull)
	wantFixed(t, w, 2, 2, api.ErrRange)
	wantFixed(t, w, 1, 1, api.ErrRange)
	wantFixed(t, w, 0, 0, api.ErrRange)
	if w.Len() != api.MaxBits || !bytes.Equal(w.Bytes(), form) {
		t.Error("a refused Fixed changed a full writer")
	}
}

// P2.3: each way of failing, the first one told.
func TestUnfixedWrong(t *testing.T) {
	for _, below := range []int{0, -1, math.MinInt} {
		wantUnfixed(t, "", below, 0, api.ErrRange)
		wantUnfixed(t, "0101", below, 0, api.ErrRange)
	}
	wantUnfixed(t, "", 1, 0, api.OK)
	wantUnfixed(t, "", 2, 0, api.ErrEnd)
	for _, below := range boundEdges()[1:] {
		width := num.Width(below)
		wantUnfixed(t, strings.Repeat("1", width-1), below, 0, api.ErrEnd)
		greatest, want, e := math.MaxInt, 0, api.ErrForm
		if width < 63 {
			greatest = 1<<width - 1
		}
		if greatest < below {
			want, e = greatest, api.OK
		}
		wantUnfixed(t, strings.Repeat("1", width), below, want, e)
		if width < 63 && below <= greatest {
			wantUnfixed(t, strconv.FormatInt(int64(below), 2), below, 0, api.ErrForm)
		}
	}
}

// P2.4, and the chapter's examples.
func TestZigExamples(t *testing.T) {
	for u, n := range []int{0, -1, 1, -2, 2, -3, 3} {
		if num.Zig(n) != uint64(u) || num.Zag(uint64(u)) != n {
			t.Errorf("Zig(%d) = %d, Zag(%d) = %d", n, num.Zig(n), u, num.Zag(uint64(u)))
		}
	}
}

// P2.4: both ends of int, which doubling in int would not reach.
func TestZigEnds(t *testing.T) {
	for _, c := range []struct {
		n int
		u uint64
	}{
		{math.MaxInt, math.MaxUint64 - 1},
		{math.MinInt, math.MaxUint64},
		{math.MaxInt - 1, math.MaxUint64 - 3},
		{math.MinInt + 1, math.MaxUint64 - 2},
		{1 << 62, 1 << 63},
		{-1 << 62, 1<<63 - 1},
		{1 << 32, 1 << 33},
		{-1 << 32, 1<<33 - 1},
	} {
		if num.Zig(c.n) != c.u || num.Zag(c.u) != c.n {
			t.Errorf("Zig(%d) = %d, Zag(%d) = %d", c.n, num.Zig(c.n), c.u, num.Zag(c.u))
		}
	}
}

// P2.4: Zig and Zag undo each other, from both sides.
func TestZigZag(t *testing.T) {
	rng := rand.New(rand.NewSource(2))
	for i := range 100000 {
		n := int(rng.Uint64()) >> (i % 64)
		want := 2 * uint64(n)
		if n < 0 {
			want = 2*uint64(-(n+1)) + 1
		}
		if num.Zig(n) != want || num.Zag(want) != n {
			t.Fatalf("Zig(%d) = %d, Zag(%d) = %d", n, num.Zig(n), want, num.Zag(want))
		}
		if u := rng.Uint64(); num.Zig(num.Zag(u)) != u {
			t.Fatalf("Zig(Zag(%d)) = %d", u, num.Zig(num.Zag(u)))
		}
	}
}

// item is one code of a mixed sequence: a gamma code if below is 0.
type item struct {
	n     uint64
	below int
}

// P2.5: what is written is read again, in any order of codes, and just the
// bits that were written are consumed.
func TestRoundTrip(t *testing.T) {
	rng := rand.New(rand.NewSource(5))
	for range 500 {
		w := new(bits.Writer)
		var items []item
		var ends []int
		for range rng.Intn(60) {
			x := item{n: rng.Uint64() >> (31 + rng.Intn(33))}
			if x.n > top {
				x.n = top
			}
			if rng.Intn(2) == 0 {
				x.below = 1 + rng.Int()>>rng.Intn(63)
				x.n = uint64(rng.Intn(x.below))
				wantFixed(t, w, int(x.n), x.below, api.OK)
			} else {
				wantPut(t, w, x.n, api.OK)
			}
			items, ends = append(items, x), append(ends, w.Len())
		}
		readItems(t, w, items, ends)
	}
}

func readItems(t *testing.T, w *bits.Writer, items []item, ends []int) {
	t.Helper()
	r, e := bits.NewReader(w.Bytes(), w.Len())
	if e != api.OK {
		t.Fatalf("NewReader = %d", e)
	}
	for i, x := range items {
		var n uint64
		if x.below == 0 {
			n, e = num.Get(r)
		} else {
			v, err := num.Unfixed(r, x.below)
			n, e = uint64(v), err
		}
		if n != x.n || e != api.OK || r.At() != ends[i] {
			t.Fatalf("item %d (%v): %d, %d at %d, want to be at %d", i, x, n, e, r.At(), ends[i])
		}
	}
	if r.Left() != 0 {
		t.Errorf("%d bits are left", r.Left())
	}
}

// P2.5: no code is a prefix of another one.
func TestNoPrefix(t *testing.T) {
	var codes []string
	for _, n := range gammaEdges() {
		w := new(bits.Writer)
		wantPut(t, w, n, api.OK)
		codes = append(codes, written(w))
	}
	for i, a := range codes {
		for j, b := range codes {
			if i != j && strings.HasPrefix(b, a) {
				t.Errorf("the code %s is a prefix of %s", a, b)
			}
		}
	}
}

// P2.2, P2.5 and R7: of all strings of up to 13 bits just the codes are
// accepted: what is read, written again, gives the bits that were consumed.
func TestAcceptsJustCodes(t *testing.T) {
	for size := range 14 {
		for x := range 1 << size {
			s := ""
			if size > 0 {
				s = padded(x, 1<<size)
			}
			r := reading(t, s)
			n, e := num.Get(r)
			if e == api.OK {
				if s[:r.At()] != gamma(n) {
					t.Fatalf("Get of %s = %d, behind %d bits", s, n, r.At())
				}
				continue
			}
			ones := strings.IndexByte(s, '1')
			if e != api.ErrEnd || n != 0 || ones >= 0 && 2*ones+1 <= size {
				t.Fatalf("Get of %s = %d, %d", s, n, e)
			}
		}
	}
}
