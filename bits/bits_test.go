package bits_test

import (
	"bytes"
	"math"
	"math/rand"
	"strings"
	"testing"

	"gypsum/api"
	"gypsum/bits"
)

// digits spells a byte form as the text of its first n bits, by a way of its
// own, so that it does not lean on what it checks.
func digits(b []byte, n int) string {
	var s strings.Builder
	for i := range n {
		if b[i/8]&(0x80>>(i%8)) != 0 {
			s.WriteByte('1')
		} else {
			s.WriteByte('0')
		}
	}
	return s.String()
}

// spell is the text of v in n bits.
func spell(v uint64, n int) string {
	s := make([]byte, n)
	for i := n - 1; i >= 0; i-- {
		s[i] = '0' + byte(v%2)
		v /= 2
	}
	return string(s)
}

func put(t *testing.T, w *bits.Writer, v uint64, n int) {
	t.Helper()
	if e := w.Put(v, n); e != api.OK {
		t.Fatalf("Put(%d, %d) = %d, want OK", v, n, e)
	}
}

func wantWriter(t *testing.T, w *bits.Writer, size int, form []byte) {
	t.Helper()
	if w.Len() != size {
		t.Errorf("Len() = %d, want %d", w.Len(), size)
	}
	if got := w.Bytes(); !bytes.Equal(got, form) {
		t.Errorf("Bytes() = %x, want %x", got, form)
	}
}

func newReader(t *testing.T, b []byte, n int) *bits.Reader {
	t.Helper()
	r, e := bits.NewReader(b, n)
	if e != api.OK || r == nil {
		t.Fatalf("NewReader(%x, %d) = %v, %d, want a reader and OK", b, n, r, e)
	}
	return r
}

func wantGet(t *testing.T, r *bits.Reader, n int, v uint64, e api.Errno) {
	t.Helper()
	gotV, gotE := r.Get(n)
	if gotV != v || gotE != e {
		t.Errorf("Get(%d) = %d, %d, want %d, %d", n, gotV, gotE, v, e)
	}
}

func wantPosition(t *testing.T, r *bits.Reader, at, left int) {
	t.Helper()
	if r.At() != at || r.Left() != left {
		t.Errorf("At() = %d, Left() = %d, want %d, %d", r.At(), r.Left(), at, left)
	}
}

// fullWriter returns a writer that has room for as many bits as asked.
func fullWriter(t *testing.T, room int) *bits.Writer {
	t.Helper()
	w := new(bits.Writer)
	for api.MaxBits-w.Len()-room >= 64 {
		put(t, w, math.MaxUint64, 64)
	}
	for api.MaxBits-w.Len() > room {
		put(t, w, 1, 1)
	}
	return w
}

// P1.1: the zero value holds no bits.
func TestZeroWriterIsEmpty(t *testing.T) {
	var w bits.Writer
	wantWriter(t, &w, 0, nil)
}

// P1.1, and the chapter's example.
func TestPutExample(t *testing.T) {
	var w bits.Writer
	put(t, &w, 5, 3)
	put(t, &w, 1, 2)
	wantWriter(t, &w, 5, []byte{0xa8})
}

// P1.1: the most significant bit comes first, across bytes too, and the byte
// form is right after each step.
func TestPutOrder(t *testing.T) {
	steps := []struct {
		v    uint64
		n    int
		form []byte
	}{
		{1, 1, []byte{0x80}},
		{0, 6, []byte{0x80}},
		{1, 1, []byte{0x81}},
		{0xabc, 12, []byte{0x81, 0xab, 0xc0}},
		{0, 0, []byte{0x81, 0xab, 0xc0}},
		{0, 4, []byte{0x81, 0xab, 0xc0}},
		{0, 1, []byte{0x81, 0xab, 0xc0, 0}},
		{0x0123456789abcdef, 64, []byte{0x81, 0xab, 0xc0, 0x00, 0x91, 0xa2, 0xb3, 0xc4, 0xd5, 0xe6, 0xf7, 0x80}},
	}
	var w bits.Writer
	size := 0
	for _, s := range steps {
		put(t, &w, s.v, s.n)
		size += s.n
		wantWriter(t, &w, size, s.form)
	}
}

// P1.1: for each width 0 and 2^n - 1 fit, and 2^n does not.
func TestPutAllWidths(t *testing.T) {
	for n := range 65 {
		var w bits.Writer
		put(t, &w, 1, 1)
		most := uint64(math.MaxUint64)
		if n < 64 {
			most = 1<<n - 1
			for _, v := range []uint64{1 << n, 1<<n | most, math.MaxUint64} {
				if e := w.Put(v, n); e != api.ErrRange {
					t.Errorf("Put(%d, %d) = %d, want ErrRange", v, n, e)
				}
			}
			wantWriter(t, &w, 1, []byte{0x80})
		}
		put(t, &w, most, n)
		put(t, &w, 0, n)
		want := "1" + strings.Repeat("1", n) + strings.Repeat("0", n)
		if got := digits(w.Bytes(), w.Len()); got != want {
			t.Errorf("width %d: bits %s, want %s", n, got, want)
		}
	}
}

// P1.1: a width of 0 writes nothing, and only the value 0 has it.
func TestPutWidthZero(t *testing.T) {
	var w bits.Writer
	put(t, &w, 0, 0)
	wantWriter(t, &w, 0, nil)
	if e := w.Put(1, 0); e != api.ErrRange {
		t.Errorf("Put(1, 0) = %d, want ErrRange", e)
	}
	wantWriter(t, &w, 0, nil)
}

// P1.1: widths beyond 0 to 64 are refused and change nothing.
func TestPutWrongWidths(t *testing.T) {
	var w bits.Writer
	put(t, &w, 5, 3)
	for _, n := range []int{-1, -8, -64, math.MinInt, 65, 72, 128, api.MaxBits + 1, math.MaxInt} {
		for _, v := range []uint64{0, 1, math.MaxUint64} {
			if e := w.Put(v, n); e != api.ErrRange {
				t.Errorf("Put(%d, %d) = %d, want ErrRange", v, n, e)
			}
		}
	}
	wantWriter(t, &w, 3, []byte{0xa0})
}

// P1.1: ErrArg of a nil writer comes ahead of ErrRange.
func TestNilWriter(t *testing.T) {
	var w *bits.Writer
	for _, n := range []int{-1, 0, 1, 64, 65} {
		if e := w.Put(2, n); e != api.ErrArg {
			t.Errorf("nil: Put(2, %d) = %d, want ErrArg", n, e)
		}
	}
	for _, b := range []bool{false, true} {
		if e := w.Bit(b); e != api.ErrArg {
			t.Errorf("nil: Bit(%v) = %d, want ErrArg", b, e)
		}
	}
	wantWriter(t, w, 0, nil)
}

// P1.1: Bit is Put of one bit.
func TestWriterBit(t *testing.T) {
	var w, twin bits.Writer
	for i, c := range "1011000111" {
		if e := w.Bit(c == '1'); e != api.OK {
			t.Fatalf("Bit %d = %d, want OK", i, e)
		}
		put(t, &twin, uint64(c-'0'), 1)
		wantWriter(t, &w, i+1, twin.Bytes())
	}
	wantWriter(t, &w, 10, []byte{0xb1, 0xc0})
}

// P1.1: a writer takes MaxBits bits and no more; ErrRange comes ahead of
// ErrFull.
func TestWriterAtMaxBits(t *testing.T) {
	w := fullWriter(t, 3)
	for _, n := range []int{4, 5, 64} {
		if e := w.Put(0, n); e != api.ErrFull {
			t.Errorf("3 bits of room: Put(0, %d) = %d, want ErrFull", n, e)
		}
	}
	if w.Len() != api.MaxBits-3 {
		t.Fatalf("Len() = %d, want %d", w.Len(), api.MaxBits-3)
	}
	put(t, w, 4, 3)
	full := w.Bytes()
	if w.Len() != api.MaxBits || len(full) != api.MaxBits/8 || full[len(full)-1] != 0xfc {
		t.Fatalf("%d bits in %d bytes, the last one %x", w.Len(), len(full), full[len(full)-1])
	}
	put(t, w, 0, 0)
	for _, x := range []struct {
		v uint64
		n int
		e api.Errno
	}{{0, 1, api.ErrFull}, {1, 1, api.ErrFull}, {0, 64, api.ErrFull}, {2, 1, api.ErrRange}, {1, 0, api.ErrRange}, {0, -1, api.ErrRange}, {0, 65, api.ErrRange}} {
		if e := w.Put(x.v, x.n); e != x.e {
			t.Errorf("full: Put(%d, %d) = %d, want %d", x.v, x.n, e, x.e)
		}
	}
	if w.Bit(false) != api.ErrFull || w.Bit(true) != api.ErrFull {
		t.Error("full: Bit is not ErrFull")
	}
	if w.Len() != api.MaxBits || !bytes.Equal(w.Bytes(), full) {
		t.Error("a refused Put changed a full writer")
	}
	r := newReader(t, full, api.MaxBits)
	wantPosition(t, r, 0, api.MaxBits)
}

// P1.1 and R3: Bytes answers new memory each time.
func TestBytesAreNew(t *testing.T) {
	var w bits.Writer
	put(t, &w, 0xabcd, 16)
	first, second := w.Bytes(), w.Bytes()
	clear(first[:cap(first)])
	if !bytes.Equal(second, []byte{0xab, 0xcd}) {
		t.Errorf("two results share memory: %x", second)
	}
	wantWriter(t, &w, 16, []byte{0xab, 0xcd})
	put(t, &w, 0xef, 8)
	wantWriter(t, &w, 24, []byte{0xab, 0xcd, 0xef})
	if !bytes.Equal(second, []byte{0xab, 0xcd}) {
		t.Errorf("a result changed with its writer: %x", second)
	}
	_ = append(second, 0xff)
	put(t, &w, 1, 1)
	wantWriter(t, &w, 25, []byte{0xab, 0xcd, 0xef, 0x80})
}

// R4: writers know nothing of each other.
func TestWritersAreApart(t *testing.T) {
	var a, b bits.Writer
	put(t, &a, 1, 1)
	put(t, &b, 0, 2)
	put(t, &a, 3, 2)
	wantWriter(t, &a, 3, []byte{0xe0})
	wantWriter(t, &b, 2, []byte{0})
}

// P1.2: the byte forms of as many bits are accepted, and nothing else; of
// several errors the first one is told.
func TestNewReader(t *testing.T) {
	for _, c := range []struct {
		b []byte
		n int
		e api.Errno
	}{
		{nil, 0, api.OK},
		{[]byte{}, 0, api.OK},
		{[]byte{0xa8}, 5, api.OK},
		{[]byte{0xa9}, 8, api.OK},
		{[]byte{0x80}, 1, api.OK},
		{[]byte{0xff, 0x80}, 9, api.OK},
		{[]byte{0xff, 0xfe}, 15, api.OK},
		{[]byte{0xff, 0xff}, 16, api.OK},
		{nil, -1, api.ErrRange},
		{[]byte{1}, -1, api.ErrRange},
		{[]byte{1, 2}, -8, api.ErrRange},
		{nil, math.MinInt, api.ErrRange},
		{nil, api.MaxBits + 1, api.ErrRange},
		{nil, math.MaxInt, api.ErrRange},
		{nil, 1, api.ErrEnd},
		{nil, api.MaxBits, api.ErrEnd},
		{[]byte{0xa8}, 9, api.ErrEnd},
		{[]byte{0xff, 0xff}, 17, api.ErrEnd},
		{[]byte{0xff, 0xff}, 24, api.ErrEnd},
		{[]byte{0}, 0, api.ErrMore},
		{[]byte{0xa8, 0}, 5, api.ErrMore},
		{[]byte{0xa9, 0}, 5, api.ErrMore},
		{[]byte{0xa8, 0}, 8, api.ErrMore},
		{[]byte{1, 2, 3, 4}, 9, api.ErrMore},
		{[]byte{0xa9}, 5, api.ErrForm},
		{[]byte{0xac}, 5, api.ErrForm},
		{[]byte{0x81}, 7, api.ErrForm},
		{[]byte{0x40}, 1, api.ErrForm},
		{[]byte{0x00, 0x01}, 15, api.ErrForm},
	} {
		before := bytes.Clone(c.b)
		r, e := bits.NewReader(c.b, c.n)
		if e != c.e || (r != nil) != (c.e == api.OK) {
			t.Errorf("NewReader(%x, %d) = %v, %d, want %d", c.b, c.n, r, e, c.e)
			continue
		}
		if !bytes.Equal(before, c.b) {
			t.Errorf("NewReader changed %x to %x", before, c.b)
		}
		if r != nil {
			wantPosition(t, r, 0, c.n)
		}
	}
}

// P1.2: at the limit of the number of bits.
func TestNewReaderAtMaxBits(t *testing.T) {
	b := make([]byte, api.MaxBits/8+1)
	for _, c := range []struct {
		bytes, bits int
		e           api.Errno
	}{
		{api.MaxBits / 8, api.MaxBits, api.OK},
		{api.MaxBits/8 - 1, api.MaxBits, api.ErrEnd},
		{api.MaxBits/8 + 1, api.MaxBits, api.ErrMore},
		{api.MaxBits/8 + 1, api.MaxBits + 1, api.ErrRange},
	} {
		if _, e := bits.NewReader(b[:c.bytes], c.bits); e != c.e {
			t.Errorf("%d bytes, %d bits: %d, want %d", c.bytes, c.bits, e, c.e)
		}
	}
}

// P1.2 and R7: every unused bit of the last byte is looked at, and no used one.
func TestNewReaderUnusedBits(t *testing.T) {
	for n := 1; n <= 24; n++ {
		size := (n + 7) / 8
		for i := range 8 * size {
			b := make([]byte, size)
			b[i/8] = 0x80 >> (i % 8)
			want := api.OK
			if i >= n {
				want = api.ErrForm
			}
			if _, e := bits.NewReader(b, n); e != want {
				t.Errorf("NewReader(%x, %d) = %d, want %d", b, n, e, want)
			}
		}
	}
}

// P1.2: the bytes are copied, and left as they are.
func TestNewReaderCopies(t *testing.T) {
	b := []byte{0xab, 0xcd}
	r := newReader(t, b, 16)
	b[0], b[1] = 0, 0
	wantGet(t, r, 16, 0xabcd, api.OK)
	if b[0] != 0 || b[1] != 0 {
		t.Errorf("Get changed the argument of NewReader: %x", b)
	}
}

// P1.3, and the chapter's example.
func TestGetExample(t *testing.T) {
	r := newReader(t, []byte{0xa8}, 5)
	wantGet(t, r, 3, 5, api.OK)
	wantPosition(t, r, 3, 2)
	wantGet(t, r, 3, 0, api.ErrEnd)
	wantPosition(t, r, 3, 2)
	wantGet(t, r, 2, 1, api.OK)
	wantPosition(t, r, 5, 0)
}

// P1.3: widths 0 to 64, from each place within a byte.
func TestGetAllWidths(t *testing.T) {
	b := []byte{0xab, 0x01, 0x23, 0x45, 0x67, 0x89, 0xab, 0xcd, 0xef, 0xfe}
	all := digits(b, 8*len(b))
	for from := range 8 {
		for n := range 65 {
			r := newReader(t, b, 8*len(b))
			if v, e := r.Get(from); e != api.OK || spell(v, from) != all[:from] {
				t.Fatalf("Get(%d) = %d, %d, want the bits %s", from, v, e, all[:from])
			}
			v, e := r.Get(n)
			if e != api.OK || spell(v, n) != all[from:from+n] {
				t.Errorf("Get(%d) from %d = %x, %d, want the bits %s", n, from, v, e, all[from:from+n])
			}
			wantPosition(t, r, from+n, 8*len(b)-from-n)
		}
	}
}

// P1.3: wrong widths are refused and change nothing, and come ahead of ErrEnd.
func TestGetWrongWidths(t *testing.T) {
	r := newReader(t, []byte{0xff, 0x80}, 9)
	wantGet(t, r, 4, 15, api.OK)
	for _, n := range []int{-1, -64, math.MinInt, 65, 128, math.MaxInt} {
		wantGet(t, r, n, 0, api.ErrRange)
		wantPosition(t, r, 4, 5)
	}
	for _, n := range []int{6, 7, 64} {
		wantGet(t, r, n, 0, api.ErrEnd)
		wantPosition(t, r, 4, 5)
	}
	wantGet(t, r, 0, 0, api.OK)
	wantPosition(t, r, 4, 5)
	wantGet(t, r, 5, 31, api.OK)
	wantPosition(t, r, 9, 0)
}

// P1.3: a partly used last byte ends where its bits end.
func TestGetStopsWithinByte(t *testing.T) {
	r := newReader(t, []byte{0xff, 0xc0}, 10)
	wantGet(t, r, 8, 255, api.OK)
	wantGet(t, r, 3, 0, api.ErrEnd)
	wantGet(t, r, 2, 3, api.OK)
	if b, e := r.Bit(); b || e != api.ErrEnd {
		t.Errorf("Bit() at the end = %v, %d, want false, ErrEnd", b, e)
	}
	wantPosition(t, r, 10, 0)
}

// P1.3: an empty reader, and the zero value, which holds no bits either.
func TestEmptyReader(t *testing.T) {
	for _, r := range []*bits.Reader{newReader(t, nil, 0), new(bits.Reader)} {
		wantPosition(t, r, 0, 0)
		wantGet(t, r, 0, 0, api.OK)
		wantGet(t, r, 1, 0, api.ErrEnd)
		wantGet(t, r, 64, 0, api.ErrEnd)
		wantGet(t, r, 65, 0, api.ErrRange)
		if b, e := r.Bit(); b || e != api.ErrEnd {
			t.Errorf("Bit() = %v, %d, want false, ErrEnd", b, e)
		}
		wantPosition(t, r, 0, 0)
	}
}

// P1.3: ErrArg of a nil reader comes ahead of ErrRange and ErrEnd.
func TestNilReader(t *testing.T) {
	var r *bits.Reader
	for _, n := range []int{-1, 0, 1, 64, 65} {
		wantGet(t, r, n, 0, api.ErrArg)
	}
	if b, e := r.Bit(); b || e != api.ErrArg {
		t.Errorf("nil: Bit() = %v, %d, want false, ErrArg", b, e)
	}
	wantPosition(t, r, 0, 0)
}

// P1.3: Bit reads one bit at a time.
func TestReaderBit(t *testing.T) {
	b := []byte{0xb1, 0xc0}
	r := newReader(t, b, 10)
	for i, c := range "1011000111" {
		got, e := r.Bit()
		if got != (c == '1') || e != api.OK {
			t.Errorf("Bit %d = %v, %d, want %c", i, got, e, c)
		}
		wantPosition(t, r, i+1, 9-i)
	}
}

// P1.1 to P1.3 together: what is written is read again, by the same widths or
// by others, and exactly the byte forms of writers are accepted.
func TestRoundTrip(t *testing.T) {
	rng := rand.New(rand.NewSource(1))
	for range 300 {
		var w bits.Writer
		var values []uint64
		var widths []int
		want := ""
		for range rng.Intn(40) {
			n := rng.Intn(65)
			v := uint64(0)
			if n > 0 {
				v = rng.Uint64() >> (64 - n)
			}
			put(t, &w, v, n)
			values, widths = append(values, v), append(widths, n)
			want += spell(v, n)
		}
		form := w.Bytes()
		if w.Len() != len(want) || len(form) != (len(want)+7)/8 || digits(form, w.Len()) != want {
			t.Fatalf("%d bits %x, want %s", w.Len(), form, want)
		}
		r := newReader(t, form, w.Len())
		for i, n := range widths {
			wantGet(t, r, n, values[i], api.OK)
		}
		wantPosition(t, r, len(want), 0)
		rewrite(t, rng, form, w.Len())
	}
}

// rewrite reads a byte form by widths of its own, and writes it once more.
func rewrite(t *testing.T, rng *rand.Rand, form []byte, size int) {
	t.Helper()
	r := newReader(t, form, size)
	var w bits.Writer
	for r.Left() > 0 {
		n := min(rng.Intn(65), r.Left())
		v, e := r.Get(n)
		if e != api.OK {
			t.Fatalf("Get(%d) with %d left = %d", n, r.Left(), e)
		}
		put(t, &w, v, n)
		if w.Len() != r.At() {
			t.Fatalf("%d bits written, %d read", w.Len(), r.At())
		}
	}
	wantWriter(t, &w, size, form)
}

// P1.2 and R7: of all short byte strings just those are accepted that writing
// what is read reproduces.
func TestAcceptsJustByteForms(t *testing.T) {
	for n := range 18 {
		for x := range 1 << 16 {
			b := []byte{byte(x >> 8), byte(x)}
			r, e := bits.NewReader(b, n)
			if e != api.OK {
				if n > 8 && n <= 16 && x&(1<<(16-n)-1) == 0 {
					t.Fatalf("NewReader(%x, %d) = %d, want OK", b, n, e)
				}
				continue
			}
			v, _ := r.Get(n)
			var w bits.Writer
			put(t, &w, v, n)
			wantWriter(t, &w, n, b)
		}
	}
}
