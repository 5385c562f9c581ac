package model_test

import (
	"bytes"
	"math"
	"math/rand"
	"runtime"
	"slices"
	"strconv"
	"strings"
	"testing"

	"gypsum/api"
	"gypsum/coder"
	"gypsum/model"
	"gypsum/table"
)

// most is the greatest number of elements of a sequence.
const most = 65536

// A sequence is what Encode takes.
type sequence struct {
	symbols, contexts int
	syms, ctx         []int
}

// plain returns the plain form, told from the document: the bits are written
// as a text that is cut into bytes.
func (s sequence) plain() []byte {
	var text strings.Builder
	for _, sym := range s.syms {
		if s.symbols == 1 {
			continue
		}
		digits := strconv.FormatInt(int64(sym), 2)
		width := len(strconv.FormatInt(int64(s.symbols-1), 2))
		text.WriteString(strings.Repeat("0", width-len(digits)) + digits)
	}
	text.WriteString(strings.Repeat("0", (8-text.Len()%8)%8))
	form := []byte{0}
	for group := range slices.Chunk([]byte(text.String()), 8) {
		n, err := strconv.ParseUint(string(group), 2, 8)
		if err != nil {
			panic(err)
		}
		form = append(form, byte(n))
	}
	return form
}

// coded returns the coded form, told from the document.
func (s sequence) coded() []byte {
	var tables []*table.Table
	for range s.contexts {
		x, _ := table.New(slices.Repeat([]int{1}, s.symbols)...)
		tables = append(tables, x)
	}
	e := coder.New()
	for i, sym := range s.syms {
		e.Encode(tables[s.ctx[i]], sym)
		tables[s.ctx[i]].Bump(sym)
	}
	return append([]byte{1}, e.Finish()...)
}

// bytes returns the bytes of the sequence, and those of its other form.
func (s sequence) bytes() (used, other []byte) {
	coded, plain := s.coded(), s.plain()
	if len(coded) < len(plain) {
		return coded, plain
	}
	return plain, coded
}

// check holds all that is promised of a right sequence.
func check(t *testing.T, s sequence) {
	t.Helper()
	want, other := s.bytes()
	got, e := model.Encode(s.symbols, s.contexts, s.syms, s.ctx)
	if e != api.OK || !bytes.Equal(got, want) {
		t.Fatalf("Encode(%d, %d, %v, %v): % x, %v, want % x", s.symbols, s.contexts, s.syms, s.ctx, got, e, want)
	}
	size := model.Plain(s.symbols, s.syms)
	if size != len(s.plain()) || len(got) > size { // P5.3
		t.Fatalf("Plain(%d, %v): %d, want %d; %d bytes", s.symbols, s.syms, size, len(s.plain()), len(got))
	}
	syms, e := model.Decode(got, s.symbols, s.contexts, s.ctx)
	if e != api.OK || !slices.Equal(syms, s.syms) {
		t.Fatalf("Decode(% x, %d, %d, %v): %v, %v, want %v", got, s.symbols, s.contexts, s.ctx, syms, e, s.syms)
	}
	refuse(t, other, s)
}

// refuse checks that there is no sequence with these bytes.
func refuse(t *testing.T, b []byte, s sequence) {
	t.Helper()
	checkDecodeError(t, b, s.symbols, s.contexts, s.ctx, api.ErrForm)
}

func checkDecodeError(t *testing.T, b []byte, symbols, contexts int, ctx []int, want api.Errno) {
	t.Helper()
	if syms, e := model.Decode(b, symbols, contexts, ctx); e != want || len(syms) != 0 {
		t.Fatalf("Decode(% x, %d, %d, %d contexts): %d symbols, %v, want %v", head(b), symbols, contexts, len(ctx), len(syms), e, want)
	}
}

func checkEncodeError(t *testing.T, symbols, contexts int, syms, ctx []int, want api.Errno) {
	t.Helper()
	if b, e := model.Encode(symbols, contexts, syms, ctx); e != want || len(b) != 0 {
		t.Fatalf("Encode(%d, %d, %d symbols, %d contexts): % x, %v, want %v", symbols, contexts, len(syms), len(ctx), head(b), e, want)
	}
}

// head returns as much as a message has room for.
func head(b []byte) []byte {
	return b[:min(len(b), 40)]
}

// random returns a sequence of that length, in which a context has symbols
// that are frequent.
func random(rng *rand.Rand, symbols, contexts, length int) sequence {
	s := sequence{symbols: symbols, contexts: contexts}
	spread := 1 + rng.Intn(6)
	for range length {
		c := rng.Intn(contexts)
		sym := (7*c + 3) % symbols
		if rng.Intn(spread) != 0 {
			sym = rng.Intn(symbols)
		}
		s.syms, s.ctx = append(s.syms, sym), append(s.ctx, c)
	}
	return s
}

func TestExample(t *testing.T) { // P5.1, P5.3
	s := sequence{4, 1, []int{3, 0, 2}, []int{0, 0, 0}}
	if !bytes.Equal(s.plain(), []byte{0x00, 0xC8}) || model.Plain(4, s.syms) != 2 {
		t.Errorf("% x, %d", s.plain(), model.Plain(4, s.syms))
	}
	check(t, s)
}

func TestWorkedOut(t *testing.T) { // P5.1, P5.2
	ones := slices.Repeat([]int{1}, 16)
	apart := []int{0, 1, 2, 3, 4, 5, 6, 7, 8, 9, 10, 11, 12, 13, 14, 15}
	pairs := slices.Repeat([]int{3, 3, 1, 1}, 4)
	twos := []int{2, 2, 2, 2, 1, 2, 2, 2, 2, 2, 2, 2, 0, 2, 2, 2, 2, 2, 2, 2}
	halves := slices.Concat(make([]int, 10), slices.Repeat([]int{1}, 10))
	for _, c := range []struct {
		sequence
		want []byte
	}{
		{sequence{2, 1, ones, make([]int, 16)}, []byte{1, 0x8D}},
		{sequence{2, 2, ones, slices.Repeat([]int{0, 1}, 8)}, []byte{1, 0xCA}},
		{sequence{2, 16, ones, apart}, []byte{0, 0xFF, 0xFF}},
		{sequence{4, 3, pairs, slices.Repeat([]int{0, 0, 1, 1}, 4)}, []byte{1, 0xD7}},
		{sequence{4, 1, pairs, make([]int, 16)}, []byte{1, 0xC6, 0x6A, 0x7D}},
		{sequence{3, 2, twos, halves}, []byte{1, 0xB4, 0x9C, 0x9E}},
		{
			sequence{256, 1, slices.Repeat([]int{65, 66}, 20), make([]int, 40)},
			[]byte{1, 0x41, 0x57, 0x53, 0xC7, 0x95, 0x52, 0x46, 0xD4, 0xD1, 0x80, 0x56},
		},
		{sequence{5, 2, []int{4, 0, 3, 1}, []int{0, 1, 0, 1}}, []byte{0, 0x81, 0x90}},
	} {
		b, e := model.Encode(c.symbols, c.contexts, c.syms, c.ctx)
		if e != api.OK || !bytes.Equal(b, c.want) {
			t.Errorf("Encode(%d, %d, %v, %v): % x, %v, want % x", c.symbols, c.contexts, c.syms, c.ctx, b, e, c.want)
		}
		check(t, c.sequence)
	}
}

func TestNoSymbols(t *testing.T) { // P5.1, P5.2, P5.3
	for _, list := range [][]int{nil, {}} {
		for _, symbols := range []int{1, 2, 5, 256} {
			for _, contexts := range []int{1, 64} {
				s := sequence{symbols, contexts, list, list}
				check(t, s)
				if b, _ := model.Encode(symbols, contexts, list, list); !bytes.Equal(b, []byte{0}) {
					t.Errorf("%d symbols: % x", symbols, b)
				}
				for _, b := range [][]byte{nil, {}, {1}, {2}, {0, 0}, {1, 0}, {0, 128}} {
					refuse(t, b, s)
				}
			}
		}
	}
}

func TestOneSymbolInTheAlphabet(t *testing.T) { // P5.1, P5.2, P5.3
	for _, length := range []int{1, 2, 7, 8, 9, 3000, most} {
		s := sequence{1, 3, make([]int, length), make([]int, length)}
		for i := range s.ctx {
			s.ctx[i] = i % 3
		}
		check(t, s)
		if b, _ := model.Encode(1, 3, s.syms, s.ctx); !bytes.Equal(b, []byte{0}) || model.Plain(1, s.syms) != 1 {
			t.Errorf("%d elements: % x, Plain %d", length, b, model.Plain(1, s.syms))
		}
		for _, b := range [][]byte{nil, {1}, {2}, {0, 0}, {1, 0}, {1, 1}} {
			refuse(t, b, s)
		}
	}
}

func TestWidths(t *testing.T) { // P5.1, P5.2, P5.3
	rng := rand.New(rand.NewSource(1))
	for symbols := 1; symbols <= 256; symbols++ {
		check(t, sequence{symbols, 1, []int{symbols - 1}, []int{0}})
		for range 3 {
			check(t, random(rng, symbols, 1+rng.Intn(64), rng.Intn(90)))
		}
	}
}

func TestManySymbols(t *testing.T) { // P5.1, P5.2
	s := sequence{symbols: 256, contexts: 1}
	for sym := range 256 {
		s.syms, s.ctx = append(s.syms, sym), append(s.ctx, 0)
	}
	check(t, s)
	if b, _ := s.bytes(); b[0] != 0 {
		t.Error("each symbol once should be plain")
	}
	s.syms = slices.Repeat([]int{255, 255, 255, 0}, 64)
	check(t, s)
	if b, _ := s.bytes(); b[0] != 1 {
		t.Error("two symbols of 256 should be coded")
	}
}

func TestManyContexts(t *testing.T) { // P5.1, P5.2
	s := sequence{symbols: 6, contexts: 64}
	for i := range 64 * 40 {
		s.syms, s.ctx = append(s.syms, i*7%64%6), append(s.ctx, i*7%64)
	}
	check(t, s)
	joined := sequence{6, 64, s.syms, make([]int, len(s.ctx))}
	check(t, joined)
	own, _ := s.bytes()
	shared, _ := joined.bytes()
	if len(own) >= len(shared) {
		t.Errorf("%d bytes with contexts, %d without", len(own), len(shared))
	}
	checkDecodeOther(t, own, joined)
}

// checkDecodeOther decodes bytes with contexts that are not theirs: what comes
// out, if anything does, has to have these bytes.
func checkDecodeOther(t *testing.T, b []byte, s sequence) {
	t.Helper()
	syms, e := model.Decode(b, s.symbols, s.contexts, s.ctx)
	if e == api.ErrForm && len(syms) == 0 {
		return
	}
	s.syms = syms
	if used, _ := s.bytes(); e != api.OK || len(syms) != len(s.ctx) || !bytes.Equal(used, b) {
		t.Fatalf("Decode(% x): %v, whose bytes are % x", head(b), e, head(used))
	}
}

func TestContextsThatNeverCome(t *testing.T) { // P5.1, P5.2
	rng := rand.New(rand.NewSource(2))
	for range 40 {
		s := random(rng, 1+rng.Intn(20), 3, rng.Intn(300))
		few, _ := s.bytes()
		s.contexts = 64
		check(t, s)
		for i := range s.ctx {
			s.ctx[i] = []int{63, 1, 40}[s.ctx[i]]
		}
		check(t, s)
		if many, _ := s.bytes(); !bytes.Equal(few, many) {
			t.Fatalf("% x, with further contexts % x", few, many)
		}
	}
}

func TestGreatestLength(t *testing.T) { // P5.1, P5.2, P5.3
	rng := rand.New(rand.NewSource(3))
	even := sequence{256, 64, make([]int, most), make([]int, most)}
	rare := sequence{256, 2, make([]int, most), make([]int, most)}
	zero := sequence{2, 1, make([]int, most), make([]int, most)}
	for i := range most {
		even.syms[i], even.ctx[i] = rng.Intn(256), rng.Intn(64)
		rare.syms[i], rare.ctx[i] = 255-rng.Intn(256)*rng.Intn(2)*rng.Intn(2), rng.Intn(2)
	}
	for i, s := range []sequence{even, rare, zero} {
		check(t, s)
		b, _ := s.bytes()
		if coded := b[0] == 1; coded != (i > 0) {
			t.Errorf("sequence %d: %d bytes of the form %d", i, len(b), b[0])
		}
		for _, other := range [][]byte{b[:len(b)-1], append(slices.Clone(b), 0)} {
			checkDecodeOther(t, other, s)
		}
	}
	if model.Plain(256, even.syms) != 1+most || model.Plain(2, zero.syms) != 1+most/8 {
		t.Errorf("Plain: %d, %d", model.Plain(256, even.syms), model.Plain(2, zero.syms))
	}
}

func TestOneElementTooMany(t *testing.T) { // P5.1, P5.2
	long, wrong := make([]int, most+1), make([]int, most+1)
	wrong[most] = -1
	checkEncodeError(t, 1, 1, long, long, api.ErrFull)
	checkEncodeError(t, 256, 64, long, long, api.ErrFull)
	checkEncodeError(t, 2, 1, wrong, long, api.ErrFull)
	checkEncodeError(t, 2, 1, long, wrong, api.ErrFull)
	for _, b := range [][]byte{nil, {0}, {1}, {2}} {
		checkDecodeError(t, b, 1, 1, long, api.ErrFull)
		checkDecodeError(t, b, 2, 64, long, api.ErrFull)
		checkDecodeError(t, b, 2, 64, wrong, api.ErrFull)
	}
	if n := model.Plain(2, long); n != 1+most/8+1 {
		t.Errorf("Plain: %d", n)
	}
}

func TestFormsOfTheSameLength(t *testing.T) { // P5.1, P5.2
	// The symbol 1 of two has the upper half: 80 in either form.
	s := sequence{2, 1, []int{1}, []int{0}}
	check(t, s)
	if b, e := model.Encode(2, 1, s.syms, s.ctx); e != api.OK || !bytes.Equal(b, []byte{0, 0x80}) {
		t.Errorf("% x, %v", b, e)
	}
	if syms, e := model.Decode([]byte{0, 0x80}, 2, 1, s.ctx); e != api.OK || !slices.Equal(syms, s.syms) {
		t.Errorf("%v, %v", syms, e)
	}
	refuse(t, []byte{1, 0x80}, s)
	// The symbol 0 has the lower half, with the empty code.
	s.syms = []int{0}
	check(t, s)
	if b, e := model.Encode(2, 1, s.syms, s.ctx); e != api.OK || !bytes.Equal(b, []byte{1}) {
		t.Errorf("% x, %v", b, e)
	}
	refuse(t, []byte{0, 0}, s)

	rng := rand.New(rand.NewSource(4))
	same, shorter, longer := 0, 0, 0
	for range 3000 {
		s := random(rng, 1+rng.Intn(8), 1+rng.Intn(4), 1+rng.Intn(60))
		check(t, s)
		switch coded, plain := len(s.coded()), len(s.plain()); {
		case coded < plain:
			shorter++
		case coded > plain:
			longer++
		case coded > 3:
			same++
		}
	}
	if same < 20 || shorter < 20 || longer < 20 {
		t.Errorf("the coded form is as long %d times, shorter %d times, longer %d times", same, shorter, longer)
	}
}

// each calls the function for all lists of that length of integers below bound.
func each(bound, length int, do func([]int)) {
	list := make([]int, length)
	for {
		do(list)
		at := 0
		for ; at < length; at++ {
			list[at]++
			if list[at] < bound {
				break
			}
			list[at] = 0
		}
		if at == length {
			return
		}
	}
}

func TestAllBytesOfShortSequences(t *testing.T) { // P5.1, P5.2, P5.3
	for _, c := range []struct {
		symbols, contexts int
		ctx               []int
	}{
		{1, 1, []int{0, 0, 0}},
		{2, 1, []int{0}},
		{2, 1, make([]int, 8)},
		{2, 2, []int{0, 1, 1, 0, 1, 1, 0, 0, 1}},
		{3, 2, []int{0, 0, 1, 0, 0}},
		{3, 1, make([]int, 8)},
		{4, 2, []int{1, 1, 0, 1, 1}},
		{5, 1, []int{0, 0, 0, 0}},
		{200, 1, []int{0}},
		{256, 1, []int{0}},
	} {
		seen := map[string]bool{}
		longest := 0
		each(c.symbols, len(c.ctx), func(syms []int) {
			s := sequence{c.symbols, c.contexts, syms, c.ctx}
			check(t, s)
			b, _ := s.bytes()
			if seen[string(b)] {
				t.Fatalf("% x are the bytes of two sequences", b)
			}
			seen[string(b)] = true
			longest = max(longest, len(b))
		})
		s := sequence{c.symbols, c.contexts, nil, c.ctx}
		for size := range longest + 1 {
			if size == 0 {
				refuse(t, nil, s)
				continue
			}
			each(256, size-1, func(tail []int) {
				for first := range byte(3) {
					b := []byte{first}
					for _, x := range tail {
						b = append(b, byte(x))
					}
					if !seen[string(b)] {
						refuse(t, b, s)
					}
				}
			})
		}
	}
}

func TestDamagedBytes(t *testing.T) { // P5.2, R7
	rng := rand.New(rand.NewSource(5))
	var early, late, other [2]int
	for range 400 {
		s := random(rng, 1+rng.Intn(256), 1+rng.Intn(64), 1+rng.Intn(200))
		b, _ := s.bytes()
		form := b[0]
		try := func(count *[2]int, b []byte) {
			t.Helper()
			checkDecodeOther(t, b, s)
			if syms, _ := model.Decode(b, s.symbols, s.contexts, s.ctx); len(syms) == 0 {
				count[form]++
			}
		}
		for range 4 {
			try(&early, b[:rng.Intn(len(b))])
			try(&late, append(slices.Clone(b), byte(rng.Intn(256))))
			c := slices.Clone(b)
			c[rng.Intn(len(c))] += byte(1 + rng.Intn(255))
			try(&other, c)
		}
		try(&late, append(slices.Clone(b), 0))
		refuse(t, nil, s)
		for first := 2; first < 256; first++ {
			refuse(t, append([]byte{byte(first)}, b[1:]...), s)
		}
	}
	for form := range 2 {
		if early[form] < 20 || late[form] < 20 || other[form] < 20 {
			t.Errorf("form %d: %d too short, %d too long, %d others refused", form, early[form], late[form], other[form])
		}
	}
}

func TestDamagedPlainForm(t *testing.T) { // P5.2
	s := sequence{5, 2, []int{4, 0, 3, 1}, []int{0, 1, 0, 1}}
	check(t, s)
	for _, b := range [][]byte{
		{0},
		{0, 0x81},
		{0, 0x81, 0x90, 0},
		{0, 0x81, 0x91},                      // a spare bit is 1
		{0, 0x81, 0x98},                      // so is this one
		{0, 0xA1, 0x90},                      // the symbol 5 of 5
		{0, 0xE1, 0x90},                      // the symbol 7
		{0, 0x81, 0x90, 0, 0, 0, 0, 0, 0, 0}, // far too long
		{0, 0, 0},                            // the coded form is shorter
		{2, 0x81, 0x90},
		{255, 0x81, 0x90},
	} {
		refuse(t, b, s)
	}
	other := []byte{0, 0x81, 0x80}
	if syms, e := model.Decode(other, 5, 2, s.ctx); e != api.OK || !slices.Equal(syms, []int{4, 0, 3, 0}) {
		t.Errorf("Decode(% x): %v, %v", other, syms, e)
	}
}

func TestDamagedCodedForm(t *testing.T) { // P5.2
	s := sequence{2, 1, slices.Repeat([]int{1}, 16), make([]int, 16)}
	for _, b := range [][]byte{
		{1, 0x8D, 0},       // the same number with a byte more
		{1, 0x8D, 1},       // as long as the plain form
		{1, 0x8E},          // in the interval too, but not the least
		{1, 0xFF},          // and so is this
		{1, 0},             // the code of the symbols 0 is the empty string
		{1, 0x8D, 0, 0, 0}, // longer than the plain form
		{0, 0xFF, 0xFF},    // the plain form
		{3, 0x8D},
	} {
		refuse(t, b, s)
	}
	if syms, e := model.Decode([]byte{1}, 2, 1, s.ctx); e != api.OK || !slices.Equal(syms, make([]int, 16)) {
		t.Errorf("no code: %v, %v", syms, e)
	}
}

func TestLongBytesAreRefused(t *testing.T) { // P5.2, R7
	b := make([]byte, 1<<24)
	s := sequence{2, 1, []int{0, 1, 0}, []int{0, 0, 0}}
	var before, after runtime.MemStats
	runtime.ReadMemStats(&before)
	for first := range byte(3) {
		b[0] = first
		refuse(t, b, s)
		b[len(b)-1] ^= 1
		refuse(t, b, s)
	}
	runtime.ReadMemStats(&after)
	if used := after.TotalAlloc - before.TotalAlloc; used > 1<<20 {
		t.Errorf("%d bytes of memory for bytes that are too long", used)
	}
}

func TestEncodeErrors(t *testing.T) { // P5.1
	one, two := []int{0}, []int{0, 1}
	long := make([]int, most+1)
	for _, n := range []int{0, -1, math.MinInt, 257, 258, 1 << 32, math.MaxInt} {
		checkEncodeError(t, n, 1, one, one, api.ErrRange)
		checkEncodeError(t, n, 1, nil, nil, api.ErrRange)
		checkEncodeError(t, n, 1, two, one, api.ErrRange)
		checkEncodeError(t, n, 0, two, one, api.ErrRange)
		checkEncodeError(t, n, 1, long, long, api.ErrRange)
	}
	for _, n := range []int{0, -1, math.MinInt, 65, 66, 256, 1 << 32, math.MaxInt} {
		checkEncodeError(t, 2, n, one, one, api.ErrRange)
		checkEncodeError(t, 2, n, nil, nil, api.ErrRange)
		checkEncodeError(t, 2, n, one, two, api.ErrRange)
		checkEncodeError(t, 2, n, long, long, api.ErrRange)
	}
	checkEncodeError(t, 2, 2, one, two, api.ErrArg)
	checkEncodeError(t, 2, 2, two, one, api.ErrArg)
	checkEncodeError(t, 2, 2, nil, one, api.ErrArg)
	checkEncodeError(t, 2, 2, one, nil, api.ErrArg)
	checkEncodeError(t, 1, 1, two, one, api.ErrArg)
	checkEncodeError(t, 1, 1, one, two, api.ErrArg)
	checkEncodeError(t, 2, 2, long, long[1:], api.ErrArg)
	checkEncodeError(t, 2, 2, long[1:], long, api.ErrArg)
	for _, n := range []int{-1, math.MinInt, 2, 3, 256, 1 << 32, math.MaxInt} {
		for at := range 3 {
			wrong := make([]int, 3)
			wrong[at] = n
			checkEncodeError(t, 2, 2, wrong, make([]int, 3), api.ErrRange)
			checkEncodeError(t, 2, 2, make([]int, 3), wrong, api.ErrRange)
			checkEncodeError(t, 2, 2, wrong, wrong, api.ErrRange)
			checkEncodeError(t, 1, 2, wrong, make([]int, 3), api.ErrRange)
		}
	}
	checkEncodeError(t, 256, 64, []int{256}, one, api.ErrRange)
	checkEncodeError(t, 256, 64, one, []int{64}, api.ErrRange)
	checkEncodeError(t, 200, 1, []int{200}, one, api.ErrRange)
	checkEncodeError(t, 2, 64, []int{5}, []int{5}, api.ErrRange)
	check(t, sequence{256, 64, []int{255}, []int{63}})
}

func TestDecodeErrors(t *testing.T) { // P5.2
	one := []int{0}
	long := make([]int, most+1)
	for _, b := range [][]byte{nil, {0}, {1}, {0, 0x80}, {2, 3}} {
		for _, n := range []int{0, -1, math.MinInt, 257, 1 << 32, math.MaxInt} {
			checkDecodeError(t, b, n, 1, one, api.ErrRange)
			checkDecodeError(t, b, n, 1, nil, api.ErrRange)
			checkDecodeError(t, b, n, 1, long, api.ErrRange)
		}
		for _, n := range []int{0, -1, math.MinInt, 65, 1 << 32, math.MaxInt} {
			checkDecodeError(t, b, 2, n, one, api.ErrRange)
			checkDecodeError(t, b, 2, n, nil, api.ErrRange)
			checkDecodeError(t, b, 2, n, long, api.ErrRange)
		}
		for _, n := range []int{-1, math.MinInt, 3, 64, 1 << 32, math.MaxInt} {
			for at := range 3 {
				wrong := make([]int, 3)
				wrong[at] = n
				checkDecodeError(t, b, 2, 3, wrong, api.ErrRange)
				checkDecodeError(t, b, 1, 3, wrong, api.ErrRange)
			}
		}
		checkDecodeError(t, b, 2, 64, []int{64}, api.ErrRange)
	}
}

func TestPlain(t *testing.T) { // P5.3
	for _, n := range []int{0, -1, math.MinInt, 257, 1 << 32, math.MaxInt} {
		if model.Plain(n, nil) != 0 || model.Plain(n, []int{0, 0}) != 0 {
			t.Errorf("Plain of %d symbols isn't 0", n)
		}
	}
	for _, c := range []struct{ symbols, length, want int }{
		{1, 0, 1}, {2, 0, 1}, {256, 0, 1}, {1, 100, 1},
		{2, 1, 2}, {2, 8, 2}, {2, 9, 3}, {3, 4, 2}, {3, 5, 3}, {4, 4, 2}, {4, 5, 3},
		{5, 8, 4}, {8, 8, 4}, {9, 8, 5}, {16, 3, 3}, {17, 8, 6}, {128, 8, 8}, {129, 8, 9}, {255, 8, 9}, {256, 8, 9},
		{256, most, most + 1}, {129, most, most + 1}, {128, most, most/8*7 + 1},
	} {
		if got := model.Plain(c.symbols, make([]int, c.length)); got != c.want {
			t.Errorf("Plain(%d, %d zeros): %d, want %d", c.symbols, c.length, got, c.want)
		}
	}
}

func TestArgumentsStayAsTheyAre(t *testing.T) { // R3, R4
	rng := rand.New(rand.NewSource(6))
	for range 100 {
		s := random(rng, 1+rng.Intn(20), 1+rng.Intn(5), 1+rng.Intn(80))
		syms, ctx := slices.Clone(s.syms), slices.Clone(s.ctx)
		b, _ := model.Encode(s.symbols, s.contexts, s.syms, s.ctx)
		again, _ := model.Encode(s.symbols, s.contexts, s.syms, s.ctx)
		model.Plain(s.symbols, s.syms)
		kept := slices.Clone(b)
		first, _ := model.Decode(b, s.symbols, s.contexts, s.ctx)
		second, _ := model.Decode(b, s.symbols, s.contexts, s.ctx)
		if !slices.Equal(s.syms, syms) || !slices.Equal(s.ctx, ctx) || !bytes.Equal(b, kept) {
			t.Fatal("an argument has changed")
		}
		for i := range b {
			b[i] ^= 255
		}
		for i := range first {
			first[i] = -1
		}
		if !bytes.Equal(again, kept) || !slices.Equal(second, syms) || !slices.Equal(s.ctx, ctx) {
			t.Fatal("two results share memory, or depend on the calls before")
		}
	}
}
