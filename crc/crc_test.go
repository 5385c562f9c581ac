package crc_test

import (
	"bytes"
	"encoding/binary"
	"hash/crc32"
	"math/rand"
	"slices"
	"testing"

	"gypsum/crc"
)

// divisor is the constant of a step.
const divisor = 0xedb88320

// told returns the checksum of b, told from the document.
func told(b []byte) uint32 {
	register := uint32(0xffffffff)
	for _, c := range b {
		register ^= uint32(c)
		for range 8 {
			out := register & 1
			register >>= 1
			if out == 1 {
				register ^= divisor
			}
		}
	}
	return register ^ 0xffffffff
}

// fill returns b and four bytes more, so that the whole has that checksum. The
// steps are undone: the bit that went out is the highest bit of the register
// behind the step, as it is the highest one of the divisor.
func fill(b []byte, sum uint32) []byte {
	register := ^sum
	for range 32 {
		if register>>31 == 1 {
			register = (register^divisor)<<1 | 1
		} else {
			register <<= 1
		}
	}
	return binary.LittleEndian.AppendUint32(slices.Clone(b), register^^told(b))
}

// random returns that many bytes.
func random(rng *rand.Rand, length int) []byte {
	b := make([]byte, length)
	rng.Read(b)
	return b
}

// allValues returns a byte of each value.
func allValues() []byte {
	var b []byte
	for v := range 256 {
		b = append(b, byte(v))
	}
	return b
}

// texts returns byte strings of many kinds.
func texts() [][]byte {
	list := [][]byte{nil, {}, []byte("123456789"), allValues(), slices.Repeat(allValues(), 9)}
	for v := range 256 {
		list = append(list, []byte{byte(v)})
	}
	for _, length := range []int{1, 2, 3, 4, 5, 7, 8, 9, 31, 32, 33, 255, 256, 257, 4096, 65536} {
		list = append(list, make([]byte, length), bytes.Repeat([]byte{0xff}, length))
	}
	rng := rand.New(rand.NewSource(6))
	for length := range 300 {
		list = append(list, random(rng, length))
	}
	return append(list, random(rng, 1<<20+3))
}

// join returns a followed by b, in new memory.
func join(a, b []byte) []byte {
	return slices.Concat(a, b)
}

// xor returns the exclusive or of two byte strings of the same length.
func xor(a, b []byte) []byte {
	c := slices.Clone(a)
	for i := range c {
		c[i] ^= b[i]
	}
	return c
}

func TestKnownSums(t *testing.T) { // P6.1: the chapter's examples, and sums that are known of CRC-32
	up, down := allValues()[:32], slices.Clone(allValues()[:32])
	slices.Reverse(down)
	for _, c := range []struct {
		text string
		want uint32
	}{
		{"123456789", 0xcbf43926},
		{"", 0},
		{"a", 0xe8b7be43},
		{"abc", 0x352441c2},
		{"message digest", 0x20159d7f},
		{"abcdefghijklmnopqrstuvwxyz", 0x4c2750bd},
		{"The quick brown fox jumps over the lazy dog", 0x414fa339},
		{"\x00", 0xd202ef8d},
		{"\xff", 0xff000000},
		{"\x00\x00\x00\x00", 0x2144df1c},
		{"\xff\xff\xff\xff", 0xffffffff},
		{string(make([]byte, 32)), 0x190a55ad},
		{string(bytes.Repeat([]byte{0xff}, 32)), 0xff6cab0b},
		{string(up), 0x91267e8a},
		{string(down), 0x9ab0ef72},
		{string(allValues()), 0x29058c73},
	} {
		if s := crc.Sum([]byte(c.text)); s != c.want {
			t.Errorf("Sum(%q) = %08x, want %08x", c.text, s, c.want)
		}
		if s := told([]byte(c.text)); s != c.want {
			t.Errorf("told of %q: %08x, want %08x", c.text, s, c.want)
		}
	}
}

func TestSumOfNothing(t *testing.T) { // P6.1, R3
	if s := crc.Sum(nil); s != 0 {
		t.Errorf("Sum(nil) = %08x", s)
	}
	if s := crc.Sum([]byte{}); s != 0 {
		t.Errorf("Sum of the empty string = %08x", s)
	}
}

func TestSumIsAsTold(t *testing.T) { // P6.1
	for _, b := range texts() {
		want := told(b)
		if s := crc.Sum(b); s != want {
			t.Fatalf("%d bytes: Sum = %08x, want %08x", len(b), s, want)
		}
		if s := crc32.ChecksumIEEE(b); s != want {
			t.Fatalf("%d bytes: told %08x, another program %08x", len(b), want, s)
		}
	}
}

func TestSumOfTwoBytes(t *testing.T) { // P6.1: all of them, with sums that are all apart
	seen := map[uint32]bool{}
	for n := range 1 << 16 {
		b := []byte{byte(n >> 8), byte(n)}
		s := crc.Sum(b)
		if s != told(b) || seen[s] {
			t.Fatalf("Sum(% x) = %08x, want %08x; seen before: %v", b, s, told(b), seen[s])
		}
		seen[s] = true
	}
}

func TestSumOfEachValueAtEachPlace(t *testing.T) { // P6.1
	for length := 1; length <= 9; length++ {
		for at := range length {
			for v := range 256 {
				b := bytes.Repeat([]byte{0x5a}, length)
				b[at] = byte(v)
				if s := crc.Sum(b); s != told(b) {
					t.Fatalf("Sum(% x) = %08x, want %08x", b, s, told(b))
				}
			}
		}
	}
}

func TestUpdateGoesOn(t *testing.T) { // P6.1
	for _, b := range texts() {
		want := told(b)
		places := []int{0, len(b) / 3, len(b) / 2, len(b) - min(len(b), 1), len(b)}
		if len(b) < 70 {
			places = nil
			for i := range len(b) + 1 {
				places = append(places, i)
			}
		}
		for _, i := range places {
			if s := crc.Update(crc.Sum(b[:i]), b[i:]); s != want {
				t.Fatalf("%d bytes, from %d: Update = %08x, want %08x", len(b), i, s, want)
			}
		}
	}
}

func TestUpdateInManyPieces(t *testing.T) { // P6.1
	rng := rand.New(rand.NewSource(61))
	for range 200 {
		b := random(rng, rng.Intn(2000))
		sum, at := crc.Sum(nil), 0
		for at < len(b) {
			next := min(len(b), at+rng.Intn(40))
			sum = crc.Update(sum, b[at:next])
			at = next
			if sum != told(b[:at]) {
				t.Fatalf("after %d of %d bytes: %08x, want %08x", at, len(b), sum, told(b[:at]))
			}
		}
	}
}

// sums returns sums at the edges, and others.
func sums() []uint32 {
	list := []uint32{0, 1, 2, 0x7fffffff, 0x80000000, 0xfffffffe, 0xffffffff, divisor, ^uint32(divisor), 0xcbf43926}
	rng := rand.New(rand.NewSource(62))
	for bit := range 32 {
		list = append(list, 1<<bit, ^uint32(1<<bit))
	}
	for range 200 {
		list = append(list, rng.Uint32())
	}
	return list
}

func TestUpdateWithNothing(t *testing.T) { // P6.1
	for _, sum := range sums() {
		if s := crc.Update(sum, nil); s != sum {
			t.Errorf("Update(%08x, nil) = %08x", sum, s)
		}
		if s := crc.Update(sum, []byte{}); s != sum {
			t.Errorf("Update(%08x, the empty string) = %08x", sum, s)
		}
	}
}

func TestUpdateOfTheSumZero(t *testing.T) { // P6.1: the empty string has it, and so have others
	zero := fill(nil, 0)
	if crc.Sum(zero) != 0 {
		t.Fatalf("Sum(% x) = %08x", zero, crc.Sum(zero))
	}
	for _, b := range texts() {
		s := crc.Update(0, b)
		if s != told(b) || s != told(join(zero, b)) {
			t.Fatalf("%d bytes: Update = %08x, want %08x and %08x", len(b), s, told(b), told(join(zero, b)))
		}
	}
}

func TestUpdateOfAnySum(t *testing.T) { // P6.1: every sum is that of some bytes
	rng := rand.New(rand.NewSource(63))
	for _, sum := range sums() {
		first := fill(nil, sum)
		if s := crc.Sum(first); s != sum {
			t.Fatalf("Sum(% x) = %08x, want %08x", first, s, sum)
		}
		for _, b := range [][]byte{{0}, {0xff}, fill(nil, sum), []byte("123456789"), random(rng, rng.Intn(60))} {
			if s, want := crc.Update(sum, b), told(join(first, b)); s != want {
				t.Fatalf("Update(%08x, % x) = %08x, want %08x", sum, b, s, want)
			}
		}
	}
}

func TestUpdateOfOneSumOfTwoTexts(t *testing.T) { // P6.1: which of them it was makes no difference
	rng := rand.New(rand.NewSource(64))
	for range 1000 {
		one := random(rng, rng.Intn(50))
		other := fill(random(rng, rng.Intn(50)), told(one))
		if crc.Sum(one) != crc.Sum(other) {
			t.Fatalf("sums %08x and %08x", crc.Sum(one), crc.Sum(other))
		}
		more := random(rng, 1+rng.Intn(9))
		s := crc.Update(crc.Sum(one), more)
		if s != told(join(one, more)) || s != told(join(other, more)) {
			t.Fatalf("Update = %08x, want %08x and %08x", s, told(join(one, more)), told(join(other, more)))
		}
	}
}

func TestHashIsAsTold(t *testing.T) { // P6.2
	rng := rand.New(rand.NewSource(65))
	for range 300 {
		b := random(rng, rng.Intn(1500))
		var h crc.Hash
		at := 0
		for at < len(b) {
			next := min(len(b), at+rng.Intn(60))
			h.Write(b[at:next])
			at = next
			if rng.Intn(3) == 0 && h.Sum() != told(b[:at]) {
				t.Fatalf("after %d of %d bytes: %08x, want %08x", at, len(b), h.Sum(), told(b[:at]))
			}
		}
		if h.Sum() != told(b) {
			t.Fatalf("%d bytes: %08x, want %08x", len(b), h.Sum(), told(b))
		}
	}
}

func TestHashAtOnceAndByteByByte(t *testing.T) { // P6.2
	for _, b := range texts() {
		var h crc.Hash
		h.Write(b)
		if h.Sum() != told(b) {
			t.Fatalf("%d bytes at once: %08x, want %08x", len(b), h.Sum(), told(b))
		}
		if len(b) > 5000 {
			continue
		}
		var single crc.Hash
		for i := range b {
			single.Write(b[i : i+1])
		}
		if single.Sum() != told(b) {
			t.Fatalf("%d bytes one by one: %08x, want %08x", len(b), single.Sum(), told(b))
		}
	}
}

func TestHashWithNothingWritten(t *testing.T) { // P6.2
	var h crc.Hash
	made := new(crc.Hash)
	literal := &crc.Hash{}
	for range 2 {
		if h.Sum() != 0 || made.Sum() != 0 || literal.Sum() != 0 {
			t.Errorf("%08x, %08x, %08x", h.Sum(), made.Sum(), literal.Sum())
		}
	}
}

func TestWriteOfNothing(t *testing.T) { // P6.2
	var h crc.Hash
	h.Write(nil)
	h.Write([]byte{})
	if h.Sum() != 0 {
		t.Errorf("nothing alone: %08x", h.Sum())
	}
	h.Write([]byte("12345"))
	h.Write(nil)
	h.Write([]byte{})
	if h.Sum() != told([]byte("12345")) {
		t.Errorf("nothing behind: %08x", h.Sum())
	}
	h.Write([]byte("6789"))
	if h.Sum() != 0xcbf43926 {
		t.Errorf("nothing between: %08x", h.Sum())
	}
}

func TestSumBetweenWrites(t *testing.T) { // P6.2
	text := []byte("123456789")
	var h crc.Hash
	for i := range text {
		for range 3 {
			if h.Sum() != told(text[:i]) {
				t.Fatalf("after %d bytes: %08x, want %08x", i, h.Sum(), told(text[:i]))
			}
		}
		h.Write(text[i : i+1])
	}
	if h.Sum() != 0xcbf43926 || h.Sum() != 0xcbf43926 {
		t.Errorf("%08x", h.Sum())
	}
}

func TestHashThroughTheSumZero(t *testing.T) { // P6.2: a sum of 0 isn't taken for nothing
	for _, first := range [][]byte{fill(nil, 0), fill([]byte("gypsum"), 0)} {
		var h crc.Hash
		h.Write(first)
		if h.Sum() != 0 {
			t.Fatalf("% x: %08x", first, h.Sum())
		}
		h.Write([]byte("a"))
		if want := told(join(first, []byte("a"))); h.Sum() != want {
			t.Errorf("%08x, want %08x", h.Sum(), want)
		}
	}
}

func TestHashesSideBySide(t *testing.T) { // P6.2, R4
	var g, h crc.Hash
	g.Write([]byte("1234"))
	h.Write([]byte("ab"))
	g.Write([]byte("56789"))
	if h.Sum() != told([]byte("ab")) {
		t.Errorf("%08x", h.Sum())
	}
	h.Write([]byte("c"))
	if g.Sum() != 0xcbf43926 || h.Sum() != 0x352441c2 {
		t.Errorf("%08x, %08x", g.Sum(), h.Sum())
	}
	if crc.Sum([]byte("a")) != 0xe8b7be43 || crc.Update(0xcbf43926, nil) != 0xcbf43926 {
		t.Error("Sum and Update hang on what was written")
	}
	var fresh crc.Hash
	if fresh.Sum() != 0 {
		t.Errorf("a fresh one: %08x", fresh.Sum())
	}
}

func TestHashCopied(t *testing.T) { // P6.2, R4
	var h crc.Hash
	h.Write([]byte("12345"))
	c := h
	c.Write([]byte("x"))
	h.Write([]byte("6789"))
	if h.Sum() != 0xcbf43926 || c.Sum() != told([]byte("12345x")) {
		t.Errorf("%08x, %08x", h.Sum(), c.Sum())
	}
}

func TestBytesWrittenOverBehindAWrite(t *testing.T) { // P6.2, R3
	buffer := []byte("12345")
	var h crc.Hash
	h.Write(buffer)
	copy(buffer, "xxxxx")
	if h.Sum() != told([]byte("12345")) {
		t.Errorf("%08x", h.Sum())
	}
	copy(buffer, "6789")
	h.Write(buffer[:4])
	clear(buffer)
	if h.Sum() != 0xcbf43926 {
		t.Errorf("%08x", h.Sum())
	}
}

func TestBytesHandedInStay(t *testing.T) { // P6.1, P6.2, R3
	for _, b := range texts() {
		// What lies behind the bytes, in the same memory, is none of them.
		memory := join(b, []byte("behind"))
		given := memory[:len(b)]
		before := slices.Clone(memory)
		var h crc.Hash
		crc.Sum(given)
		crc.Update(crc.Sum(given), given)
		h.Write(given)
		h.Write(given)
		(*crc.Hash)(nil).Write(given)
		if h.Sum() != told(join(b, b)) || !bytes.Equal(memory, before) {
			t.Fatalf("%d bytes: %08x, changed: %v", len(b), h.Sum(), !bytes.Equal(memory, before))
		}
	}
}

func TestNilHash(t *testing.T) { // P6.2
	var h *crc.Hash
	if h.Sum() != 0 {
		t.Errorf("%08x", h.Sum())
	}
	for _, b := range [][]byte{nil, {}, {0}, []byte("123456789"), allValues()} {
		h.Write(b)
		if h != nil || h.Sum() != 0 {
			t.Errorf("%v, %08x", h, h.Sum())
		}
	}
}

// change returns b with the bits of that pattern changed, the first one at
// that bit of b; the bits of each byte are numbered from the least significant
// one.
func change(b []byte, at int, pattern uint64) []byte {
	c := slices.Clone(b)
	for i := range 64 {
		if pattern>>i&1 == 1 {
			c[(at+i)/8] ^= 1 << ((at + i) % 8)
		}
	}
	return c
}

// burst returns the number of bits from the first to the last one at which two
// byte strings of the same length differ.
func burst(a, b []byte) int {
	first, last := -1, -2
	for i := range 8 * len(a) {
		if (a[i/8]^b[i/8])>>(i%8)&1 == 0 {
			continue
		}
		if first < 0 {
			first = i
		}
		last = i
	}
	return max(last-first+1, 0)
}

// checkBurst holds the sums of two byte strings apart that differ by that
// pattern alone.
func checkBurst(t *testing.T, b []byte, at int, pattern uint64, size int) {
	t.Helper()
	c := change(b, at, pattern)
	if burst(b, c) != size {
		t.Fatalf("a burst of %d bits, want %d", burst(b, c), size)
	}
	if crc.Sum(b) == crc.Sum(c) || crc.Sum(c) != told(c) {
		t.Fatalf("% x and % x (%d bits from %d): %08x and %08x, want %08x", b, c, size, at, crc.Sum(b), crc.Sum(c), told(c))
	}
}

// patterns returns bursts of that many bits: all ones, the ends alone, and
// others.
func patterns(rng *rand.Rand, size int) []uint64 {
	ends := uint64(1) | 1<<(size-1)
	all := uint64(1)<<size - 1
	list := []uint64{all, ends}
	for range 6 {
		list = append(list, rng.Uint64()&all|ends)
	}
	return list
}

func TestBurstsOfEachSizeAtEachPlace(t *testing.T) { // P6.3
	rng := rand.New(rand.NewSource(66))
	for _, length := range []int{1, 2, 4, 5, 8, 9, 40} {
		texts := [][]byte{make([]byte, length), bytes.Repeat([]byte{0xff}, length), random(rng, length)}
		for size := 1; size <= min(32, 8*length); size++ {
			for at := range 8*length - size + 1 {
				for _, pattern := range patterns(rng, size) {
					checkBurst(t, texts[rng.Intn(3)], at, pattern, size)
				}
			}
		}
	}
}

func TestAllShortBursts(t *testing.T) { // P6.3
	b := []byte("gypsum")
	for size := 1; size <= 9; size++ {
		for pattern := uint64(1) << (size - 1); pattern < 1<<size; pattern++ {
			if pattern&1 == 0 {
				continue
			}
			for at := range 8*len(b) - size + 1 {
				checkBurst(t, b, at, pattern, size)
			}
		}
	}
}

func TestBurstsOfALongText(t *testing.T) { // P6.3: 1, 31 and 32 bits at the beginning, at the end, across bytes
	rng := rand.New(rand.NewSource(67))
	b := random(rng, 3000)
	for _, size := range []int{1, 31, 32} {
		for _, at := range []int{0, 1, 7, 8, 12345, 16383, 8*len(b) - size - 1, 8*len(b) - size} {
			for _, pattern := range patterns(rng, size) {
				checkBurst(t, b, at, pattern, size)
			}
		}
	}
}

func TestTextsThatDifferNowhere(t *testing.T) { // P6.3: a burst of no bits
	for _, b := range texts() {
		c := slices.Clone(b)
		if len(b) < 5000 && burst(b, c) != 0 {
			t.Fatalf("a burst of %d bits", burst(b, c))
		}
		if crc.Sum(b) != crc.Sum(c) {
			t.Fatalf("%08x and %08x", crc.Sum(b), crc.Sum(c))
		}
	}
}

func TestBurstOf33Bits(t *testing.T) { // P6.3: the bits end at 32, since there is one of 33 that no sum tells
	rng := rand.New(rand.NewSource(68))
	for _, length := range []int{5, 6, 20, 300} {
		b := random(rng, length)
		for at := range 8*length - 32 {
			c := change(b, at, 1|divisor<<1)
			if burst(b, c) != 33 || crc.Sum(b) != crc.Sum(c) {
				t.Fatalf("%d bytes, from bit %d: %d bits, %08x and %08x", length, at, burst(b, c), crc.Sum(b), crc.Sum(c))
			}
		}
	}
}

func TestSumsPutTogether(t *testing.T) { // P6.3
	rng := rand.New(rand.NewSource(69))
	for _, a := range texts() {
		zeros := make([]byte, len(a))
		for _, b := range [][]byte{random(rng, len(a)), a, zeros, bytes.Repeat([]byte{0xff}, len(a))} {
			got := crc.Sum(xor(a, b))
			if want := crc.Sum(a) ^ crc.Sum(b) ^ crc.Sum(zeros); got != want {
				t.Fatalf("%d bytes: %08x, want %08x", len(a), got, want)
			}
		}
	}
}
