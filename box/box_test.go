package box_test

import (
	"bytes"
	"encoding/binary"
	"encoding/hex"
	"hash/crc32"
	"math/rand"
	"runtime"
	"slices"
	"strings"
	"testing"

	"gypsum/api"
	"gypsum/box"
)

// told is a chunk as a table tells of it, which need not be so.
type told struct {
	kind   byte
	length uint32
	sum    uint32
}

// withSum returns b followed by its checksum, in new memory.
func withSum(b []byte) []byte {
	return binary.LittleEndian.AppendUint32(slices.Clone(b), crc32.ChecksumIEEE(b))
}

// fixedOf returns the fixed part of that many chunks, told from the document.
func fixedOf(chunks int) []byte {
	return withSum(binary.BigEndian.AppendUint16([]byte("GYPS"), uint16(chunks)))
}

// tableOf returns the table of these rows, told from the document.
func tableOf(rows []told) []byte {
	var b []byte
	for _, r := range rows {
		b = append(b, r.kind)
		b = binary.BigEndian.AppendUint32(b, r.length)
		b = binary.LittleEndian.AppendUint32(b, r.sum)
	}
	return withSum(b)
}

// rowsOf returns the rows of the chunks.
func rowsOf(l []box.Chunk) []told {
	var rows []told
	for _, c := range l {
		rows = append(rows, told{c.Kind, uint32(len(c.Data)), crc32.ChecksumIEEE(c.Data)})
	}
	return rows
}

// firstOf returns the first header of rows, secondOf the second one.
func firstOf(rows []told) []byte  { return slices.Concat(fixedOf(len(rows)), tableOf(rows)) }
func secondOf(rows []told) []byte { return slices.Concat(tableOf(rows), fixedOf(len(rows))) }

// dataOf returns the data of the chunks, one after the other.
func dataOf(l []box.Chunk) []byte {
	var b []byte
	for _, c := range l {
		b = append(b, c.Data...)
	}
	return b
}

// containerOf returns the container of the chunks, told from the document,
// whatever their number and size.
func containerOf(l []box.Chunk) []byte {
	rows, gap := rowsOf(l), make([]byte, 4)
	return slices.Concat(firstOf(rows), gap, dataOf(l), gap, secondOf(rows))
}

// wholePart returns the part of a chunk that is whole, lostPart that of one
// that isn't.
func wholePart(kind byte, from int, data string) box.Part {
	return box.Part{Chunk: box.Chunk{Kind: kind, Data: []byte(data)}, From: from, Whole: true}
}
func lostPart(kind byte, from int) box.Part {
	return box.Part{Chunk: box.Chunk{Kind: kind}, From: from}
}

// partsOf returns what a container of the chunks opens to, given the position
// of its data.
func partsOf(l []box.Chunk, from int) []box.Part {
	var parts []box.Part
	for _, c := range l {
		parts = append(parts, wholePart(c.Kind, from, string(c.Data)))
		from += len(c.Data)
	}
	return parts
}

// samePart tells whether two parts are the same; no data may be nil or empty.
func samePart(a, b box.Part) bool {
	return a.Chunk.Kind == b.Chunk.Kind && bytes.Equal(a.Chunk.Data, b.Chunk.Data) && a.From == b.From && a.Whole == b.Whole
}

// checkOpen opens b, which has to have these parts.
func checkOpen(t *testing.T, b []byte, want ...box.Part) {
	t.Helper()
	before := slices.Clone(b)
	got, e := box.Open(b)
	if e != api.OK {
		t.Fatalf("%d bytes: error %d", len(b), e)
	}
	if len(got) != len(want) {
		t.Fatalf("%d bytes: %d parts, want %d", len(b), len(got), len(want))
	}
	for i := range got {
		if !samePart(got[i], want[i]) {
			t.Fatalf("%d bytes, part %d: %v, want %v", len(b), i, got[i], want[i])
		}
	}
	if !bytes.Equal(b, before) {
		t.Fatalf("%d bytes: Open changed them", len(b))
	}
}

// checkRefused opens b, for which there has to be that error and nothing else.
func checkRefused(t *testing.T, b []byte, want api.Errno) {
	t.Helper()
	before := slices.Clone(b)
	if got, e := box.Open(b); e != want || len(got) != 0 {
		t.Fatalf("%d bytes: %d parts and error %d, want %d", len(b), len(got), e, want)
	}
	if box.Right(b) {
		t.Fatalf("%d bytes without a header are a container", len(b))
	}
	if !bytes.Equal(b, before) {
		t.Fatalf("%d bytes: Open or Right changed them", len(b))
	}
}

// checkPack packs the chunks, whose container has to be the document's.
func checkPack(t *testing.T, l []box.Chunk) []byte {
	t.Helper()
	b, e := box.Pack(l...)
	if e != api.OK {
		t.Fatalf("%d chunks: error %d", len(l), e)
	}
	if want := containerOf(l); !bytes.Equal(b, want) {
		t.Fatalf("%d chunks: %d bytes that aren't the document's %d", len(l), len(b), len(want))
	}
	return b
}

// random returns that many bytes.
func random(rng *rand.Rand, length int) []byte {
	b := make([]byte, length)
	rng.Read(b)
	return b
}

// sample is a list of chunks with data and without, and with bytes that could
// be taken for those of a header.
func sample() []box.Chunk {
	return []box.Chunk{
		{Kind: 7, Data: []byte("hello")},
		{Kind: 0},
		{Kind: 255, Data: bytes.Repeat([]byte{1, 2}, 20)},
		{Kind: 'G', Data: []byte("GYPS")},
		{Kind: 7, Data: []byte{}},
		{Kind: 9, Data: make([]byte, 9)},
		{Kind: 1, Data: fixedOf(0)},
	}
}

// lists returns lists of chunks of many kinds.
func lists() [][]box.Chunk {
	var kinds []box.Chunk
	for kind := range 256 {
		kinds = append(kinds, box.Chunk{Kind: byte(kind), Data: bytes.Repeat([]byte{byte(kind)}, kind%5)})
	}
	list := [][]box.Chunk{
		nil,
		{},
		{{}},
		{{Data: []byte{}}},
		{{Kind: 3, Data: nil}, {Kind: 4, Data: []byte{}}},
		{{Kind: 255, Data: []byte{0}}},
		{{Kind: 1, Data: []byte{255}}, {Kind: 1, Data: []byte{255}}},
		{{Kind: 1, Data: make([]byte, 255)}, {Kind: 2, Data: make([]byte, 256)}, {Kind: 3, Data: make([]byte, 65536)}, {Kind: 4, Data: make([]byte, 0x10203)}},
		{{Kind: 'B', Data: containerOf(sample())}, {Kind: 'B', Data: containerOf(nil)}},
		sample(),
		kinds,
		slices.Repeat(kinds, 4),
		make([]box.Chunk, 255),
		make([]box.Chunk, 257),
		make([]box.Chunk, api.MaxChunks),
	}
	rng := rand.New(rand.NewSource(7))
	for range 100 {
		var l []box.Chunk
		for range rng.Intn(12) {
			l = append(l, box.Chunk{Kind: byte(rng.Intn(256)), Data: random(rng, rng.Intn(50)*rng.Intn(2))})
		}
		list = append(list, l)
	}
	return list
}

func TestKnownContainers(t *testing.T) { // P7.1, P7.2, P7.3: bytes that were worked out apart from the program
	none := "47595053 0000 86a96b33"
	three := "47595053 0003 3cf862aa"
	table := "07 00000005 86a61036 00 00000000 00000000 ff 00000003 c2412435 cc86ae71"
	gap := "00000000"
	for text, l := range map[string][]box.Chunk{
		none + "00000000" + gap + gap + "00000000" + none:               nil,
		three + table + gap + "68656c6c6f 616263" + gap + table + three: {{Kind: 7, Data: []byte("hello")}, {Kind: 0}, {Kind: 255, Data: []byte("abc")}},
	} {
		want, err := hex.DecodeString(strings.ReplaceAll(text, " ", ""))
		if err != nil {
			t.Fatal(err)
		}
		if b, e := box.Pack(l...); e != api.OK || !bytes.Equal(b, want) {
			t.Errorf("%d chunks: % x and error %d, want % x", len(l), b, e, want)
		}
		checkOpen(t, want, partsOf(l, 18+9*len(l))...)
		if !box.Right(want) {
			t.Errorf("% x is no container", want)
		}
	}
}

func TestPackIsAsTold(t *testing.T) { // P7.1
	for _, l := range lists() {
		checkPack(t, l)
	}
}

func TestContainerWithoutChunks(t *testing.T) { // P7.1, P7.2, P7.3
	for _, l := range [][]box.Chunk{nil, {}} {
		b, e := box.Pack(l...)
		if e != api.OK || len(b) != 10+4+4+4+4+10 {
			t.Fatalf("%d bytes and error %d", len(b), e)
		}
		checkOpen(t, b)
		if !box.Right(b) {
			t.Error("it is no container")
		}
	}
}

func TestDataNilAndEmpty(t *testing.T) { // P7.1, R3
	one, e := box.Pack(box.Chunk{Kind: 5})
	other, f := box.Pack(box.Chunk{Kind: 5, Data: []byte{}})
	if e != api.OK || f != api.OK || !bytes.Equal(one, other) {
		t.Fatalf("% x and % x, errors %d and %d", one, other, e, f)
	}
	checkOpen(t, one, wholePart(5, 27, ""))
}

func TestNumberOfChunks(t *testing.T) { // P7.1
	l := make([]box.Chunk, api.MaxChunks)
	for i := range l {
		l[i] = box.Chunk{Kind: byte(i), Data: []byte{byte(i >> 8), byte(i)}[:i%3]}
	}
	checkOpen(t, checkPack(t, l), partsOf(l, 14+9*len(l)+4)...)
	for _, more := range []int{1, 2, 1000, 65536 - api.MaxChunks, 65536} {
		if b, e := box.Pack(append(slices.Clone(l), make([]box.Chunk, more)...)...); e != api.ErrFull || len(b) != 0 {
			t.Errorf("%d chunks more: %d bytes and error %d", more, len(b), e)
		}
	}
}

// fill returns that many chunks whose container has that many bytes.
func fill(chunks, size int) []box.Chunk {
	l := make([]box.Chunk, chunks)
	data := make([]byte, size-36-18*chunks)
	for i := range data {
		data[i] = byte(i * i >> 3)
	}
	for i := range l {
		from, to := len(data)*i/chunks, len(data)*(i+1)/chunks
		l[i] = box.Chunk{Kind: byte(i), Data: data[from:to]}
	}
	return l
}

func TestSizeOfContainer(t *testing.T) { // P7.1, P7.2, P7.3
	for _, chunks := range []int{1, 2, 7, api.MaxChunks} {
		l := fill(chunks, api.MaxBytes)
		b := checkPack(t, l)
		if len(b) != api.MaxBytes || !box.Right(b) {
			t.Fatalf("%d chunks: %d bytes, container: %v", chunks, len(b), box.Right(b))
		}
		checkOpen(t, b, partsOf(l, 18+9*chunks)...)
		for _, more := range []int{1, 2, 100000} {
			l = fill(chunks, api.MaxBytes+more)
			if b, e := box.Pack(l...); e != api.ErrFull || len(b) != 0 {
				t.Errorf("%d chunks, %d bytes too many: %d bytes and error %d", chunks, more, len(b), e)
			}
			checkRefused(t, containerOf(l), api.ErrFull)
		}
	}
}

func TestDataThatAreFarTooMany(t *testing.T) { // P7.1
	data := make([]byte, api.MaxBytes+1)
	for _, size := range []int{api.MaxBytes - 35, api.MaxBytes - 1, api.MaxBytes, api.MaxBytes + 1} {
		c := box.Chunk{Data: data[:size]}
		for _, l := range [][]box.Chunk{{c}, {{}, c}, {c, {}}, {c, c, c}, slices.Repeat([]box.Chunk{c}, api.MaxChunks)} {
			if b, e := box.Pack(l...); e != api.ErrFull || len(b) != 0 {
				t.Errorf("%d chunks of %d bytes: %d bytes and error %d", len(l), size, len(b), e)
			}
		}
	}
}

func TestPackLeavesChunks(t *testing.T) { // P7.1, R3
	memory := []byte("ahead of it, the data and behind them")
	before := slices.Clone(memory)
	l := []box.Chunk{{Kind: 1, Data: memory[13:21]}, {Kind: 2, Data: memory[13:13]}, {Kind: 3, Data: memory[9:15]}, {Kind: 9}}
	kept := slices.Clone(l)
	b, _ := box.Pack(l[:3]...)
	again, _ := box.Pack(l[:3]...)
	want := containerOf(l[:3])
	if !bytes.Equal(b, want) || !bytes.Equal(memory, before) {
		t.Fatalf("% x; memory %q", b, memory)
	}
	for i, c := range l {
		if c.Kind != kept[i].Kind || !bytes.Equal(c.Data, kept[i].Data) {
			t.Errorf("chunk %d is %v now", i, c)
		}
	}
	clear(b[:cap(b)])
	if !bytes.Equal(memory, before) || !bytes.Equal(again, want) {
		t.Error("what is returned shares memory with the chunks or with another container")
	}
	clear(memory)
	if !bytes.Equal(again, want) {
		t.Error("the container changes with the data")
	}
}

func TestOpenIsAsTold(t *testing.T) { // P7.2
	for _, l := range lists() {
		checkOpen(t, containerOf(l), partsOf(l, 18+9*len(l))...)
	}
}

func TestOpenSharesNoMemory(t *testing.T) { // P7.2, R3
	for _, spoilt := range []bool{false, true} {
		l := sample()
		b := containerOf(l)
		if spoilt {
			b[0] = 0
		}
		before := slices.Clone(b)
		got, e := box.Open(b)
		again, _ := box.Open(b)
		if e != api.OK {
			t.Fatal(e)
		}
		for i := range got {
			data := got[i].Chunk.Data
			clear(data[:cap(data)])
			_ = append(data, "more"...)
			got[i].Chunk.Kind++
		}
		for i, p := range partsOf(l, 18+9*len(l)) {
			if !samePart(again[i], p) || !bytes.Equal(b, before) {
				t.Fatalf("part %d shares memory: %v, want %v", i, again[i], p)
			}
		}
		clear(b)
		for i, p := range partsOf(l, 18+9*len(l)) {
			if !samePart(again[i], p) {
				t.Fatalf("part %d changes with the bytes: %v, want %v", i, again[i], p)
			}
		}
	}
}

func TestDataOfPartsAreApart(t *testing.T) { // P7.2, R3: what is appended to one part isn't seen in the next one
	l := []box.Chunk{{Kind: 1, Data: []byte("one")}, {Kind: 2, Data: []byte("two")}, {Kind: 3, Data: []byte("three")}}
	got, _ := box.Open(containerOf(l))
	for i := range got {
		got[i].Chunk.Data = append(got[i].Chunk.Data, "!!!!!!!!!!!!!!!!"...)
	}
	for i, c := range l {
		if !bytes.HasPrefix(got[i].Chunk.Data, c.Data) {
			t.Errorf("part %d is %q", i, got[i].Chunk.Data)
		}
	}
}

func TestMemoryBehindBytesIsNoneOfThem(t *testing.T) { // P7.2
	l := []box.Chunk{{Kind: 1, Data: []byte("one")}, {Kind: 2, Data: []byte("two")}}
	b := containerOf(l)
	checkOpen(t, b[:36+5], wholePart(1, 36, "one"), lostPart(2, 39))
	checkRefused(t, b[:31], api.ErrForm)
	if box.Right(b[:len(b)-1]) || !box.Right(b) {
		t.Error("Right looks behind the bytes, or not at all of them")
	}
}

func TestBytesOfNoContainer(t *testing.T) { // P7.2, P7.3
	rng := rand.New(rand.NewSource(71))
	list := [][]byte{nil, {}, {0}, []byte("G"), []byte("GYPS"), []byte("GYPSGYPSGYPS"), []byte("no container at all, but quite long"), []byte(strings.Repeat("GYPS\x00\x00", 30))}
	for _, length := range []int{1, 9, 10, 13, 14, 23, 24, 35, 36, 100, 5000, api.MaxBytes} {
		list = append(list, make([]byte, length), bytes.Repeat([]byte{255}, length), random(rng, length))
	}
	for _, b := range list {
		checkRefused(t, b, api.ErrForm)
	}
}

func TestBytesThatAreTooMany(t *testing.T) { // P7.2: ErrFull comes ahead of ErrForm
	for _, more := range []int{1, 2, 5000} {
		checkRefused(t, make([]byte, api.MaxBytes+more), api.ErrFull)
		checkRefused(t, append(containerOf(sample()), make([]byte, api.MaxBytes)...), api.ErrFull)
	}
}

func TestTooFewBytes(t *testing.T) { // P7.2: for a fixed part, for a table, for either header
	for _, l := range [][]box.Chunk{nil, {{Kind: 1, Data: []byte("data")}}, sample()} {
		b, header := containerOf(l), 14+9*len(l)
		for size := range header {
			checkRefused(t, b[:size], api.ErrForm)
			checkRefused(t, b[len(b)-size:], api.ErrForm)
		}
		// The header alone is enough, though not for the data.
		first, second := b[:header], b[len(b)-header:]
		for i, from := range []int{header + 4, -4 - len(dataOf(l))} {
			var want []box.Part
			for _, c := range l {
				want = append(want, lostPart(c.Kind, from))
				from += len(c.Data)
			}
			checkOpen(t, [][]byte{first, second}[i], want...)
		}
		if box.Right(first) || box.Right(second) {
			t.Error("a header alone is a container")
		}
	}
}

// cutParts returns the parts of chunks of which the bytes from 0 to size are
// there; their data begin at from.
func cutParts(l []box.Chunk, from, size int) []box.Part {
	list := partsOf(l, from)
	for i, p := range list {
		if p.From < 0 || p.From+len(l[i].Data) > size {
			list[i] = lostPart(p.Chunk.Kind, p.From)
		}
	}
	return list
}

func TestContainerThatEndsEarly(t *testing.T) { // P7.2, P7.3
	for _, l := range [][]box.Chunk{nil, {{Kind: 1, Data: []byte("data")}}, sample()} {
		b, header := containerOf(l), 14+9*len(l)
		for size := header; size < len(b); size++ {
			checkOpen(t, b[:size], cutParts(l, header+4, size)...)
			if box.Right(b[:size]) {
				t.Fatalf("%d of %d bytes are a container", size, len(b))
			}
		}
	}
}

func TestContainerThatBeginsLate(t *testing.T) { // P7.2, P7.3: positions become negative
	for _, l := range [][]box.Chunk{nil, {{Kind: 1, Data: []byte("data")}}, sample()[:6]} {
		b, header := containerOf(l), 14+9*len(l)
		for cut := 1; cut <= len(b)-header; cut++ {
			checkOpen(t, b[cut:], cutParts(l, header+4-cut, len(b)-cut)...)
			if box.Right(b[cut:]) {
				t.Fatalf("a container without its first %d bytes is one", cut)
			}
		}
	}
}

func TestHeaderWithinData(t *testing.T) { // P7.2: bytes that begin within a chunk may begin with another header
	inner := []box.Chunk{{Kind: 3, Data: []byte("inner")}}
	l := []box.Chunk{{Kind: 1, Data: []byte("outer")}, {Kind: 2, Data: containerOf(inner)}}
	b, at := containerOf(l), 36+5
	checkOpen(t, b, partsOf(l, 36)...)
	checkOpen(t, b[at:], partsOf(inner, 27)...)
	checkOpen(t, b[at+1:], lostPart(1, -6), lostPart(2, -1))
	end := at + len(l[1].Data)
	checkOpen(t, b[:end], partsOf(l, 36)...)
	checkOpen(t, b[1:end], partsOf(inner, at-1+27)...)
	checkOpen(t, b[:end-1], wholePart(1, 36, "outer"), lostPart(2, at))
}

func TestBytesAheadAndBehind(t *testing.T) { // P7.2, P7.3
	l := sample()
	b, from := containerOf(l), 18+9*len(l)
	for _, other := range [][]byte{{0}, []byte("G"), []byte("GYPS"), fixedOf(0), make([]byte, 1000), bytes.Repeat([]byte{255}, 77)} {
		checkOpen(t, slices.Concat(other, b), partsOf(l, from+len(other))...)
		checkOpen(t, slices.Concat(b, other), partsOf(l, from)...)
		checkRefused(t, slices.Concat(other, b, other), api.ErrForm)
		if box.Right(slices.Concat(other, b)) || box.Right(slices.Concat(b, other)) {
			t.Errorf("a container with %d bytes more is one", len(other))
		}
	}
	short := []box.Chunk{{Kind: 3, Data: []byte("short")}}
	checkOpen(t, slices.Concat(b, containerOf(short)), partsOf(l, from)...)
	checkOpen(t, slices.Concat(b[1:], containerOf(short)), partsOf(short, len(b)-1+27)...)
}

func TestSpoiltHeaders(t *testing.T) { // P7.2, P7.3: the first one, the second one, both
	l := sample()
	b, header := containerOf(l), 14+9*len(l)
	want := partsOf(l, header+4)
	rng := rand.New(rand.NewSource(72))
	for i := range header {
		for _, by := range []byte{1, 128, 255, byte(1 + rng.Intn(255))} {
			j := len(b) - 1 - rng.Intn(header)
			first, second, both := slices.Clone(b), slices.Clone(b), slices.Clone(b)
			first[i] ^= by
			second[len(b)-1-i] ^= by
			both[i] ^= by
			both[j] ^= by
			checkOpen(t, first, want...)
			checkOpen(t, second, want...)
			checkRefused(t, both, api.ErrForm)
			if box.Right(first) || box.Right(second) {
				t.Fatalf("it is a container with byte %d spoilt", i)
			}
		}
	}
}

func TestFixedPartThatIsNotCorrect(t *testing.T) { // P7.2
	table := make([]byte, 4)
	for _, text := range []string{"GYPT\x00\x00", "FYPS\x00\x00", "GXPS\x00\x00", "GYQS\x00\x00", "gyps\x00\x00", "SPYG\x00\x00", "\x00\x00GYPS"} {
		fixed := withSum([]byte(text))
		checkRefused(t, slices.Concat(fixed, table), api.ErrForm)
		checkRefused(t, slices.Concat(table, fixed), api.ErrForm)
	}
	head := []byte("GYPS\x00\x00")
	sum := crc32.ChecksumIEEE(head)
	for _, fixed := range [][]byte{
		binary.BigEndian.AppendUint32(slices.Clone(head), sum),
		binary.LittleEndian.AppendUint32(slices.Clone(head), ^sum),
		binary.LittleEndian.AppendUint32(slices.Clone(head), crc32.ChecksumIEEE(head[:4])),
		binary.LittleEndian.AppendUint32(slices.Clone(head), 0),
	} {
		checkRefused(t, slices.Concat(fixed, table), api.ErrForm)
		checkRefused(t, slices.Concat(table, fixed), api.ErrForm)
	}
	checkOpen(t, slices.Concat(fixedOf(0), table))
	checkOpen(t, slices.Concat(table, fixedOf(0)))
}

func TestTableMissingOrSpoilt(t *testing.T) { // P7.2: the fixed part is correct
	rows := []told{{1, 4, crc32.ChecksumIEEE([]byte("data"))}, {2, 0, 0}}
	table, gap := tableOf(rows), make([]byte, 4)
	spoilt := slices.Clone(table)
	spoilt[len(spoilt)-1] ^= 64
	fixed := fixedOf(2)
	for _, b := range [][]byte{fixed, fixedOf(0), fixedOf(65535), slices.Concat(fixed, fixed), slices.Concat(fixed, spoilt), slices.Concat(spoilt, fixed), slices.Concat(fixed, spoilt, gap, []byte("data"), gap, spoilt, fixed), slices.Concat(fixed, table[1:]), slices.Concat(table[1:], fixed), slices.Concat(fixed, table[:21]), slices.Concat(table[:21], fixed)} {
		checkRefused(t, b, api.ErrForm)
	}
	// A table of more or fewer rows than the fixed part says isn't the one.
	for _, chunks := range []int{0, 1, 3, 65535} {
		checkRefused(t, slices.Concat(fixedOf(chunks), table, make([]byte, 50)), api.ErrForm)
		checkRefused(t, slices.Concat(make([]byte, 49), []byte{1}, table, fixedOf(chunks)), api.ErrForm)
	}
	want := []box.Part{wholePart(1, 36, "data"), wholePart(2, 40, "")}
	body := slices.Concat(gap, []byte("data"), gap)
	checkOpen(t, slices.Concat(fixed, spoilt, body, table, fixed), want...)
	checkOpen(t, slices.Concat(fixed, table, body, spoilt, fixed), want...)
	checkOpen(t, slices.Concat(fixed, table, body), want...)
	want[0].From, want[1].From = 4, 8
	checkOpen(t, slices.Concat(body, table, fixed), want...)
}

func TestSumsInTheOtherOrder(t *testing.T) { // P7.2: sums have the least significant byte first, numbers the most significant one
	data := []byte("data")
	sum := crc32.ChecksumIEEE(data)
	entry := append([]byte{1, 0, 0, 0, 4}, binary.BigEndian.AppendUint32(nil, sum)...)
	body := []byte("\x00\x00\x00\x00data\x00\x00\x00\x00")
	checkOpen(t, slices.Concat(fixedOf(1), withSum(entry), body), lostPart(1, 27))
	entry = append([]byte{1, 4, 0, 0, 0}, binary.LittleEndian.AppendUint32(nil, sum)...)
	checkOpen(t, slices.Concat(fixedOf(1), withSum(entry), body), lostPart(1, 27))
	entry = append([]byte{1, 0, 0, 0, 4}, binary.LittleEndian.AppendUint32(nil, sum)...)
	checkOpen(t, slices.Concat(fixedOf(1), withSum(entry), body), wholePart(1, 27, "data"))
	wrong := binary.BigEndian.AppendUint32(slices.Clone(entry), crc32.ChecksumIEEE(entry))
	checkRefused(t, slices.Concat(fixedOf(1), wrong, body), api.ErrForm)
}

func TestHeadersThatDisagree(t *testing.T) { // P7.2, P7.3: the first one is used
	first := []box.Chunk{{Kind: 5, Data: []byte("abc")}, {Kind: 6, Data: []byte("defg")}}
	second := []box.Chunk{{Kind: 8, Data: []byte("cd")}, {Kind: 9}, {Kind: 10, Data: []byte("efg")}}
	gap := make([]byte, 4)
	b := slices.Concat(firstOf(rowsOf(first)), gap, []byte("abcdefg"), gap, secondOf(rowsOf(second)))
	checkOpen(t, b, partsOf(first, 36)...)
	if box.Right(b) {
		t.Error("it is a container")
	}
	b[3] ^= 1
	checkOpen(t, b, partsOf(second, 38)...)
	b[3] ^= 1
	b[len(b)-1] ^= 1
	checkOpen(t, b, partsOf(first, 36)...)
	// As many chunks, of which the kind alone differs.
	other := []box.Chunk{{Kind: 5, Data: []byte("abc")}, {Kind: 7, Data: []byte("defg")}}
	b = slices.Concat(firstOf(rowsOf(first)), gap, []byte("abcdefg"), gap, secondOf(rowsOf(other)))
	checkOpen(t, b, partsOf(first, 36)...)
	if box.Right(b) {
		t.Error("it is a container")
	}
}

func TestSpoiltData(t *testing.T) { // P7.2, P7.3
	l := sample()
	b, from := containerOf(l), 18+9*len(l)
	for i := range l {
		for j := range l[i].Data {
			for v := 1; v < 256; v += 6 {
				c := slices.Clone(b)
				c[from+j] ^= byte(v)
				want := partsOf(l, 18+9*len(l))
				want[i] = lostPart(l[i].Kind, want[i].From)
				checkOpen(t, c, want...)
				if box.Right(c) {
					t.Fatalf("byte %d of chunk %d is spoilt, and it is a container", j, i)
				}
			}
		}
		from += len(l[i].Data)
	}
}

func TestSumThatIsNotThatOfData(t *testing.T) { // P7.2, P7.3: both headers agree, the data don't
	for _, data := range []string{"", "data", "\x00"} {
		rows := []told{{4, uint32(len(data)), crc32.ChecksumIEEE([]byte(data)) ^ 1}, {5, 0, 0}}
		gap := make([]byte, 4)
		b := slices.Concat(firstOf(rows), gap, []byte(data), gap, secondOf(rows))
		checkOpen(t, b, lostPart(4, 36), wholePart(5, 36+len(data), ""))
		if box.Right(b) {
			t.Errorf("%q: it is a container", data)
		}
	}
}

func TestLengthsThatAreTooGreat(t *testing.T) { // P7.2: positions beyond the end, and far ahead of the beginning
	const most = 1<<32 - 1
	rows := []told{{1, 3, crc32.ChecksumIEEE([]byte("abc"))}, {2, most, 0}, {3, 0, 0}, {4, most, 5}, {5, 3, crc32.ChecksumIEEE([]byte("xyz"))}}
	body := []byte("\x00\x00\x00\x00abc--xyz\x00\x00\x00\x00")
	header := 14 + 9*len(rows)
	at := header + 4
	checkOpen(t, slices.Concat(firstOf(rows), body), wholePart(1, at, "abc"), lostPart(2, at+3), lostPart(3, at+3+most), lostPart(4, at+3+most), lostPart(5, at+3+2*most))
	end := 4 + 8
	checkOpen(t, slices.Concat(body, secondOf(rows)), lostPart(1, end-6-2*most), lostPart(2, end-3-2*most), lostPart(3, end-3-most), lostPart(4, end-3-most), wholePart(5, end-3, "xyz"))
	if box.Right(slices.Concat(firstOf(rows), body, secondOf(rows))) {
		t.Error("it is a container")
	}
	for _, length := range []uint32{16, 17, 255, 256, 65536, 1 << 24, 1<<31 - 1, 1 << 31, 1<<31 + 1, most - 1} {
		rows := []told{{9, length, 0}}
		b := slices.Concat(firstOf(rows), make([]byte, 4+15))
		checkOpen(t, b, lostPart(9, 27))
		b = slices.Concat(make([]byte, 4+15), secondOf(rows))
		checkOpen(t, b, lostPart(9, 15-int(length)))
	}
}

func TestDataWithoutBytesAtTheEnds(t *testing.T) { // P7.2: they lie within from the beginning to the end, and nowhere else
	rows := []told{{1, 5, crc32.ChecksumIEEE([]byte("hello"))}, {2, 0, 0}}
	first := firstOf(rows)
	checkOpen(t, slices.Concat(first, []byte("\x00\x00\x00\x00hello")), wholePart(1, 36, "hello"), wholePart(2, 41, ""))
	checkOpen(t, slices.Concat(first, []byte("\x00\x00\x00\x00hell")), lostPart(1, 36), lostPart(2, 41))
	slices.Reverse(rows)
	second := secondOf(rows)
	checkOpen(t, slices.Concat([]byte("hello\x00\x00\x00\x00"), second), wholePart(2, 0, ""), wholePart(1, 0, "hello"))
	checkOpen(t, slices.Concat([]byte("ello\x00\x00\x00\x00"), second), lostPart(2, -1), lostPart(1, -1))
}

func TestGapsAreNotLookedAt(t *testing.T) { // P7.2, P7.3: a container has zeros there, Open doesn't ask for them
	l := sample()
	b, header := containerOf(l), 14+9*len(l)
	for i := range 4 {
		for _, at := range []int{header + i, len(b) - header - 1 - i} {
			c := slices.Clone(b)
			c[at] = 1
			checkOpen(t, c, partsOf(l, header+4)...)
			if box.Right(c) {
				t.Errorf("byte %d of %d isn't zero, and it is a container", at, len(c))
			}
		}
	}
}

func TestDataWithinTheSecondHeader(t *testing.T) { // P7.2: what the bytes of data are besides makes no difference
	b := containerOf([]box.Chunk{{Kind: 1, Data: []byte("data")}})
	tail := b[27:]
	rows := []told{{8, uint32(len(tail)), crc32.ChecksumIEEE(tail)}}
	c := slices.Concat(firstOf(rows), b[23:])
	checkOpen(t, c, wholePart(8, 27, string(tail)))
	if box.Right(c) {
		t.Error("it is a container")
	}
}

func TestTablesOfManyRows(t *testing.T) { // P7.2, P7.3: a header may have more rows than Pack makes
	const most = 1<<32 - 1
	gap := make([]byte, 4)
	for _, chunks := range []int{api.MaxChunks, api.MaxChunks + 1, 65535} {
		l := make([]box.Chunk, chunks)
		for i := range l {
			l[i] = box.Chunk{Kind: byte(i), Data: []byte{byte(i)}[:i%2]}
		}
		b := containerOf(l)
		checkOpen(t, b, partsOf(l, 18+9*chunks)...)
		if box.Right(b) != (chunks <= api.MaxChunks) {
			t.Errorf("%d chunks, container: %v", chunks, box.Right(b))
		}
		b[0] = 0
		checkOpen(t, b, partsOf(l, 18+9*chunks)...)
		rows := slices.Repeat([]told{{6, most, 0}}, chunks)
		ahead, behind := make([]box.Part, chunks), make([]box.Part, chunks)
		for i := range rows {
			ahead[i] = lostPart(6, 18+9*chunks+i*most)
			behind[i] = lostPart(6, (i-chunks)*most)
		}
		checkOpen(t, slices.Concat(firstOf(rows), gap), ahead...)
		checkOpen(t, slices.Concat(gap, secondOf(rows)), behind...)
	}
}

// allocated returns the number of bytes that f allocates.
func allocated(f func()) uint64 {
	var before, after runtime.MemStats
	runtime.ReadMemStats(&before)
	f()
	runtime.ReadMemStats(&after)
	return after.TotalAlloc - before.TotalAlloc
}

func TestSizesAreCheckedFirst(t *testing.T) { // R7
	long := slices.Repeat([]told{{1, 1<<32 - 1, 0}, {2, 1 << 30, 0}}, 10)
	large := make([]byte, 2*api.MaxBytes)
	data := make([]byte, api.MaxBytes)
	for i, f := range []func(){
		func() { box.Open(slices.Concat(fixedOf(65535), make([]byte, 100))) },
		func() { box.Open(slices.Concat(make([]byte, 100), fixedOf(65535))) },
		func() { box.Open(slices.Concat(firstOf(long), make([]byte, 100))) },
		func() { box.Right(slices.Concat(make([]byte, 100), secondOf(long))) },
		func() { box.Open(large) },
		func() { box.Right(large) },
		func() { box.Pack(box.Chunk{Data: data}, box.Chunk{Data: data}) },
	} {
		if n := allocated(f); n > 1<<18 {
			t.Errorf("case %d: %d bytes are allocated", i, n)
		}
	}
}

func TestRightIsAsTold(t *testing.T) { // P7.3
	for _, l := range lists() {
		b := containerOf(l)
		before := slices.Clone(b)
		if !box.Right(b) || !bytes.Equal(b, before) {
			t.Fatalf("%d chunks: no container, or changed", len(l))
		}
	}
}

func TestRightOfEachBitChanged(t *testing.T) { // P7.3
	for _, l := range [][]box.Chunk{nil, {{}}, sample()} {
		b := containerOf(l)
		for i := range 8 * len(b) {
			b[i/8] ^= 1 << (i % 8)
			if box.Right(b) {
				t.Fatalf("%d chunks: it is a container with bit %d changed", len(l), i)
			}
			b[i/8] ^= 1 << (i % 8)
		}
	}
}

func TestRightOfBytesInsertedAndLost(t *testing.T) { // P7.3
	b := containerOf(sample())
	for i := range len(b) + 1 {
		for _, v := range []byte{0, 'G', 255} {
			if box.Right(slices.Insert(slices.Clone(b), i, v)) {
				t.Fatalf("it is a container with a byte more at %d", i)
			}
		}
		if i < len(b) && box.Right(slices.Delete(slices.Clone(b), i, i+1)) {
			t.Fatalf("it is a container without byte %d", i)
		}
	}
}

func TestRightOfLengthsThatDoNotAddUp(t *testing.T) { // P7.3: both headers agree, but there are bytes more, or fewer
	data, gap := []byte("hello"), make([]byte, 4)
	rows := []told{{1, 2, crc32.ChecksumIEEE(data[:2])}, {2, 3, crc32.ChecksumIEEE(data[2:])}}
	if !box.Right(slices.Concat(firstOf(rows), gap, data, gap, secondOf(rows))) {
		t.Fatal("it is no container")
	}
	for _, between := range []string{"hello\x00", "\x00hello", "hell", "ello", "", "hello\x00\x00\x00\x00", "hellohello"} {
		b := slices.Concat(firstOf(rows), gap, []byte(between), gap, secondOf(rows))
		if box.Right(b) {
			t.Errorf("%q: it is a container", between)
		}
	}
}

// headerBy returns the rows of a header, given its fixed part and what comes
// next to it, by what the document says.
func headerBy(fixed []byte, table func(size int) []byte) ([]told, bool) {
	if len(fixed) != 10 || string(fixed[:4]) != "GYPS" || !bytes.Equal(withSum(fixed[:6]), fixed) {
		return nil, false
	}
	chunks := int(binary.BigEndian.Uint16(fixed[4:]))
	b := table(9*chunks + 4)
	if len(b) != 9*chunks+4 || !bytes.Equal(withSum(b[:9*chunks]), b) {
		return nil, false
	}
	rows := make([]told, chunks)
	for i := range rows {
		rows[i] = told{b[9*i], binary.BigEndian.Uint32(b[9*i+1:]), binary.LittleEndian.Uint32(b[9*i+5:])}
	}
	return rows, true
}

// openBy returns the parts of b by what the document says, if there is a header.
func openBy(b []byte) ([]box.Part, bool) {
	if len(b) < 10 {
		return nil, false
	}
	rest := b[10:]
	rows, ok := headerBy(b[:10], func(size int) []byte { return rest[:min(size, len(rest))] })
	from := 14 + 9*len(rows) + 4
	if !ok {
		rest = b[:len(b)-10]
		rows, ok = headerBy(b[len(b)-10:], func(size int) []byte { return rest[max(0, len(rest)-size):] })
		from = len(b) - 14 - 9*len(rows) - 4
		for _, r := range rows {
			from -= int(r.length)
		}
	}
	var parts []box.Part
	for _, r := range rows {
		p, end := lostPart(r.kind, from), from+int(r.length)
		if from >= 0 && end <= len(b) && crc32.ChecksumIEEE(b[from:end]) == r.sum {
			p = wholePart(r.kind, from, string(b[from:end]))
		}
		parts = append(parts, p)
		from = end
	}
	return parts, ok
}

// scramble returns bytes that have much of a container, but not all.
func scramble(rng *rand.Rand, a, b []box.Chunk) []byte {
	rows, others := rowsOf(a), rowsOf(b)
	if len(rows) > 0 && rng.Intn(3) == 0 {
		rows[rng.Intn(len(rows))].length += uint32(rng.Intn(9) - 4)
	}
	if rng.Intn(2) == 0 {
		others = rows
	}
	c := slices.Concat(firstOf(rows), make([]byte, 4), dataOf(a), make([]byte, 4), secondOf(others))
	for range rng.Intn(4) {
		at := rng.Intn(len(c) + 1)
		switch rng.Intn(6) {
		case 0:
			c = c[:at]
		case 1:
			c = c[at:]
		case 2:
			c = slices.Insert(c, at, random(rng, rng.Intn(5))...)
		case 3:
			c = slices.Delete(c, at, min(len(c), at+rng.Intn(5)))
		case 4:
			if at < len(c) {
				c[at] = byte(rng.Intn(256))
			}
		}
	}
	return c
}

func TestScrambledContainers(t *testing.T) { // P7.2, P7.3
	rng := rand.New(rand.NewSource(73))
	var some [][]box.Chunk
	for _, l := range lists() {
		if len(l) < 20 && len(dataOf(l)) < 1000 {
			some = append(some, l)
		}
	}
	opened, right := 0, 0
	for range 30000 {
		a, b := some[rng.Intn(len(some))], some[rng.Intn(len(some))]
		c := scramble(rng, a, b)
		want, ok := openBy(c)
		if !ok {
			checkRefused(t, c, api.ErrForm)
			continue
		}
		opened++
		checkOpen(t, c, want...)
		var l []box.Chunk
		for _, p := range want {
			l = append(l, p.Chunk)
		}
		container := bytes.Equal(containerOf(l), c)
		if box.Right(c) != container {
			t.Fatalf("% x: container: %v", c, !container)
		}
		if container {
			right++
			checkPack(t, l)
		}
	}
	if opened < 5000 || right < 1000 || opened == right {
		t.Errorf("%d opened, %d of them containers", opened, right)
	}
}

// change returns b with the bits of that pattern changed, the first one at that
// bit of b; the bits of each byte are numbered from the least significant one.
func change(b []byte, at int, pattern uint64) []byte {
	c := slices.Clone(b)
	for i := range 64 {
		if pattern>>i&1 == 1 {
			c[(at+i)/8] ^= 1 << ((at + i) % 8)
		}
	}
	return c
}

// checkBurst opens a container of the chunks with the bits of that pattern
// changed: just the chunks whose bytes are others have to be lost. It returns
// their number.
func checkBurst(t *testing.T, l []box.Chunk, b []byte, at int, pattern uint64) int {
	t.Helper()
	c := change(b, at, pattern)
	want, lost := partsOf(l, 18+9*len(l)), 0
	for i, p := range want {
		if !bytes.Equal(c[p.From:p.From+len(l[i].Data)], l[i].Data) {
			want[i] = lostPart(p.Chunk.Kind, p.From)
			lost++
		}
	}
	checkOpen(t, c, want...)
	if box.Right(c) {
		t.Fatalf("it is a container with the bits %b from %d changed", pattern, at)
	}
	return lost
}

// patterns returns bursts of that many bits: all ones, the ends alone, and
// others.
func patterns(rng *rand.Rand, size int) []uint64 {
	ends := uint64(1) | 1<<(size-1)
	all := uint64(1)<<size - 1
	return []uint64{all, ends, rng.Uint64()&all | ends, rng.Uint64()&all | ends}
}

func TestBurstsAtEachPlace(t *testing.T) { // P7.4: in each part, and across two
	rng := rand.New(rand.NewSource(74))
	small := []box.Chunk{{Kind: 1, Data: []byte("a")}, {Kind: 2, Data: []byte("b")}, {Kind: 3}, {Kind: 4, Data: []byte("c")}, {Kind: 5, Data: []byte("dd")}}
	seen := map[int]bool{}
	for _, l := range [][]box.Chunk{nil, {{}}, {{Kind: 9, Data: []byte("data")}}, small, sample()} {
		b := containerOf(l)
		for _, size := range []int{1, 31, 32} {
			for at := range 8*len(b) - size + 1 {
				for _, pattern := range patterns(rng, size) {
					seen[checkBurst(t, l, b, at, pattern)] = true
				}
			}
		}
	}
	for lost := range 5 {
		if !seen[lost] {
			t.Errorf("no burst spoils %d chunks", lost)
		}
	}
}

func TestBurstsOfEachSize(t *testing.T) { // P7.4
	rng := rand.New(rand.NewSource(75))
	for _, l := range lists() {
		if len(l) > 20 || len(dataOf(l)) > 1000 {
			continue
		}
		b := containerOf(l)
		for size := 1; size <= 32; size++ {
			for _, pattern := range patterns(rng, size) {
				checkBurst(t, l, b, rng.Intn(8*len(b)-size+1), pattern)
			}
		}
	}
}

func TestBurstsAcrossParts(t *testing.T) { // P7.4: at each border of two parts, from either side
	rng := rand.New(rand.NewSource(76))
	l := slices.Concat(sample(), sample())
	b, header := containerOf(l), 14+9*len(l)
	borders := []int{10, header - 4, header, header + 4, len(b) - header - 4, len(b) - header, len(b) - 14, len(b) - 10}
	for _, p := range partsOf(l, header+4) {
		borders = append(borders, p.From)
	}
	for _, border := range borders {
		for size := 1; size <= 32; size++ {
			for back := range size + 1 {
				for _, pattern := range patterns(rng, size) {
					checkBurst(t, l, b, 8*border-back, pattern)
				}
			}
		}
	}
}

func TestBurstsOfALargeContainer(t *testing.T) { // P7.4
	l := fill(3, api.MaxBytes)
	b := checkPack(t, l)
	from := 18 + 9*len(l)
	for _, at := range []int{0, 8 * 9, 8*from - 31, 8 * from, 8*(from+len(l[0].Data)) - 16, 4 * len(b), 8*len(b) - 32} {
		checkBurst(t, l, b, at, 0xffffffff)
	}
}

func TestCallsDoNotHangOnEarlierOnes(t *testing.T) { // R4
	l := sample()
	b := containerOf(l)
	for range 3 {
		checkPack(t, l)
		checkOpen(t, b, partsOf(l, 18+9*len(l))...)
		checkRefused(t, b[1:len(b)-1], api.ErrForm)
		checkPack(t, nil)
		if !box.Right(b) || box.Right(b[1:]) {
			t.Fatal("Right")
		}
	}
}
