package table_test

import (
	"math"
	"math/rand"
	"slices"
	"testing"

	"gypsum/api"
	"gypsum/table"
)

// most is the greatest total of a table.
const most = 65536

// mustNew returns the table with these counts, which are right.
func mustNew(t *testing.T, counts ...int) *table.Table {
	t.Helper()
	x, e := table.New(counts...)
	if e != api.OK || x == nil {
		t.Fatalf("New(%v) = %v, %v", counts, x, e)
	}
	return x
}

// repeat returns a list of n times count.
func repeat(count, n int) []int {
	return slices.Repeat([]int{count}, n)
}

// sumOf returns the sum of the counts.
func sumOf(counts []int) int {
	sum := 0
	for _, c := range counts {
		sum += c
	}
	return sum
}

// checkEnds holds all but Find against the counts that the table should have.
func checkEnds(t *testing.T, x *table.Table, counts []int) {
	t.Helper()
	if x.Symbols() != len(counts) {
		t.Fatalf("Symbols() = %d, want %d", x.Symbols(), len(counts))
	}
	low := 0
	for sym, count := range counts {
		if x.Low(sym) != low || x.Count(sym) != count {
			t.Fatalf("symbol %d: Low %d, Count %d; want %d, %d", sym, x.Low(sym), x.Count(sym), low, count)
		}
		low += count
	}
	if x.Total() != low {
		t.Fatalf("Total() = %d, want %d", x.Total(), low)
	}
	for _, sym := range []int{-1, len(counts), len(counts) + 1, math.MinInt, math.MaxInt} {
		if x.Low(sym) != 0 || x.Count(sym) != 0 {
			t.Fatalf("symbol %d, which there isn't: Low %d, Count %d", sym, x.Low(sym), x.Count(sym))
		}
	}
}

// checkFind holds Find against the counts: the first and the last integer of
// each symbol, and what belongs to none.
func checkFind(t *testing.T, x *table.Table, counts []int) {
	t.Helper()
	low := 0
	for sym, count := range counts {
		for _, i := range []int{low, low + count/2, low + count - 1} {
			if s, ok := x.Find(i); s != sym || !ok {
				t.Fatalf("Find(%d) = %d, %v; want %d", i, s, ok, sym)
			}
		}
		low += count
	}
	for _, i := range []int{-1, low, low + 1, math.MinInt, math.MaxInt} {
		if s, ok := x.Find(i); s != 0 || ok {
			t.Fatalf("Find(%d) = %d, %v; want 0, false", i, s, ok)
		}
	}
}

// check holds a table against the counts that it should have.
func check(t *testing.T, x *table.Table, counts ...int) {
	t.Helper()
	checkEnds(t, x, counts)
	checkFind(t, x, counts)
}

// bumped returns what the counts are after a bump, told from the document.
func bumped(counts []int, sym int) []int {
	after := slices.Clone(counts)
	after[sym] += 32
	if sumOf(after) <= most {
		return after
	}
	for i, c := range after {
		after[i] = c / 2
		if c%2 == 1 {
			after[i]++
		}
	}
	return after
}

func TestNewHoldsTheCounts(t *testing.T) { // P3.1, P3.2
	for _, counts := range [][]int{
		{1, 3, 2},
		{1},
		{7},
		{most},
		{1, most - 1},
		{most - 1, 1},
		{1, 1, 1, 1},
		{5, 1, 1, 9, 1},
		repeat(1, 255),
		repeat(1, 256),
		repeat(most/256, 256),
	} {
		check(t, mustNew(t, counts...), counts...)
	}
}

func TestNewRefuses(t *testing.T) { // P3.1
	over := repeat(256, 256)
	over[255]++
	for _, c := range []struct {
		name   string
		counts []int
		want   api.Errno
	}{
		{"no list", nil, api.ErrArg},
		{"an empty list", []int{}, api.ErrArg},
		{"257 symbols", repeat(1, 257), api.ErrArg},
		{"257 symbols, and counts of 0", repeat(0, 257), api.ErrArg},
		{"257 symbols, and a great sum", repeat(most, 257), api.ErrArg},
		{"a count of 0", []int{0}, api.ErrRange},
		{"a count of 0 ahead", []int{0, 1}, api.ErrRange},
		{"a count of 0 in the middle", []int{1, 0, 1}, api.ErrRange},
		{"a count of 0 at the end", []int{1, 1, 0}, api.ErrRange},
		{"a count of -1", []int{3, -1}, api.ErrRange},
		{"the least int", []int{1, math.MinInt}, api.ErrRange},
		{"a sum that a negative count makes small", []int{most, 1, -1}, api.ErrRange},
		{"a great sum, and a count of 0 behind it", []int{most, most, 0}, api.ErrRange},
		{"65537", []int{most + 1}, api.ErrFull},
		{"65536 and 1", []int{most, 1}, api.ErrFull},
		{"1 and 65536", []int{1, most}, api.ErrFull},
		{"256 symbols with one too many", over, api.ErrFull},
		{"the greatest int", []int{math.MaxInt}, api.ErrFull},
		{"beyond an int", []int{1, math.MaxInt}, api.ErrFull},
		{"round to 0 again", []int{1 << 62, 1 << 62, 1 << 62, 1 << 62}, api.ErrFull},
		{"round to a small sum again", []int{1 << 62, 1 << 62, 1 << 62, 1 << 62, 5}, api.ErrFull},
		{"round to a negative sum", []int{math.MaxInt, math.MaxInt}, api.ErrFull},
	} {
		given := slices.Clone(c.counts)
		if x, e := table.New(given...); x != nil || e != c.want {
			t.Errorf("%s: %v, %v; want nil, %v", c.name, x, e, c.want)
		}
		if !slices.Equal(given, c.counts) {
			t.Errorf("%s: the counts were changed", c.name)
		}
	}
}

func TestNewWithoutArguments(t *testing.T) { // P3.1
	if x, e := table.New(); x != nil || e != api.ErrArg {
		t.Errorf("New() = %v, %v", x, e)
	}
}

func TestCountsHandedInAreNotKept(t *testing.T) { // P3.1, R3
	counts := []int{1, 3, 2}
	x := mustNew(t, counts...)
	counts[0], counts[1], counts[2] = 100, 0, -7
	check(t, x, 1, 3, 2)
	if e := x.Bump(1); e != api.OK {
		t.Fatal(e)
	}
	if !slices.Equal(counts, []int{100, 0, -7}) {
		t.Errorf("a bump wrote over the counts handed in: %v", counts)
	}
}

func TestFindOfEachInteger(t *testing.T) { // P3.2, P3.4
	for _, counts := range [][]int{{1, 3, 2}, {1}, {9}, repeat(256, 256), {most}, {1, most - 2, 1}} {
		x := mustNew(t, counts...)
		at := 0
		for sym, count := range counts {
			for range count {
				if s, ok := x.Find(at); s != sym || !ok {
					t.Fatalf("%v: Find(%d) = %d, %v; want %d", counts, at, s, ok, sym)
				}
				at++
			}
		}
		if s, ok := x.Find(at); s != 0 || ok {
			t.Fatalf("%v: Find(%d) = %d, %v", counts, at, s, ok)
		}
	}
}

func TestBumpAddsToOneCount(t *testing.T) { // P3.3
	for sym := range 3 {
		counts := []int{1, 3, 2}
		x := mustNew(t, counts...)
		for range 4 {
			if e := x.Bump(sym); e != api.OK {
				t.Fatal(sym, e)
			}
			counts[sym] += 32
			check(t, x, counts...)
		}
	}
}

func TestBumpAtTheGreatestTotal(t *testing.T) { // P3.3
	for _, c := range []struct {
		before []int
		sym    int
		after  []int
	}{
		{[]int{most - 33, 1}, 0, []int{most - 1, 1}},
		{[]int{most - 33, 1}, 1, []int{most - 33, 33}},
		{[]int{most - 32}, 0, []int{most}},
		{[]int{most - 31}, 0, []int{(most + 2) / 2}},
		{[]int{most - 30}, 0, []int{(most + 2) / 2}},
		{[]int{most}, 0, []int{(most + 32) / 2}},
		{[]int{most - 32, 1}, 0, []int{most / 2, 1}},
		{[]int{most - 32, 1}, 1, []int{most/2 - 16, 17}},
		{[]int{65500, 5, 31}, 1, []int{32750, 19, 16}},
		{[]int{65500, 5, 31}, 2, []int{32750, 3, 32}},
		{[]int{1, 2, 3, 4, 65526}, 0, []int{17, 1, 2, 2, 32763}},
		{[]int{1, 2, 3, 4, 65526}, 4, []int{1, 1, 2, 2, 32779}},
		{repeat(256, 256), 9, slices.Concat(repeat(128, 9), []int{144}, repeat(128, 246))},
	} {
		x := mustNew(t, c.before...)
		if e := x.Bump(c.sym); e != api.OK {
			t.Fatal(c.before, c.sym, e)
		}
		check(t, x, c.after...)
	}
}

func TestBumpKeepsTheBounds(t *testing.T) { // P3.3, P3.4
	source := rand.New(rand.NewSource(3))
	for _, counts := range [][]int{{1, 3, 2}, {1}, repeat(1, 256), {most - 5, 1, 1, 1}} {
		x := mustNew(t, counts...)
		halved := 0
		for i := range 9000 {
			sym := 0
			if source.Intn(8) == 0 {
				sym = source.Intn(len(counts))
			}
			if e := x.Bump(sym); e != api.OK {
				t.Fatal(sym, e)
			}
			before := sumOf(counts)
			counts = bumped(counts, sym)
			if sumOf(counts) < before {
				halved++
			}
			if x.Total() > most || x.Count(len(counts)-1) < 1 {
				t.Fatalf("step %d: total %d, last count %d", i, x.Total(), x.Count(len(counts)-1))
			}
			checkEnds(t, x, counts)
			if i%50 == 0 {
				checkFind(t, x, counts)
			}
		}
		if halved < 5 {
			t.Errorf("the counts were halved %d times only", halved)
		}
	}
}

func TestBumpRefusesAndChangesNothing(t *testing.T) { // P3.3, R2
	for _, counts := range [][]int{{1, 3, 2}, {most - 2, 1, 1}} {
		x := mustNew(t, counts...)
		for _, sym := range []int{-1, 3, 4, 256, math.MinInt, math.MaxInt} {
			if e := x.Bump(sym); e != api.ErrRange {
				t.Errorf("Bump(%d) = %v", sym, e)
			}
			check(t, x, counts...)
		}
	}
}

func TestCloneGoesItsOwnWay(t *testing.T) { // P3.3, R3
	x := mustNew(t, 1, 3, 2)
	c := x.Clone()
	if c == x {
		t.Fatal("a clone is the table itself")
	}
	check(t, c, 1, 3, 2)
	x.Bump(0)
	check(t, x, 33, 3, 2)
	check(t, c, 1, 3, 2)
	c.Bump(2)
	check(t, x, 33, 3, 2)
	check(t, c, 1, 3, 34)
	d := c.Clone()
	d.Bump(1)
	check(t, c, 1, 3, 34)
	check(t, d, 1, 35, 34)

	full := mustNew(t, most-1, 1)
	half := full.Clone()
	half.Bump(1)
	check(t, full, most-1, 1)
	check(t, half, most/2, 17)
}

func TestTablesAreApart(t *testing.T) { // R4
	x, y := mustNew(t, 1, 3, 2), mustNew(t, 1, 3, 2)
	x.Bump(1)
	check(t, x, 1, 35, 2)
	check(t, y, 1, 3, 2)
}

func TestNilTable(t *testing.T) { // what the chapter says of a nil *Table
	var x *table.Table
	if x.Symbols() != 0 || x.Total() != 0 {
		t.Error("Symbols, Total:", x.Symbols(), x.Total())
	}
	for _, i := range []int{-1, 0, 1, math.MinInt, math.MaxInt} {
		if x.Low(i) != 0 || x.Count(i) != 0 {
			t.Error("Low, Count:", i, x.Low(i), x.Count(i))
		}
		if s, ok := x.Find(i); s != 0 || ok {
			t.Error("Find:", i, s, ok)
		}
		if e := x.Bump(i); e != api.ErrArg {
			t.Error("Bump:", i, e)
		}
	}
	if c := x.Clone(); c != nil {
		t.Error("Clone:", c)
	}
}

func TestZeroValue(t *testing.T) { // R1: a table without symbols
	var x table.Table
	check(t, &x)
	if e := x.Bump(0); e != api.ErrRange {
		t.Error("Bump:", e)
	}
	check(t, x.Clone())
}
