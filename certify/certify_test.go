package certify_test

import (
	"math"
	"math/rand"
	"slices"
	"testing"

	"gypsum/api"
	"gypsum/certify"
)

// kinds are all kinds that are reported, in their order.
var kinds = []int{certify.Index, certify.Loop, certify.Twice, certify.Mirrored, certify.Lonely, certify.Pinch}

// of returns the soup of n vertices with these triangles.
func of(n int, tris ...api.Tri) api.Soup { return api.Soup{N: n, T: tris} }

// solid are the triangles of the chapter's tetrahedron.
func solid() []api.Tri { return []api.Tri{{0, 1, 2}, {0, 3, 1}, {1, 3, 2}, {2, 3, 0}} }

// ones returns witnesses with these numbers as A, and 0 as B.
func ones(kind int, a ...int) []certify.Witness {
	var l []certify.Witness
	for _, x := range a {
		l = append(l, certify.Witness{Kind: kind, A: x})
	}
	return l
}

// pairs returns witnesses with these numbers as A and B.
func pairs(kind int, ab ...[2]int) []certify.Witness {
	var l []certify.Witness
	for _, x := range ab {
		l = append(l, certify.Witness{Kind: kind, A: x[0], B: x[1]})
	}
	return l
}

// spoil overwrites the list and what lies behind it.
func spoil[E any](l []E, with E) {
	l = l[:cap(l)]
	for i := range l {
		l[i] = with
	}
}

// check holds all calls against the witnesses that are to be reported for s:
// with what is handed in left as it is, and in memory that is shared with
// nothing.
func check(t *testing.T, s api.Soup, want []certify.Witness) {
	t.Helper()
	wall := api.Tri{-5, -5, -5}
	memory := slices.Concat([]api.Tri{wall, wall}, s.T, []api.Tri{wall, wall, wall})
	before := slices.Clone(memory)
	handed := api.Soup{N: s.N, T: memory[2 : 2+len(s.T)]}
	checkKept := func(by string) {
		t.Helper()
		if handed.N != s.N || len(handed.T) != len(s.T) || !slices.Equal(memory, before) {
			t.Fatalf("what is handed in is changed by %v", by)
		}
	}
	first := certify.All(handed)
	if !slices.Equal(first, want) {
		t.Fatalf("%v: All tells %v; want %v", told(s), shortened(first), shortened(want))
	}
	checkKept("All")
	checkOthers(t, handed, want)
	checkKept("Check, Is or True")
	second := certify.All(handed)
	spoil(first, certify.Witness{Kind: -7, A: -7, B: -7})
	checkKept("changing the answer")
	spoil(memory, api.Tri{-9, -9, -9})
	if !slices.Equal(second, want) {
		t.Fatalf("%v: All tells %v the second time, or shares memory; want %v", told(s), shortened(second), shortened(want))
	}
}

// checkOthers holds Check, Is and True against the witnesses that are to be
// reported for s.
func checkOthers(t *testing.T, s api.Soup, want []certify.Witness) {
	t.Helper()
	var one certify.Witness
	if len(want) > 0 {
		one = want[0]
	}
	if w := certify.Check(s); w != one {
		t.Fatalf("%v: Check tells %v; want %v", told(s), w, one)
	}
	if is := certify.Is(s); is != (len(want) == 0) {
		t.Fatalf("%v: Is tells %v", told(s), is)
	}
	asked := want
	if len(want) > 20 {
		asked = slices.Concat(want[:2], want[len(want)/2:len(want)/2+2], want[len(want)-2:])
	}
	if certify.True(s, certify.Witness{}) {
		t.Fatalf("%v: None is True", told(s))
	}
	for _, w := range asked {
		if !certify.True(s, w) {
			t.Fatalf("%v: True refuses %v", told(s), w)
		}
		for _, x := range wrong(w) {
			if certify.True(s, x) != slices.Contains(want, x) {
				t.Fatalf("%v: True tells %v of %v; want %v", told(s), certify.True(s, x), x, shortened(want))
			}
		}
	}
}

// wrong returns witnesses beside w: all others that share numbers with it, or
// have them one more or less.
func wrong(w certify.Witness) []certify.Witness {
	var l []certify.Witness
	for kind := -1; kind <= certify.Pinch+1; kind++ {
		l = append(l, certify.Witness{Kind: kind, A: w.A, B: w.B}, certify.Witness{Kind: kind, A: w.B, B: w.A})
	}
	for _, by := range []int{-1, 1, math.MaxInt - 1<<20, math.MinInt + 1<<20} {
		l = append(l, certify.Witness{Kind: w.Kind, A: w.A + by, B: w.B}, certify.Witness{Kind: w.Kind, A: w.A, B: w.B + by})
	}
	return slices.DeleteFunc(l, func(x certify.Witness) bool { return x == w })
}

func told(s api.Soup) any {
	if len(s.T) > 30 {
		return api.Soup{N: s.N, T: s.T[:30]}
	}
	return s
}

func shortened(l []certify.Witness) []certify.Witness {
	return l[:min(len(l), 30)]
}

// allBy tells from the document which witnesses are reported.
func allBy(s api.Soup) []certify.Witness {
	for _, kind := range kinds {
		var l []certify.Witness
		for _, w := range candidates(s, kind) {
			if violates(s, w) {
				l = append(l, w)
			}
		}
		if len(l) > 0 {
			return l
		}
	}
	return nil
}

// candidates returns what a witness of that kind might be, in order.
func candidates(s api.Soup, kind int) []certify.Witness {
	switch kind {
	case certify.Index:
		if badSize(s) {
			return ones(kind, -1)
		}
		return ones(kind, upTo(len(s.T))...)
	case certify.Loop:
		return ones(kind, upTo(len(s.T))...)
	case certify.Twice, certify.Mirrored:
		var l []certify.Witness
		for b := range s.T {
			for a := range b {
				l = append(l, certify.Witness{Kind: kind, A: a, B: b})
			}
		}
		return l
	}
	return ones(kind, upTo(s.N)...)
}

func badSize(s api.Soup) bool { return s.N < 0 || s.N > 4096 || len(s.T) > 8192 }

// violates tells whether s, of which no kind before w's has a witness, has the
// violation w.
func violates(s api.Soup, w certify.Witness) bool {
	switch w.Kind {
	case certify.Index:
		return w.A == -1 || slices.ContainsFunc(s.T[w.A][:], func(v int) bool { return v < 0 || v > s.N-1 })
	case certify.Loop:
		return len(vertices(s.T[w.A])) < 3
	case certify.Twice:
		return slices.ContainsFunc(directed(s.T[w.A]), func(e api.Edge) bool { return slices.Contains(directed(s.T[w.B]), e) })
	case certify.Mirrored:
		return slices.Equal(vertices(s.T[w.A]), vertices(s.T[w.B]))
	case certify.Lonely:
		return len(trianglesAt(s, w.A)) == 0
	}
	return len(classes(trianglesAt(s, w.A), w.A)) > 1
}

// vertices returns the vertices of a triangle, each once, in ascending order.
func vertices(t api.Tri) []int {
	slices.Sort(t[:])
	return slices.Compact(t[:])
}

func directed(t api.Tri) []api.Edge {
	return []api.Edge{{t[0], t[1]}, {t[1], t[2]}, {t[2], t[0]}}
}

func trianglesAt(s api.Soup, v int) []api.Tri {
	var l []api.Tri
	for _, t := range s.T {
		if slices.Contains(t[:], v) {
			l = append(l, t)
		}
	}
	return l
}

// classes returns the sets of other vertices that triangles at v have which are
// connected by edges at v.
func classes(l []api.Tri, v int) [][]int {
	var sets [][]int
	for _, t := range l {
		joined := slices.DeleteFunc(vertices(t), func(x int) bool { return x == v })
		var others [][]int
		for _, set := range sets {
			if slices.ContainsFunc(set, func(x int) bool { return slices.Contains(joined, x) }) {
				joined = append(joined, set...)
			} else {
				others = append(others, set)
			}
		}
		sets = append(others, joined)
	}
	return sets
}

// upTo returns the numbers from 0 to n-1.
func upTo(n int) []int {
	var l []int
	for i := range n {
		l = append(l, i)
	}
	return l
}

// torus returns a closed surface of a b vertices and 2 a b triangles; a and b
// are at least 3.
func torus(a, b int) api.Soup {
	s := api.Soup{N: a * b}
	at := func(i, j int) int { return i%a*b + j%b }
	for i := range a {
		for j := range b {
			s.T = append(s.T, api.Tri{at(i, j), at(i+1, j), at(i, j+1)}, api.Tri{at(i+1, j), at(i+1, j+1), at(i, j+1)})
		}
	}
	return s
}

// strip returns a surface of that many triangles in a row.
func strip(tris int) api.Soup {
	s := api.Soup{N: tris + 2}
	for i := range tris {
		s.T = append(s.T, api.Tri{i, i + 1 + i%2, i + 2 - i%2})
	}
	return s
}

// fan returns that many triangles in a fan around the vertex 0.
func fan(n int) api.Soup {
	s := api.Soup{N: n + 2}
	for i := range n {
		s.T = append(s.T, api.Tri{0, i + 1, i + 2})
	}
	return s
}

// ring returns that many triangles, at least 3, all round the vertex 0.
func ring(n int) api.Soup {
	s := api.Soup{N: n + 1}
	for i := range n {
		s.T = append(s.T, api.Tri{0, i + 1, (i+1)%n + 1})
	}
	return s
}

// pinned returns all of these soups with their vertex 0 in common.
func pinned(l ...api.Soup) api.Soup {
	all := api.Soup{N: 1}
	for _, s := range l {
		for _, t := range s.T {
			for k, v := range t {
				if v > 0 {
					t[k] = all.N - 1 + v
				}
			}
			all.T = append(all.T, t)
		}
		all.N += s.N - 1
	}
	return all
}

// beside returns all of these soups side by side.
func beside(l ...api.Soup) api.Soup {
	var all api.Soup
	for _, s := range l {
		for _, t := range s.T {
			all.T = append(all.T, api.Tri{all.N + t[0], all.N + t[1], all.N + t[2]})
		}
		all.N += s.N
	}
	return all
}

// turned returns the triangle from its corner k on.
func turned(t api.Tri, k int) api.Tri { return api.Tri{t[k%3], t[(k+1)%3], t[(k+2)%3]} }

func mirror(t api.Tri) api.Tri { return api.Tri{t[0], t[2], t[1]} }

// another returns s with vertices renumbered, triangles reordered, and each of
// them beginning with any of its vertices.
func another(rng *rand.Rand, s api.Soup) api.Soup {
	to := rng.Perm(s.N)
	x := api.Soup{N: s.N}
	for _, i := range rng.Perm(len(s.T)) {
		t := s.T[i]
		x.T = append(x.T, turned(api.Tri{to[t[0]], to[t[1]], to[t[2]]}, rng.Intn(3)))
	}
	return x
}

func mirrored(s api.Soup) api.Soup {
	x := api.Soup{N: s.N}
	for _, t := range s.T {
		x.T = append(x.T, mirror(t))
	}
	return x
}

// surfaces returns surfaces of many sorts.
func surfaces() []api.Soup {
	octahedron := of(6, api.Tri{0, 1, 2}, api.Tri{0, 2, 3}, api.Tri{0, 3, 4}, api.Tri{0, 4, 1},
		api.Tri{5, 2, 1}, api.Tri{5, 3, 2}, api.Tri{5, 4, 3}, api.Tri{5, 1, 4})
	seven := api.Soup{N: 7} // any two of its vertices are joined by an edge
	for i := range 7 {
		seven.T = append(seven.T, api.Tri{i, (i + 1) % 7, (i + 3) % 7}, api.Tri{i, (i + 3) % 7, (i + 2) % 7})
	}
	holed := torus(5, 6)
	holed.T = slices.Concat(holed.T[:3], holed.T[4:17], holed.T[18:])
	return []api.Soup{
		{}, {T: []api.Tri{}}, of(3, api.Tri{0, 1, 2}), of(3, api.Tri{2, 1, 0}),
		of(4, solid()...), of(4, solid()[:3]...), of(4, solid()[1:]...),
		of(4, api.Tri{0, 1, 2}, api.Tri{1, 0, 3}), of(4, api.Tri{0, 1, 2}, api.Tri{2, 1, 3}),
		octahedron, seven, holed, torus(3, 3), torus(4, 7), strip(1), strip(2), strip(50),
		fan(1), fan(2), fan(3), fan(20), ring(3), ring(4), ring(20),
		// A cylinder of height one, and one that has only two of its three squares.
		of(6, api.Tri{0, 1, 3}, api.Tri{1, 4, 3}, api.Tri{1, 2, 4}, api.Tri{2, 5, 4}, api.Tri{2, 0, 5}, api.Tri{0, 3, 5}),
		of(6, api.Tri{0, 1, 3}, api.Tri{1, 4, 3}, api.Tri{1, 2, 4}, api.Tri{2, 5, 4}),
	}
}

func TestExamples(t *testing.T) { // the chapter's examples
	check(t, of(4, solid()...), nil)
	check(t, of(4, append(solid()[:3], api.Tri{2, 0, 3})...), pairs(certify.Twice, [2]int{0, 3}, [2]int{1, 3}, [2]int{2, 3}))
	for i := range 4 {
		check(t, of(4, slices.Delete(solid(), i, i+1)...), nil)
	}
	check(t, of(5, api.Tri{0, 1, 2}, api.Tri{0, 3, 4}), ones(certify.Pinch, 0))
	check(t, of(5, api.Tri{3, 1, 2}, api.Tri{0, 4, 3}), ones(certify.Pinch, 3))
}

func TestSurfaces(t *testing.T) { // P9.1
	for _, s := range surfaces() {
		if len(allBy(s)) > 0 {
			t.Fatal(s)
		}
		check(t, s, nil)
	}
	for _, n := range []int{1, 2, 5, 100, 1365} {
		check(t, beside(slices.Repeat([]api.Soup{fan(1)}, n)...), nil)
	}
}

func TestNumbers(t *testing.T) { // P9.1: how many vertices and triangles there may be
	largest := torus(64, 64)
	if largest.N != 4096 || len(largest.T) != 8192 {
		t.Fatal(largest.N, len(largest.T))
	}
	check(t, largest, nil)
	check(t, api.Soup{N: 4096}, ones(certify.Lonely, upTo(4096)...))
	check(t, api.Soup{N: 1}, ones(certify.Lonely, 0))
	no := ones(certify.Index, -1)
	for _, n := range []int{-1, -2, 4097, 4098, 8192, math.MinInt, math.MaxInt, -4096} {
		check(t, api.Soup{N: n}, no)
		check(t, api.Soup{N: n, T: []api.Tri{}}, no)
		check(t, of(n, solid()...), no)
		check(t, api.Soup{N: n, T: largest.T}, no)
		check(t, of(n, api.Tri{-1, 0, 1}, api.Tri{n, 5, 5}, api.Tri{1, 1, 1}), no)
	}
	more := of(4096, append(slices.Clone(largest.T), api.Tri{0, 1, 2})...)
	check(t, more, no)
	more.T[8192] = api.Tri{-1, 4096, 4096}
	check(t, more, no)
	check(t, api.Soup{T: make([]api.Tri, 8193)}, no)
	check(t, api.Soup{N: 3, T: make([]api.Tri, 8193)}, no)
	check(t, api.Soup{N: 3, T: make([]api.Tri, 100000)}, no)
	check(t, api.Soup{N: -1, T: make([]api.Tri, 8193)}, no)
	check(t, api.Soup{N: 4097, T: make([]api.Tri, 8193)}, no)
}

func TestAsManyTrianglesAsThereMayBe(t *testing.T) { // P9.1: all of them are examined
	check(t, api.Soup{T: make([]api.Tri, 8192)}, ones(certify.Index, upTo(8192)...))
	check(t, api.Soup{N: 1, T: make([]api.Tri, 8192)}, ones(certify.Loop, upTo(8192)...))
	s := torus(64, 64)
	last, first := s.T[8191], s.T[0]
	for _, c := range []struct {
		last api.Tri
		want []certify.Witness
	}{
		{api.Tri{last[0], last[1], 4096}, ones(certify.Index, 8191)},
		{api.Tri{-1, last[1], last[2]}, ones(certify.Index, 8191)},
		{api.Tri{last[0], last[0], last[2]}, ones(certify.Loop, 8191)},
		{turned(s.T[8190], 1), pairs(certify.Twice, [2]int{8190, 8191})},
		{first, pairs(certify.Twice, [2]int{0, 8191})},
		{last, nil},
	} {
		s.T[8191] = c.last
		check(t, s, c.want)
	}
}

func TestIndex(t *testing.T) { // P9.1: a vertex that there is not, in each place
	for _, n := range []int{4, 5, 4096} {
		for _, v := range []int{-1, -2, n, n + 1, 4096, 5000, -n, math.MinInt, math.MaxInt} {
			for _, bad := range []api.Tri{
				{v, 0, 1}, {0, v, 1}, {0, 1, v}, {v, v, 0}, {v, 0, v}, {0, v, v}, {v, v, v}, {0, 0, v}, {v, 1, 1}, {1, v, 1}, {-1, v, n},
			} {
				check(t, of(n, bad), ones(certify.Index, 0))
				check(t, of(n, api.Tri{0, 1, 2}, bad, api.Tri{1, 1, 2}, api.Tri{0, 1, 2}, bad), ones(certify.Index, 1, 4))
				check(t, of(n, append([]api.Tri{bad, bad}, solid()...)...), ones(certify.Index, 0, 1))
				check(t, of(n, append(solid(), bad)...), ones(certify.Index, 4))
			}
		}
	}
	check(t, of(3, solid()...), ones(certify.Index, 1, 2, 3))
	check(t, of(0, api.Tri{}), ones(certify.Index, 0))
	check(t, of(0, solid()...), ones(certify.Index, 0, 1, 2, 3))
	check(t, of(1, api.Tri{0, 0, 1}, api.Tri{0, 0, 0}), ones(certify.Index, 0))
	edge := of(4096, api.Tri{4093, 4094, 4095})
	check(t, edge, ones(certify.Lonely, upTo(4093)...))
	edge.N--
	check(t, edge, ones(certify.Index, 0))
}

func TestLoop(t *testing.T) { // P9.1: a vertex twice, in each pair of places
	for v := range 4 {
		for w := range 4 {
			for _, bad := range []api.Tri{{v, v, w}, {v, w, v}, {w, v, v}, {v, v, v}} {
				check(t, of(4, bad), ones(certify.Loop, 0))
				check(t, of(4, append(solid(), bad, api.Tri{0, 1, 2})...), ones(certify.Loop, 4))
				check(t, of(9, bad, api.Tri{0, 1, 2}, bad, mirror(bad), api.Tri{2, 1, 0}), ones(certify.Loop, 0, 2, 3))
			}
		}
	}
	check(t, of(1, api.Tri{}), ones(certify.Loop, 0))
	check(t, of(4096, api.Tri{4095, 4094, 4095}), ones(certify.Loop, 0))
}

func TestTwice(t *testing.T) { // P9.1: a directed edge in common
	two := pairs(certify.Twice, [2]int{0, 1})
	for i := range 3 {
		for k := range 3 {
			a, b := turned(api.Tri{0, 1, 2}, i), turned(api.Tri{0, 1, 3}, k)
			check(t, of(4, a, b), two)
			check(t, of(5, a, b), two)
			check(t, of(4, a, turned(api.Tri{1, 0, 3}, k)), nil)
			check(t, of(3, a, turned(api.Tri{0, 1, 2}, k)), two) // the same one, rotated
			check(t, of(4, a, turned(api.Tri{0, 1, 2}, k)), two)
			check(t, of(3, a, turned(api.Tri{0, 2, 1}, k)), pairs(certify.Mirrored, [2]int{0, 1}))
		}
	}
	x, y, z, u := api.Tri{0, 1, 2}, api.Tri{3, 0, 1}, api.Tri{1, 0, 4}, api.Tri{0, 1, 5}
	other := api.Tri{6, 1, 0}
	check(t, of(7, x, other), ones(certify.Lonely, 3, 4, 5))
	check(t, of(7, x, other, y), pairs(certify.Twice, [2]int{0, 2}))
	check(t, of(7, x, other, y, u), pairs(certify.Twice, [2]int{0, 2}, [2]int{0, 3}, [2]int{2, 3}))
	check(t, of(7, z, x, other), pairs(certify.Twice, [2]int{0, 2}))
	check(t, of(7, z, other, x), pairs(certify.Twice, [2]int{0, 1}))
	check(t, of(7, other, z, y, u, x),
		pairs(certify.Twice, [2]int{0, 1}, [2]int{2, 3}, [2]int{2, 4}, [2]int{3, 4}))
}

func TestOrderOfPairs(t *testing.T) { // P9.1: by B, then by A, each pair once
	last := api.Tri{0, 1, 2} // its edges are those of four triangles, one after the other or not
	list := []api.Tri{{2, 0, 3}, {1, 2, 4}, {0, 1, 5}, {1, 2, 6}, last, last}
	want := pairs(certify.Twice, [2]int{1, 3}, [2]int{0, 4}, [2]int{1, 4}, [2]int{2, 4}, [2]int{3, 4},
		[2]int{0, 5}, [2]int{1, 5}, [2]int{2, 5}, [2]int{3, 5}, [2]int{4, 5})
	for k := range 3 {
		list[4], list[5] = turned(last, k), turned(last, 2*k)
		check(t, of(7, list...), want)
	}
	for _, x := range [][]api.Tri{{{0, 1, 2}, {0, 1, 3}, {1, 2, 3}}, {{2, 0, 1}, {3, 0, 1}, {2, 3, 1}}} {
		check(t, of(4, x...), pairs(certify.Twice, [2]int{0, 1}, [2]int{0, 2}))
	}
	for _, n := range []int{2, 3, 4, 5, 300} {
		same, about := api.Soup{N: 3}, api.Soup{N: n + 2}
		var all [][2]int
		for b := range n {
			same.T = append(same.T, turned(api.Tri{2, 1, 0}, b))
			about.T = append(about.T, turned(api.Tri{0, 1, b + 2}, b))
			for a := range b {
				all = append(all, [2]int{a, b})
			}
		}
		check(t, same, pairs(certify.Twice, all...))
		check(t, about, pairs(certify.Twice, all...))
	}
}

func TestMirrored(t *testing.T) { // P9.1: the same three vertices
	a, b := api.Tri{0, 1, 2}, api.Tri{2, 1, 0}
	for i := range 3 {
		for k := range 3 {
			one := pairs(certify.Mirrored, [2]int{0, 1})
			check(t, of(3, turned(a, i), turned(b, k)), one)
			check(t, of(3, turned(b, i), turned(a, k)), one)
			check(t, of(9, turned(a, i), turned(b, k)), one)
			check(t, of(6, api.Tri{3, 4, 5}, turned(a, i), api.Tri{4, 3, 0}, turned(b, k)), pairs(certify.Mirrored, [2]int{1, 3}))
			check(t, of(4, turned(a, i), turned(api.Tri{1, 0, 3}, k)), nil)
		}
	}
	var list []api.Tri
	for _, v := range []int{0, 3, 6, 9} {
		list = append(list, api.Tri{v, v + 1, v + 2})
	}
	for _, v := range []int{6, 3, 9, 0} {
		list = append(list, api.Tri{v + 1, v, v + 2})
	}
	check(t, of(12, list...), pairs(certify.Mirrored, [2]int{2, 4}, [2]int{1, 5}, [2]int{3, 6}, [2]int{0, 7}))
	list[0], list[6] = list[6], list[0]
	check(t, of(12, list...), pairs(certify.Mirrored, [2]int{0, 3}, [2]int{2, 4}, [2]int{1, 5}, [2]int{6, 7}))
	most, all := api.Soup{N: 4095}, [][2]int(nil)
	for v := 0; v < 4095; v += 3 {
		all = append(all, [2]int{len(most.T), len(most.T) + 1})
		most.T = append(most.T, api.Tri{v, v + 1, v + 2}, api.Tri{v, v + 2, v + 1})
	}
	check(t, most, pairs(certify.Mirrored, all...))
}

func TestLonely(t *testing.T) { // P9.1: vertices without a triangle
	for n := range 20 {
		check(t, api.Soup{N: n}, ones(certify.Lonely, upTo(n)...))
	}
	check(t, of(5, solid()...), ones(certify.Lonely, 4))
	check(t, of(9, solid()...), ones(certify.Lonely, 4, 5, 6, 7, 8))
	check(t, of(4, api.Tri{0, 1, 2}), ones(certify.Lonely, 3))
	check(t, of(4, api.Tri{3, 1, 2}), ones(certify.Lonely, 0))
	check(t, of(4, api.Tri{0, 1, 3}), ones(certify.Lonely, 2))
	check(t, of(8, api.Tri{1, 6, 3}, api.Tri{6, 1, 4}), ones(certify.Lonely, 0, 2, 5, 7))
	check(t, of(4096, api.Tri{4095, 0, 1}), ones(certify.Lonely, upTo(4095)[2:]...))
}

// parts are what a vertex may have: fans and rings.
func parts() []api.Soup {
	return []api.Soup{fan(1), fan(2), fan(3), fan(7), ring(3), ring(4), ring(5), ring(9), of(4, solid()...), of(4, solid()[:3]...)}
}

func TestPinch(t *testing.T) { // P9.1: one ring or fan is none, two of them are one
	rng := rand.New(rand.NewSource(91))
	for _, a := range parts() {
		check(t, pinned(a), nil)
		for _, b := range parts() {
			check(t, pinned(a, b), ones(certify.Pinch, 0))
			check(t, pinned(mirrored(a), b), ones(certify.Pinch, 0))
			for _, c := range parts() {
				check(t, pinned(a, b, c), ones(certify.Pinch, 0))
			}
			for range 5 {
				s := another(rng, pinned(a, b))
				check(t, s, allBy(s))
				if w := certify.Check(s); w.Kind != certify.Pinch || len(certify.All(s)) != 1 {
					t.Fatal(s, w)
				}
			}
		}
	}
}

func TestSeveralPinches(t *testing.T) { // P9.1
	check(t, of(7, api.Tri{0, 1, 2}, api.Tri{0, 3, 4}, api.Tri{3, 5, 6}), ones(certify.Pinch, 0, 3))
	check(t, of(7, api.Tri{6, 5, 4}, api.Tri{4, 3, 2}, api.Tri{2, 1, 0}), ones(certify.Pinch, 2, 4))
	// Three triangles that have their corners in common, two by two.
	check(t, of(6, api.Tri{0, 1, 2}, api.Tri{1, 3, 4}, api.Tri{2, 4, 5}), ones(certify.Pinch, 1, 2, 4))
	// Two rings that have both of their middles in common.
	double := of(8)
	for i := range 3 {
		double.T = append(double.T, api.Tri{0, i + 2, (i+1)%3 + 2}, api.Tri{1, (i+1)%3 + 2, i + 2},
			api.Tri{0, i + 5, (i+1)%3 + 5}, api.Tri{1, (i+1)%3 + 5, i + 5})
	}
	check(t, double, ones(certify.Pinch, 0, 1))
	x := pinned(ring(4), fan(2))
	y := pinned(ring(3), ring(3))
	check(t, beside(fan(3), x, ring(5), y, of(4, solid()...), x),
		ones(certify.Pinch, 5, 5+x.N+6, 5+x.N+6+y.N+4))
	// A surface of as many vertices as there may be, all of which are pinched.
	most := api.Soup{N: 4096}
	for i := 0; i < 4096; i += 16 {
		for v := range 4 {
			most.T = append(most.T, api.Tri{i + 4*v, i + 4*v + 1, i + 4*v + 2}, api.Tri{i + 4*v, i + 4*v + 2, i + 4*v + 3},
				api.Tri{i + v, i + v + 4, i + v + 8}, api.Tri{i + v, i + v + 8, i + v + 12})
		}
	}
	check(t, most, ones(certify.Pinch, upTo(4096)...))
}

func TestPinchOfAClosedSurface(t *testing.T) { // P9.1: two vertices of a torus become one
	s := torus(7, 7)
	for i := range s.T {
		if k := slices.Index(s.T[i][:], 48); k >= 0 {
			s.T[i][k] = 16 // far enough from 48 that they have no neighbour in common
		}
	}
	s.N = 48
	check(t, s, ones(certify.Pinch, 16))
}

// flawed returns, for each kind in its order, triangles that have a witness of
// it, and of no earlier kind; their vertices are from 0 to 30.
func flawed() [][]api.Tri {
	return [][]api.Tri{
		{{0, 1, 31}},
		{{2, 2, 3}},
		{{4, 5, 6}, {4, 5, 7}},
		{{8, 9, 10}, {8, 10, 9}},
		{{11, 12, 13}},
		{{14, 15, 16}, {14, 17, 18}},
	}
}

func TestEarlierKindsAlone(t *testing.T) { // P9.1
	rest := api.Tri{19, 20, 21} // 22 to 30 are lonely
	want := [][]certify.Witness{
		ones(certify.Index, 1), ones(certify.Loop, 1), pairs(certify.Twice, [2]int{1, 2}), pairs(certify.Mirrored, [2]int{1, 2}),
		ones(certify.Lonely, slices.Concat(upTo(11), upTo(31)[22:])...),
	}
	for from := range want {
		tris := slices.Concat([]api.Tri{rest}, slices.Concat(flawed()[from:]...))
		check(t, of(31, tris...), want[from])
		whole := slices.Clone(tris)
		for _, n := range []int{-1, 4097} {
			check(t, of(n, whole...), ones(certify.Index, -1))
		}
		// The other way round the numbers are others, and the kind is the same.
		slices.Reverse(tris)
		check(t, of(31, tris...), allBy(of(31, tris...)))
		if w := certify.Check(of(31, tris...)); w.Kind != kinds[from] {
			t.Fatal(from, w)
		}
	}
	check(t, of(5, api.Tri{0, 1, 2}, api.Tri{0, 3, 4}), ones(certify.Pinch, 0))
}

func TestKindsWithOneLaterKind(t *testing.T) { // P9.1: any two of the kinds at once
	all := flawed()
	all[4] = nil // vertices are lonely beside all of these
	for i, a := range all {
		for k, b := range all {
			s := of(31, slices.Clone(a)...)
			if i != k {
				s.T = append(s.T, b...)
			}
			want := kinds[min(i, k, 4)]
			if l := certify.All(s); len(l) == 0 || l[0].Kind != want || slices.ContainsFunc(l, func(w certify.Witness) bool { return w.Kind != want }) {
				t.Fatalf("%v: %v", s, l)
			}
			check(t, s, allBy(s))
		}
	}
}

func TestTrueOfAnything(t *testing.T) { // P9.1: of all numbers about those that there are
	soups := []api.Soup{
		{}, {N: -1}, {N: 2}, of(4, solid()...), of(3, solid()...), of(4, append(solid(), api.Tri{1, 1, 2})...),
		of(4, append(solid()[:3], api.Tri{2, 0, 3})...), of(4, api.Tri{0, 1, 2}, api.Tri{2, 1, 0}, api.Tri{0, 1, 3}),
		of(3, api.Tri{0, 1, 2}, api.Tri{2, 1, 0}), of(6, append(solid(), api.Tri{3, 4, 5})...), of(8, append(solid(), api.Tri{3, 4, 5})...),
		of(3, api.Tri{0, 1, 2}, api.Tri{1, 2, 0}, api.Tri{0, 2, 1}), of(5, api.Tri{0, 1, 2}, api.Tri{0, 3, 4}),
	}
	for _, s := range soups {
		want := allBy(s)
		for kind := -2; kind <= 8; kind++ {
			for a := -3; a <= 9; a++ {
				for b := -3; b <= 9; b++ {
					w := certify.Witness{Kind: kind, A: a, B: b}
					if got := certify.True(s, w); got != slices.Contains(want, w) {
						t.Fatalf("%v: True tells %v of %v", s, got, w)
					}
				}
			}
		}
		for _, x := range []int{math.MinInt, math.MaxInt, 4096, 8192, -4096} {
			for kind := -2; kind <= 8; kind++ {
				for _, w := range []certify.Witness{{kind, x, 0}, {kind, 0, x}, {kind, x, x}, {x, 0, 0}, {x, 0, 1}} {
					if certify.True(s, w) {
						t.Fatalf("%v: True tells true of %v", s, w)
					}
				}
			}
		}
	}
}

func TestRightButNotReported(t *testing.T) { // P9.1
	for _, c := range []struct {
		s api.Soup
		w certify.Witness
	}{
		{of(3, solid()...), certify.Witness{Kind: certify.Index, A: -1}},
		{of(-1, solid()...), certify.Witness{Kind: certify.Index, A: 0}},
		{of(4097, api.Tri{-1, 0, 1}), certify.Witness{Kind: certify.Index, A: 0}},
		{of(2, api.Tri{0, 0, 1}, api.Tri{0, 1, 2}), certify.Witness{Kind: certify.Loop, A: 0}},
		{of(3, api.Tri{0, 1, 2}, api.Tri{0, 1, 2}, api.Tri{0, 1, 1}), certify.Witness{Kind: certify.Twice, A: 0, B: 1}},
		{of(3, api.Tri{0, 1, 2}, api.Tri{0, 1, 2}), certify.Witness{Kind: certify.Mirrored, A: 0, B: 1}},
		{of(3, api.Tri{0, 1, 2}, api.Tri{0, 1, 2}, api.Tri{2, 1, 0}), certify.Witness{Kind: certify.Mirrored, A: 0, B: 2}},
		{of(4, api.Tri{0, 1, 2}, api.Tri{2, 1, 0}), certify.Witness{Kind: certify.Lonely, A: 3}},
		{of(6, api.Tri{0, 1, 2}, api.Tri{0, 3, 4}), certify.Witness{Kind: certify.Pinch, A: 0}},
	} {
		if certify.True(c.s, c.w) {
			t.Errorf("%v: %v is not reported", c.s, c.w)
		}
		check(t, c.s, allBy(c.s))
	}
}

func TestManyPairs(t *testing.T) { // P9.1, R1: millions of witnesses
	s := api.Soup{N: 4096, T: slices.Repeat([]api.Tri{{0, 1, 2}}, 8192)}
	if certify.Is(s) || certify.Check(s) != (certify.Witness{Kind: certify.Twice, A: 0, B: 1}) {
		t.Error(certify.Check(s))
	}
	for _, x := range [][2]int{{0, 1}, {0, 8191}, {8190, 8191}, {4000, 4001}} {
		if !certify.True(s, certify.Witness{Kind: certify.Twice, A: x[0], B: x[1]}) {
			t.Error(x)
		}
	}
	for _, x := range [][2]int{{0, 0}, {1, 0}, {8191, 8191}, {8191, 8190}, {0, 8192}, {-1, 0}} {
		if certify.True(s, certify.Witness{Kind: certify.Twice, A: x[0], B: x[1]}) {
			t.Error(x)
		}
	}
	s.T = s.T[:2000]
	all := certify.All(s)
	if len(all) != 1999000 {
		t.Fatal(len(all))
	}
	i := 0
	for b := range 2000 {
		for a := range b {
			if all[i] != (certify.Witness{Kind: certify.Twice, A: a, B: b}) {
				t.Fatal(i, all[i])
			}
			i++
		}
	}
}

func TestSurfacesStaySurfaces(t *testing.T) { // P9.2
	rng := rand.New(rand.NewSource(92))
	all := surfaces()
	for _, s := range all {
		check(t, mirrored(s), nil)
		for range 10 {
			check(t, another(rng, s), nil)
			check(t, another(rng, mirrored(s)), nil)
			other := all[rng.Intn(len(all))]
			check(t, beside(s, other), nil)
			check(t, another(rng, beside(other, s, mirrored(other))), nil)
		}
		for _, other := range all {
			check(t, beside(s, other), nil)
			check(t, beside(s, mirrored(other)), nil)
		}
	}
	check(t, beside(all...), nil)
	check(t, another(rng, beside(all...)), nil)
	largest := torus(64, 64)
	check(t, another(rng, largest), nil)
	check(t, mirrored(largest), nil)
	check(t, beside(torus(64, 32), mirrored(torus(32, 64))), nil)
}

func TestOneMirroredTriangle(t *testing.T) { // P9.2 speaks of all triangles: one alone is the wrong way round
	for _, s := range surfaces() {
		for i := range s.T {
			x := of(s.N, slices.Clone(s.T)...)
			x.T[i] = mirror(x.T[i])
			check(t, x, allBy(x))
			if len(s.T) < 2 != certify.Is(x) {
				t.Fatal(x)
			}
		}
	}
}

func TestRenumberedViolations(t *testing.T) { // P9.2: what is no surface doesn't become one, either
	rng := rand.New(rand.NewSource(93))
	for _, s := range []api.Soup{
		of(4, api.Tri{0, 1, 1}, api.Tri{1, 2, 3}), of(5, api.Tri{0, 1, 2}, api.Tri{0, 1, 3}, api.Tri{2, 1, 4}), beside(ring(4), of(3, api.Tri{0, 1, 2}, api.Tri{1, 0, 2})),
		beside(fan(4), api.Soup{N: 1}, ring(3)), beside(ring(5), pinned(ring(3), fan(2))),
	} {
		w := certify.Check(s)
		for range 50 {
			x := another(rng, s)
			check(t, x, allBy(x))
			check(t, mirrored(x), allBy(mirrored(x)))
			if certify.Check(x).Kind != w.Kind || len(certify.All(x)) != len(certify.All(s)) || certify.Check(mirrored(x)).Kind != w.Kind {
				t.Fatal(x)
			}
		}
	}
}

func TestAllPairsOfTriangles(t *testing.T) { // P9.1: with few vertices
	for n := -1; n <= 4; n++ {
		side := n + 2 // the numbers from -1 to n
		number := side * side * side
		nth := func(i int) api.Tri { return api.Tri{i%side - 1, i/side%side - 1, i/side/side - 1} }
		for i := range number {
			check(t, of(n, nth(i)), allBy(of(n, nth(i))))
			for k := range number {
				s := of(n, nth(i), nth(k))
				if got, want := certify.All(s), allBy(s); !slices.Equal(got, want) {
					t.Fatalf("%v: %v; want %v", s, got, want)
				}
			}
		}
	}
}

func TestAllSmallLists(t *testing.T) { // P9.1: three triangles of five vertices, one of them given
	var tris []api.Tri
	for i := range 125 {
		if x := (api.Tri{i % 5, i / 5 % 5, i / 25}); len(vertices(x)) == 3 {
			tris = append(tris, x)
		}
	}
	count := map[int]int{}
	for _, a := range tris {
		for _, b := range tris {
			s := of(5, a, api.Tri{0, 1, 2}, b)
			got, want := certify.All(s), allBy(s)
			if !slices.Equal(got, want) {
				t.Fatalf("%v: %v; want %v", s, got, want)
			}
			count[certify.Check(s).Kind]++
		}
	}
	for _, kind := range []int{certify.None, certify.Twice, certify.Mirrored, certify.Lonely, certify.Pinch} {
		if count[kind] == 0 {
			t.Errorf("none of the kind %d", kind)
		}
	}
}

func TestArbitraryLists(t *testing.T) { // R1, R5: against what the document tells
	rng := rand.New(rand.NewSource(94))
	all := append(surfaces(), pinned(ring(3), ring(4)), pinned(fan(2), ring(3), fan(1)))
	count := map[int]int{}
	for range 2000 {
		s := another(rng, beside(all[rng.Intn(len(all))], all[rng.Intn(len(all))]))
		for range rng.Intn(3) { // a few changes
			if len(s.T) == 0 {
				break
			}
			i, k := rng.Intn(len(s.T)), rng.Intn(3)
			switch rng.Intn(6) {
			case 0:
				s.T[i][k] = rng.Intn(s.N+3) - 1
			case 1:
				s.T[i] = mirror(s.T[i])
			case 2:
				s.T = append(s.T, turned(s.T[i], k))
			case 3:
				s.T = append(s.T, turned(mirror(s.T[i]), k))
			case 4:
				s.T = slices.Delete(s.T, i, i+1)
			case 5: // two vertices become one
				v, w := rng.Intn(s.N), rng.Intn(s.N)
				for j := range s.T {
					for n := range s.T[j] {
						if s.T[j][n] == v {
							s.T[j][n] = w
						} else if s.T[j][n] == s.N-1 {
							s.T[j][n] = v
						}
					}
				}
				s.N--
			}
		}
		check(t, s, allBy(s))
		count[certify.Check(s).Kind]++
	}
	for kind := range 7 {
		if count[kind] < 20 {
			t.Errorf("%d of the kind %d", count[kind], kind)
		}
	}
}

func TestAnswersDoNotHangOnEarlierOnes(t *testing.T) { // R4
	for range 3 {
		check(t, of(4, solid()...), nil)
		check(t, of(5, api.Tri{0, 1, 2}, api.Tri{0, 3, 4}), ones(certify.Pinch, 0))
		check(t, api.Soup{N: 4097}, ones(certify.Index, -1))
		check(t, of(3, api.Tri{0, 1, 2}, api.Tri{2, 1, 0}), pairs(certify.Mirrored, [2]int{0, 1}))
		check(t, of(3, api.Tri{0, 1, 2}), nil)
		check(t, of(3, api.Tri{0, 1, 2}, api.Tri{0, 1, 2}), pairs(certify.Twice, [2]int{0, 1}))
		check(t, of(4, solid()...), nil)
	}
}
