package corner_test

import (
	"math"
	"math/rand"
	"slices"
	"testing"

	"gypsum/api"
	"gypsum/certify"
	"gypsum/corner"
)

// of returns the soup of n vertices with these triangles.
func of(n int, tris ...api.Tri) api.Soup { return api.Soup{N: n, T: tris} }

// solid are the triangles of a tetrahedron.
func solid() []api.Tri { return []api.Tri{{0, 1, 2}, {0, 3, 1}, {1, 3, 2}, {2, 3, 0}} }

// torus returns a closed surface of a b vertices and 2 a b triangles; a and b
// are at least 3.
func torus(a, b int) api.Soup {
	s := api.Soup{N: a * b}
	at := func(i, j int) int { return i%a*b + j%b }
	for i := range a {
		for j := range b {
			s.T = append(s.T, api.Tri{at(i, j), at(i+1, j), at(i, j+1)}, api.Tri{at(i+1, j), at(i+1, j+1), at(i, j+1)})
		}
	}
	return s
}

// strip returns a surface of that many triangles in a row.
func strip(tris int) api.Soup {
	s := api.Soup{N: tris + 2}
	for i := range tris {
		s.T = append(s.T, api.Tri{i, i + 1 + i%2, i + 2 - i%2})
	}
	return s
}

// band returns a strip of 2 n triangles, n at least 3, that has two borders.
func band(n int) api.Soup {
	s := api.Soup{N: 2 * n}
	for i := range n {
		k := (i + 1) % n
		s.T = append(s.T, api.Tri{i, k, n + i}, api.Tri{n + k, n + i, k})
	}
	return s
}

// ring returns that many triangles, at least 3, all round the vertex 0.
func ring(n int) api.Soup {
	s := api.Soup{N: n + 1}
	for i := range n {
		s.T = append(s.T, api.Tri{0, i + 1, (i+1)%n + 1})
	}
	return s
}

// fan returns that many triangles in a fan around the last vertex.
func fan(n int) api.Soup {
	s := api.Soup{N: n + 2}
	for i := range n {
		s.T = append(s.T, api.Tri{i, i + 1, n + 1})
	}
	return s
}

// spindle returns a closed surface of n + 2 vertices and 2 n triangles, n at
// least 3.
func spindle(n int) api.Soup {
	s := api.Soup{N: n + 2}
	for i := range n {
		k := (i + 1) % n
		s.T = append(s.T, api.Tri{i, k, n}, api.Tri{k, i, n + 1})
	}
	return s
}

// seven returns a torus any two of whose vertices are joined by an edge.
func seven() api.Soup {
	s := api.Soup{N: 7}
	for i := range 7 {
		s.T = append(s.T, api.Tri{i, (i + 1) % 7, (i + 3) % 7}, api.Tri{i, (i + 3) % 7, (i + 2) % 7})
	}
	return s
}

// without returns s without the triangles with these numbers.
func without(s api.Soup, tris ...int) api.Soup {
	x := api.Soup{N: s.N}
	for i, t := range s.T {
		if !slices.Contains(tris, i) {
			x.T = append(x.T, t)
		}
	}
	return x
}

// beside returns all of these soups side by side.
func beside(l ...api.Soup) api.Soup {
	var all api.Soup
	for _, s := range l {
		for _, t := range s.T {
			all.T = append(all.T, api.Tri{all.N + t[0], all.N + t[1], all.N + t[2]})
		}
		all.N += s.N
	}
	return all
}

// turned returns the triangle from its corner k on.
func turned(t api.Tri, k int) api.Tri { return api.Tri{t[k%3], t[(k+1)%3], t[(k+2)%3]} }

func mirrored(s api.Soup) api.Soup {
	x := api.Soup{N: s.N}
	for _, t := range s.T {
		x.T = append(x.T, api.Tri{t[0], t[2], t[1]})
	}
	return x
}

// renamed returns s with each vertex v replaced by to[v].
func renamed(s api.Soup, to []int) api.Soup {
	x := api.Soup{N: s.N}
	for _, t := range s.T {
		x.T = append(x.T, api.Tri{to[t[0]], to[t[1]], to[t[2]]})
	}
	return x
}

// begun returns s with each triangle i listed from its corner by[i] on.
func begun(s api.Soup, by []int) api.Soup {
	x := api.Soup{N: s.N}
	for i, t := range s.T {
		x.T = append(x.T, turned(t, by[i]))
	}
	return x
}

// kept is a surface with the numbers of its connected parts and of its boundary
// loops.
type kept struct {
	s             api.Soup
	shells, loops int
}

// surfaces returns surfaces of many sorts.
func surfaces() []kept {
	tetrahedron, triangle := of(4, solid()...), of(3, api.Tri{0, 1, 2})
	return []kept{
		{api.Soup{}, 0, 0}, {api.Soup{T: []api.Tri{}}, 0, 0},
		{tetrahedron, 1, 0}, {mirrored(tetrahedron), 1, 0}, {spindle(3), 1, 0}, {spindle(4), 1, 0}, {spindle(25), 1, 0},
		{seven(), 1, 0}, {torus(3, 3), 1, 0}, {torus(4, 7), 1, 0},
		{triangle, 1, 1}, {mirrored(triangle), 1, 1}, {of(3, api.Tri{1, 2, 0}), 1, 1},
		{of(4, api.Tri{0, 1, 2}, api.Tri{2, 1, 3}), 1, 1}, {strip(7), 1, 1}, {strip(40), 1, 1},
		{fan(2), 1, 1}, {fan(20), 1, 1}, {ring(3), 1, 1}, {ring(4), 1, 1}, {ring(20), 1, 1},
		{without(tetrahedron, 0), 1, 1}, {without(tetrahedron, 3), 1, 1}, {without(seven(), 13), 1, 1},
		{band(3), 1, 2}, {band(10), 1, 2}, {without(torus(5, 6), 3, 20), 1, 2}, {without(torus(6, 6), 0, 15, 34, 50), 1, 4},
		{beside(tetrahedron, tetrahedron), 2, 0}, {beside(spindle(5), torus(3, 4)), 2, 0},
		{beside(triangle, triangle), 2, 2}, {beside(strip(5), seven()), 2, 1}, {beside(band(4), ring(5)), 2, 3},
		{beside(tetrahedron, strip(1), band(3), torus(3, 3), fan(6)), 5, 4},
	}
}

// oracle tells from the document what a table answers.
type oracle struct {
	s    api.Soup
	from map[int][]int // the corners that face an edge from each vertex
}

func tell(s api.Soup) oracle {
	o := oracle{s, map[int][]int{}}
	for c := range 3 * len(s.T) {
		first := o.edge(c)[0]
		o.from[first] = append(o.from[first], c)
	}
	return o
}

func (o oracle) is(c int) bool { return 0 <= c && c < 3*len(o.s.T) }

func (o oracle) vertex(c int) int {
	if !o.is(c) {
		return -1
	}
	return o.s.T[c/3][c%3]
}

func (o oracle) next(c int) int {
	switch {
	case !o.is(c):
		return -1
	case c%3 == 2:
		return c - 2
	}
	return c + 1
}

func (o oracle) prev(c int) int {
	switch {
	case !o.is(c):
		return -1
	case c%3 == 0:
		return c + 2
	}
	return c - 1
}

func (o oracle) edge(c int) api.Edge {
	return api.Edge{o.vertex(o.next(c)), o.vertex(o.prev(c))}
}

func (o oracle) facing(e api.Edge) int {
	for _, c := range o.from[e[0]] {
		if o.edge(c) == e {
			return c
		}
	}
	return -1
}

func (o oracle) opp(c int) int {
	if !o.is(c) {
		return -1
	}
	e := o.edge(c)
	return o.facing(api.Edge{e[1], e[0]})
}

// corners returns the least corner at each vertex.
func (o oracle) corners() []int {
	l := slices.Repeat([]int{-1}, o.s.N)
	for c := range 3 * len(o.s.T) {
		if v := o.vertex(c); l[v] < 0 {
			l[v] = c
		}
	}
	return l
}

// none returns numbers about those from 0 to n-1, none of which is one of them.
func none(n int) []int {
	return []int{-1, -2, -3, -4, -n, -n - 1, n, n + 1, n + 2, n + 3, 2*n + 1, 3*n + 3, n + 1<<16, n + 1<<31, n + 1<<32, n - 1<<32, 1 << 32, -1 << 32,
		1 << 40, -1 << 40, math.MaxInt, math.MaxInt - 1, math.MaxInt - 2, math.MinInt, math.MinInt + 1, math.MinInt + 2}
}

// checkTable holds each method of x against the surface.
func checkTable(t *testing.T, x *corner.Table, s api.Soup) {
	t.Helper()
	if x.Triangles() != len(s.T) || x.Vertices() != s.N {
		t.Fatalf("%v: %d triangles, %d vertices", told(s), x.Triangles(), x.Vertices())
	}
	if got := x.Soup(); got.N != s.N || !slices.Equal(got.T, s.T) {
		t.Fatalf("%v: Soup is %v", told(s), told(got))
	}
	o := tell(s)
	for c := range 3 * len(s.T) {
		checkCorner(t, x, o, c)
		if p := x.Opp(c); p >= 0 && (x.Opp(p) != c || p == c) {
			t.Fatalf("%v: Opp of %d is %d, and Opp of that %d", told(s), c, p, x.Opp(p))
		}
	}
	for _, c := range none(3 * len(s.T)) {
		checkCorner(t, x, o, c)
		if x.Vertex(c) != -1 || x.Next(c) != -1 || x.Prev(c) != -1 || x.Opp(c) != -1 || x.Edge(c) != (api.Edge{-1, -1}) {
			t.Fatalf("%v: %d is no corner", told(s), c)
		}
	}
	checkVertices(t, x, o)
}

// checkCorner holds what x tells of c, which need not be a corner.
func checkCorner(t *testing.T, x *corner.Table, o oracle, c int) {
	t.Helper()
	got := []int{x.Vertex(c), x.Next(c), x.Prev(c), x.Opp(c), x.Edge(c)[0], x.Edge(c)[1]}
	want := []int{o.vertex(c), o.next(c), o.prev(c), o.opp(c), o.edge(c)[0], o.edge(c)[1]}
	if !slices.Equal(got, want) {
		t.Fatalf("%v: vertex, next, previous and opposite corner, edge of %d are %v; want %v", told(o.s), c, got, want)
	}
}

// checkVertices holds Corner and Facing.
func checkVertices(t *testing.T, x *corner.Table, o oracle) {
	t.Helper()
	for v, want := range o.corners() {
		if got := x.Corner(v); got != want || got < 0 || x.Vertex(got) != v {
			t.Fatalf("%v: Corner of %d is %d; want %d", told(o.s), v, got, want)
		}
		checkFacing(t, x, o, api.Edge{v, v}, -1)
	}
	for c := range 3 * len(o.s.T) {
		e := o.edge(c)
		back := api.Edge{e[1], e[0]}
		checkFacing(t, x, o, e, c)
		checkFacing(t, x, o, back, o.facing(back))
		checkFacing(t, x, o, api.Edge{e[0], e[1] + 1<<32}, -1)
	}
	for _, v := range none(o.s.N) {
		if got := x.Corner(v); got != -1 {
			t.Fatalf("%v: Corner of %d is %d", told(o.s), v, got)
		}
		for _, w := range append(none(o.s.N), 0, 1, o.s.N/2, o.s.N-1) {
			checkFacing(t, x, o, api.Edge{v, w}, -1)
			checkFacing(t, x, o, api.Edge{w, v}, -1)
		}
	}
	if o.s.N > 60 {
		return
	}
	for v := -2; v < o.s.N+2; v++ {
		for w := -2; w < o.s.N+2; w++ {
			checkFacing(t, x, o, api.Edge{v, w}, o.facing(api.Edge{v, w}))
		}
	}
}

func checkFacing(t *testing.T, x *corner.Table, o oracle, e api.Edge, want int) {
	t.Helper()
	if got := x.Facing(e); got != want {
		t.Fatalf("%v: Facing of %v is %d; want %d", told(o.s), e, got, want)
	}
}

func told(s api.Soup) any {
	if len(s.T) > 30 {
		return api.Soup{N: s.N, T: s.T[:30]}
	}
	return s
}

// spoil overwrites the list and what lies behind it.
func spoil(l []api.Tri) {
	l = l[:cap(l)]
	for i := range l {
		l[i] = api.Tri{-7, 0, 1}
	}
}

// guarded is a soup whose triangles lie amid others.
type guarded struct {
	s              api.Soup
	memory, before []api.Tri
}

func guard(s api.Soup) guarded {
	wall := []api.Tri{{0, 1, 2}, {-5, -5, -5}}
	memory := slices.Concat(wall, s.T, wall)
	return guarded{api.Soup{N: s.N, T: memory[2 : 2+len(s.T)]}, memory, slices.Clone(memory)}
}

func (g guarded) check(t *testing.T, s api.Soup, by string) {
	t.Helper()
	if g.s.N != s.N || len(g.s.T) != len(s.T) || !slices.Equal(g.memory, g.before) {
		t.Fatalf("%v: what is handed in is changed by %v", told(s), by)
	}
}

// check holds the table of the surface s, in memory that is shared with nothing,
// against the document, and returns it.
func check(t *testing.T, s api.Soup) *corner.Table {
	t.Helper()
	g := guard(s)
	x, w := corner.New(g.s)
	if x == nil || w != (certify.Witness{}) {
		t.Fatalf("%v: New tells %v", told(s), w)
	}
	g.check(t, s, "New")
	checkTable(t, x, s)
	g.check(t, s, "a method")
	first, second := x.Soup(), x.Soup()
	spoil(first.T)
	g.check(t, s, "changing the answer")
	if second.N != s.N || !slices.Equal(second.T, s.T) {
		t.Fatalf("%v: two answers share memory", told(s))
	}
	spoil(second.T)
	checkTable(t, x, s)
	spoil(g.memory)
	checkTable(t, x, s)
	return x
}

// refuse holds that s, which is no surface, has no table, and this witness.
func refuse(t *testing.T, s api.Soup, want certify.Witness) {
	t.Helper()
	g := guard(s)
	x, w := corner.New(g.s)
	if x != nil || w != want || w != certify.Check(s) || w.Kind == certify.None {
		t.Fatalf("%v: New tells %v; want %v", told(s), w, want)
	}
	g.check(t, s, "New")
}

func TestExample(t *testing.T) { // the chapter's example
	x := check(t, of(4, api.Tri{0, 1, 2}, api.Tri{2, 1, 3}))
	if x.Edge(0) != (api.Edge{1, 2}) || x.Opp(0) != 5 || x.Vertex(5) != 3 || x.Facing(api.Edge{1, 0}) != -1 {
		t.Error(x.Edge(0), x.Opp(0), x.Vertex(5), x.Facing(api.Edge{1, 0}))
	}
	for c, want := range []int{5, -1, -1, -1, -1, 0} {
		if x.Opp(c) != want {
			t.Error(c, x.Opp(c))
		}
	}
}

func TestTetrahedron(t *testing.T) { // P10.1 to P10.3, worked out by hand
	x := check(t, of(4, solid()...))
	for c, want := range []struct {
		vertex, next, prev, opp int
		edge                    api.Edge
	}{
		{0, 1, 2, 7, api.Edge{1, 2}}, {1, 2, 0, 10, api.Edge{2, 0}}, {2, 0, 1, 4, api.Edge{0, 1}},
		{0, 4, 5, 8, api.Edge{3, 1}}, {3, 5, 3, 2, api.Edge{1, 0}}, {1, 3, 4, 9, api.Edge{0, 3}},
		{1, 7, 8, 11, api.Edge{3, 2}}, {3, 8, 6, 0, api.Edge{2, 1}}, {2, 6, 7, 3, api.Edge{1, 3}},
		{2, 10, 11, 5, api.Edge{3, 0}}, {3, 11, 9, 1, api.Edge{0, 2}}, {0, 9, 10, 6, api.Edge{2, 3}},
	} {
		if x.Vertex(c) != want.vertex || x.Next(c) != want.next || x.Prev(c) != want.prev || x.Opp(c) != want.opp ||
			x.Edge(c) != want.edge || x.Facing(want.edge) != c {
			t.Error(c, x.Vertex(c), x.Next(c), x.Prev(c), x.Opp(c), x.Edge(c), x.Facing(want.edge))
		}
	}
	for v, want := range []int{0, 1, 2, 4} {
		if x.Corner(v) != want {
			t.Error(v, x.Corner(v))
		}
	}
}

func TestSurfaces(t *testing.T) { // P10.1 to P10.3
	for _, k := range surfaces() {
		x := check(t, k.s)
		if shells(x) != k.shells || loops(x) != k.loops {
			t.Errorf("%v: %d shells, %d loops; want %d, %d", told(k.s), shells(x), loops(x), k.shells, k.loops)
		}
	}
	for _, n := range []int{1, 2, 100, 1365} {
		check(t, beside(slices.Repeat([]api.Soup{strip(1)}, n)...))
	}
}

// shells counts the sets of triangles between which opposite corners lead.
func shells(x *corner.Table) int {
	count, seen := 0, make([]bool, x.Triangles())
	var visit func(i int)
	visit = func(i int) {
		seen[i] = true
		for c := 3 * i; c < 3*i+3; c++ {
			if p := x.Opp(c); p >= 0 && !seen[p/3] {
				visit(p / 3)
			}
		}
	}
	for i := range seen {
		if !seen[i] {
			count++
			visit(i)
		}
	}
	return count
}

// loops counts the loops that the edges make which are faced by corners without
// an opposite one.
func loops(x *corner.Table) int {
	after := map[int]int{}
	for c := range 3 * x.Triangles() {
		if e := x.Edge(c); x.Opp(c) < 0 {
			after[e[0]] = e[1]
		}
	}
	count := 0
	for len(after) > 0 {
		count++
		for v := range after {
			for next, ok := after[v]; ok; next, ok = after[v] {
				delete(after, v)
				v = next
			}
			break
		}
	}
	return count
}

func TestLargest(t *testing.T) { // P10.1 to P10.3: as many vertices and triangles as there may be
	for _, c := range []struct {
		s    api.Soup
		tris int
	}{
		{torus(64, 64), 8192}, {spindle(4094), 8188}, {without(torus(64, 64), 8191), 8191}, {ring(4095), 4095}, {fan(4094), 4094}, {strip(4094), 4094},
		{beside(spindle(2046), spindle(2046)), 8184}, {beside(torus(64, 32), mirrored(torus(32, 64))), 8192},
	} {
		if c.s.N != 4096 || len(c.s.T) != c.tris {
			t.Fatal(c.s.N, len(c.s.T))
		}
		check(t, c.s)
	}
	s := torus(64, 64)
	rng := rand.New(rand.NewSource(101))
	rng.Shuffle(len(s.T), func(i, k int) { s.T[i], s.T[k] = s.T[k], s.T[i] })
	check(t, renamed(s, rng.Perm(4096)))
}

func TestNothing(t *testing.T) { // P10.1 to P10.3: the soup without vertices and triangles is a surface
	for _, s := range []api.Soup{{}, {T: []api.Tri{}}} {
		x := check(t, s)
		if x.Triangles() != 0 || x.Vertices() != 0 || x.Soup().N != 0 || len(x.Soup().T) != 0 || x.Corner(0) != -1 ||
			x.Vertex(0) != -1 || x.Next(0) != -1 || x.Prev(0) != -1 || x.Opp(0) != -1 || x.Edge(0) != (api.Edge{-1, -1}) ||
			x.Facing(api.Edge{}) != -1 || x.Facing(api.Edge{0, 1}) != -1 || x.Facing(api.Edge{-1, -1}) != -1 {
			t.Error("nothing has something")
		}
	}
}

func TestNoSurface(t *testing.T) { // P10.1: one for each kind of witness, and more
	whole := torus(64, 64)
	for _, c := range []struct {
		s api.Soup
		w certify.Witness
	}{
		{api.Soup{N: -1}, certify.Witness{Kind: certify.Index, A: -1}},
		{api.Soup{N: 4097}, certify.Witness{Kind: certify.Index, A: -1}},
		{api.Soup{N: math.MaxInt, T: solid()}, certify.Witness{Kind: certify.Index, A: -1}},
		{api.Soup{N: math.MinInt, T: solid()}, certify.Witness{Kind: certify.Index, A: -1}},
		{api.Soup{N: 3, T: make([]api.Tri, 8193)}, certify.Witness{Kind: certify.Index, A: -1}},
		{of(4096, append(slices.Clone(whole.T), api.Tri{0, 1, 2})...), certify.Witness{Kind: certify.Index, A: -1}},
		{of(3, api.Tri{0, 1, 2}, api.Tri{2, 1, 3}), certify.Witness{Kind: certify.Index, A: 1}},
		{of(3, api.Tri{0, 1, -1}), certify.Witness{Kind: certify.Index}},
		{of(0, api.Tri{0, 1, 2}), certify.Witness{Kind: certify.Index}},
		{of(3, api.Tri{0, 1, math.MaxInt}), certify.Witness{Kind: certify.Index}},
		{of(3, api.Tri{0, 1, 1}), certify.Witness{Kind: certify.Loop}},
		{of(3, api.Tri{0, 1, 2}, api.Tri{1, 0, 1}, api.Tri{2, 2, 2}), certify.Witness{Kind: certify.Loop, A: 1}},
		{of(4, append(solid()[:3], api.Tri{2, 0, 3})...), certify.Witness{Kind: certify.Twice, A: 0, B: 3}},
		{of(4, api.Tri{0, 1, 2}, api.Tri{1, 0, 3}, api.Tri{0, 1, 3}), certify.Witness{Kind: certify.Twice, A: 0, B: 2}},
		// A band that is twisted once has no sides.
		{of(5, api.Tri{0, 1, 2}, api.Tri{2, 1, 3}, api.Tri{2, 3, 4}, api.Tri{4, 3, 0}, api.Tri{4, 0, 1}), certify.Witness{Kind: certify.Twice, A: 0, B: 4}},
		{of(3, api.Tri{0, 1, 2}, api.Tri{0, 2, 1}), certify.Witness{Kind: certify.Mirrored, B: 1}},
		{of(6, api.Tri{3, 4, 5}, api.Tri{0, 1, 2}, api.Tri{2, 1, 0}), certify.Witness{Kind: certify.Mirrored, A: 1, B: 2}},
		{api.Soup{N: 1}, certify.Witness{Kind: certify.Lonely}},
		{api.Soup{N: 4096}, certify.Witness{Kind: certify.Lonely}},
		{of(5, solid()...), certify.Witness{Kind: certify.Lonely, A: 4}},
		{of(6, api.Tri{0, 1, 3}), certify.Witness{Kind: certify.Lonely, A: 2}},
		{of(5, api.Tri{0, 1, 2}, api.Tri{0, 3, 4}), certify.Witness{Kind: certify.Pinch}},
		{of(5, api.Tri{0, 1, 2}, api.Tri{3, 4, 2}), certify.Witness{Kind: certify.Pinch, A: 2}},
	} {
		refuse(t, c.s, c.w)
	}
}

// checkEmpty holds that x answers as if there were nothing.
func checkEmpty(t *testing.T, x *corner.Table) {
	t.Helper()
	for range 2 {
		if s := x.Soup(); s.N != 0 || len(s.T) != 0 || x.Triangles() != 0 || x.Vertices() != 0 {
			t.Error(x.Soup(), x.Triangles(), x.Vertices())
		}
		for _, c := range append(none(0), 0, 1, 2, 3, 7) {
			if x.Vertex(c) != -1 || x.Next(c) != -1 || x.Prev(c) != -1 || x.Opp(c) != -1 || x.Edge(c) != (api.Edge{-1, -1}) || x.Corner(c) != -1 {
				t.Error(c, x.Vertex(c), x.Next(c), x.Prev(c), x.Opp(c), x.Edge(c), x.Corner(c))
			}
			for _, e := range []api.Edge{{c, c}, {c, 0}, {0, c}, {c, 1}, {1, c}, {c, -1}, {-1, c}} {
				if x.Facing(e) != -1 {
					t.Error(e, x.Facing(e))
				}
			}
		}
	}
}

func TestNil(t *testing.T) { // what the chapter tells of a nil *Table
	checkEmpty(t, nil)
	x, _ := corner.New(of(3, api.Tri{0, 1, 1}))
	checkEmpty(t, x)
}

func TestZero(t *testing.T) { // R1: one that New didn't make
	checkEmpty(t, &corner.Table{})
	checkEmpty(t, new(corner.Table))
}

func TestOppOfOpp(t *testing.T) { // P10.4
	for _, k := range surfaces() {
		x, _ := corner.New(k.s)
		met := map[int]bool{}
		for c := range 3 * x.Triangles() {
			p := x.Opp(c)
			if p < 0 {
				continue
			}
			if p == c || p/3 == c/3 || x.Opp(p) != c || met[p] {
				t.Fatalf("%v: %d, %d, %d", told(k.s), c, p, x.Opp(p))
			}
			if x.Vertex(x.Next(p)) != x.Vertex(x.Prev(c)) || x.Vertex(x.Prev(p)) != x.Vertex(x.Next(c)) || x.Vertex(p) == x.Vertex(c) {
				t.Fatalf("%v: %d is not opposite to %d", told(k.s), p, c)
			}
			met[p] = true
		}
	}
}

func TestOtherNumbersOfVertices(t *testing.T) { // P10.4
	rng := rand.New(rand.NewSource(102))
	for _, k := range surfaces() {
		x := check(t, k.s)
		for range 8 {
			to := rng.Perm(k.s.N)
			y := check(t, renamed(k.s, to))
			for c := range 3 * x.Triangles() {
				if y.Opp(c) != x.Opp(c) || y.Vertex(c) != to[x.Vertex(c)] || y.Facing(y.Edge(c)) != x.Facing(x.Edge(c)) {
					t.Fatalf("%v: %d is opposite to %d, and then to %d", told(k.s), c, x.Opp(c), y.Opp(c))
				}
			}
		}
	}
}

// checkBegun holds that corners stay opposite to each other when each triangle i
// is listed from its corner by[i] on.
func checkBegun(t *testing.T, x *corner.Table, s api.Soup, by []int) {
	t.Helper()
	y, w := corner.New(begun(s, by))
	if y == nil {
		t.Fatalf("%v: New tells %v", told(begun(s, by)), w)
	}
	checkTable(t, y, begun(s, by))
	now := func(c int) int { // the number that the corner c of x has in y
		if c < 0 {
			return c
		}
		i := c / 3
		return 3*i + (c%3-by[i]+3)%3
	}
	for c := range 3 * x.Triangles() {
		if y.Opp(now(c)) != now(x.Opp(c)) || y.Vertex(now(c)) != x.Vertex(c) || y.Edge(now(c)) != x.Edge(c) ||
			y.Next(now(c)) != now(x.Next(c)) || y.Prev(now(c)) != now(x.Prev(c)) {
			t.Fatalf("%v: %d is opposite to %d, and from %v on %d to %d", told(s), c, x.Opp(c), by, now(c), y.Opp(now(c)))
		}
	}
}

func TestOtherFirstVertices(t *testing.T) { // P10.4
	rng := rand.New(rand.NewSource(103))
	for _, k := range surfaces() {
		x := check(t, k.s)
		by := make([]int, len(k.s.T))
		for range 8 {
			for i := range by {
				by[i] = rng.Intn(3)
			}
			checkBegun(t, x, k.s, by)
		}
		if len(k.s.T) > 4 {
			continue
		}
		for n := range 81 { // all that there are
			for i := range by {
				by[i] = n % 3
				n /= 3
			}
			checkBegun(t, x, k.s, by)
		}
	}
}

func TestOtherOrderOfTriangles(t *testing.T) { // P10.2: opposite corners are those of the same triangles
	rng := rand.New(rand.NewSource(104))
	for _, k := range surfaces() {
		x := check(t, k.s)
		to := rng.Perm(len(k.s.T))
		s := api.Soup{N: k.s.N, T: make([]api.Tri, len(k.s.T))}
		for i, n := range to {
			s.T[n] = k.s.T[i]
		}
		y := check(t, s)
		for c := range 3 * x.Triangles() {
			want := -1
			if p := x.Opp(c); p >= 0 {
				want = 3*to[p/3] + p%3
			}
			if got := y.Opp(3*to[c/3] + c%3); got != want {
				t.Fatalf("%v: %d is opposite to %d; want %d", told(s), 3*to[c/3]+c%3, got, want)
			}
		}
	}
}

func TestMirrored(t *testing.T) { // P10.2: what is opposite stays so
	for _, k := range surfaces() {
		x, y := check(t, k.s), check(t, mirrored(k.s))
		now := func(c int) int {
			if c < 0 {
				return c
			}
			return c - c%3 + []int{0, 2, 1}[c%3]
		}
		for c := range 3 * x.Triangles() {
			if y.Opp(now(c)) != now(x.Opp(c)) {
				t.Fatalf("%v: %d, %d", told(k.s), c, y.Opp(now(c)))
			}
		}
	}
}

func TestLeastCorners(t *testing.T) { // P10.3: in each place of a triangle, and in later ones
	s := of(5, api.Tri{4, 2, 0}, api.Tri{2, 4, 3}, api.Tri{3, 4, 1})
	for k := range 3 {
		for i := range s.T {
			s.T[i] = turned(s.T[i], k)
		}
		check(t, s)
		slices.Reverse(s.T)
		check(t, s)
	}
	x := check(t, of(5, api.Tri{4, 2, 0}, api.Tri{2, 4, 3}, api.Tri{3, 4, 1}))
	for v, want := range []int{2, 8, 1, 5, 0} {
		if x.Corner(v) != want {
			t.Error(v, x.Corner(v))
		}
	}
}

func TestAllSmallLists(t *testing.T) { // P10.1: New is of one mind with certify about all lists of two triangles
	for n := -1; n <= 4; n++ {
		side := n + 2 // the numbers from -1 to n
		number := side * side * side
		nth := func(i int) api.Tri { return api.Tri{i%side - 1, i/side%side - 1, i/side/side - 1} }
		for i := range number {
			for k := range number {
				s := of(n, nth(i), nth(k))
				x, w := corner.New(s)
				if w != certify.Check(s) || (x != nil) != certify.Is(s) {
					t.Fatalf("%v: %v", s, w)
				}
				if x != nil {
					checkTable(t, x, s)
				}
			}
		}
	}
}

func TestArbitraryLists(t *testing.T) { // R5
	rng := rand.New(rand.NewSource(105))
	all, count := surfaces(), map[int]int{}
	for range 3000 {
		s := beside(all[rng.Intn(len(all))].s, all[rng.Intn(len(all))].s)
		for range rng.Intn(3) { // a few changes
			if len(s.T) == 0 {
				break
			}
			i, k := rng.Intn(len(s.T)), rng.Intn(3)
			switch rng.Intn(5) {
			case 0:
				s.T[i][k] = rng.Intn(s.N+3) - 1
			case 1:
				s.T[i] = turned(s.T[i], k)
			case 2:
				s.T = append(s.T, api.Tri{s.T[i][k], s.T[i][(k+2)%3], s.T[i][(k+1)%3]})
			case 3:
				s.T = slices.Delete(s.T, i, i+1)
			case 4:
				s.N += rng.Intn(2)
			}
		}
		w := certify.Check(s)
		count[w.Kind]++
		if w.Kind != certify.None {
			refuse(t, s, w)
		} else if x, _ := corner.New(s); x != nil {
			checkTable(t, x, s)
		} else {
			t.Fatalf("%v: no table", told(s))
		}
	}
	for _, kind := range []int{certify.None, certify.Index, certify.Loop, certify.Twice, certify.Mirrored, certify.Lonely, certify.Pinch} {
		if count[kind] < 5 {
			t.Errorf("%d of the kind %d", count[kind], kind)
		}
	}
}

func TestTablesBesideEachOther(t *testing.T) { // R4: each keeps its own
	var tables []*corner.Table
	for _, k := range surfaces() {
		x, _ := corner.New(k.s)
		again, _ := corner.New(k.s)
		if x == again {
			t.Fatal("two tables are one")
		}
		refuse(t, of(3, api.Tri{0, 1, 2}, api.Tri{0, 1, 2}), certify.Witness{Kind: certify.Twice, B: 1})
		spoil(again.Soup().T)
		tables = append(tables, x)
	}
	for range 2 {
		for i, k := range surfaces() {
			checkTable(t, tables[i], k.s)
		}
	}
}
