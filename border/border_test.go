package border_test

import (
	"iter"
	"math"
	"math/rand"
	"slices"
	"testing"

	"gypsum/api"
	"gypsum/border"
	"gypsum/certify"
	"gypsum/corner"
)

// of returns the soup of n vertices with these triangles.
func of(n int, tris ...api.Tri) api.Soup { return api.Soup{N: n, T: tris} }

// solid returns a tetrahedron, that of the chapter's example.
func solid() api.Soup {
	return of(4, api.Tri{0, 2, 1}, api.Tri{0, 1, 3}, api.Tri{1, 2, 3}, api.Tri{2, 0, 3})
}

// torus returns a closed surface of a b vertices and 2 a b triangles; a and b
// are at least 3.
func torus(a, b int) api.Soup {
	s := api.Soup{N: a * b}
	at := func(i, j int) int { return i%a*b + j%b }
	for i := range a {
		for j := range b {
			s.T = append(s.T, api.Tri{at(i, j), at(i+1, j), at(i, j+1)}, api.Tri{at(i+1, j), at(i+1, j+1), at(i, j+1)})
		}
	}
	return s
}

// strip returns a surface of that many triangles in a row.
func strip(tris int) api.Soup {
	s := api.Soup{N: tris + 2}
	for i := range tris {
		s.T = append(s.T, api.Tri{i, i + 1 + i%2, i + 2 - i%2})
	}
	return s
}

// band returns a strip of 2 n triangles, n at least 3, that has two borders.
func band(n int) api.Soup {
	s := api.Soup{N: 2 * n}
	for i := range n {
		k := (i + 1) % n
		s.T = append(s.T, api.Tri{i, k, n + i}, api.Tri{n + k, n + i, k})
	}
	return s
}

// wheel returns that many triangles, at least 3, all round the vertex 0.
func wheel(n int) api.Soup {
	s := api.Soup{N: n + 1}
	for i := range n {
		s.T = append(s.T, api.Tri{0, i + 1, (i+1)%n + 1})
	}
	return s
}

// fan returns that many triangles in a fan around the last vertex.
func fan(n int) api.Soup {
	s := api.Soup{N: n + 2}
	for i := range n {
		s.T = append(s.T, api.Tri{i, i + 1, n + 1})
	}
	return s
}

// spindle returns a closed surface of n + 2 vertices and 2 n triangles, n at
// least 3.
func spindle(n int) api.Soup {
	s := api.Soup{N: n + 2}
	for i := range n {
		k := (i + 1) % n
		s.T = append(s.T, api.Tri{i, k, n}, api.Tri{k, i, n + 1})
	}
	return s
}

// seven returns a torus any two of whose vertices are joined by an edge.
func seven() api.Soup {
	s := api.Soup{N: 7}
	for i := range 7 {
		s.T = append(s.T, api.Tri{i, (i + 1) % 7, (i + 3) % 7}, api.Tri{i, (i + 3) % 7, (i + 2) % 7})
	}
	return s
}

// without returns s without the triangles with these numbers.
func without(s api.Soup, tris ...int) api.Soup {
	x := api.Soup{N: s.N}
	for i, t := range s.T {
		if !slices.Contains(tris, i) {
			x.T = append(x.T, t)
		}
	}
	return x
}

// beside returns all of these soups side by side.
func beside(l ...api.Soup) api.Soup {
	var all api.Soup
	for _, s := range l {
		for _, t := range s.T {
			all.T = append(all.T, api.Tri{all.N + t[0], all.N + t[1], all.N + t[2]})
		}
		all.N += s.N
	}
	return all
}

// turned returns the triangle from its corner k on.
func turned(t api.Tri, k int) api.Tri { return api.Tri{t[k%3], t[(k+1)%3], t[(k+2)%3]} }

func mirrored(s api.Soup) api.Soup {
	x := api.Soup{N: s.N}
	for _, t := range s.T {
		x.T = append(x.T, api.Tri{t[0], t[2], t[1]})
	}
	return x
}

// changed is a surface as it may be written otherwise: which number each vertex
// gets, at which place each triangle stands, and with which of its corners it
// begins.
type changed struct{ name, place, by []int }

func (c changed) soup(s api.Soup) api.Soup {
	x := api.Soup{N: s.N, T: make([]api.Tri, len(s.T))}
	for i, t := range s.T {
		x.T[c.place[i]] = turned(api.Tri{c.name[t[0]], c.name[t[1]], c.name[t[2]]}, c.by[i])
	}
	return x
}

// corner returns what becomes of the corner c.
func (c changed) corner(from int) int {
	i := from / 3
	return 3*c.place[i] + (from%3-c.by[i]+3)%3
}

func anyChange(rng *rand.Rand, s api.Soup) changed {
	c := changed{rng.Perm(s.N), rng.Perm(len(s.T)), make([]int, len(s.T))}
	for i := range c.by {
		c.by[i] = rng.Intn(3)
	}
	return c
}

// kept is a surface with the lengths of its boundary loops, in order.
type kept struct {
	s       api.Soup
	lengths []int
}

// surfaces returns surfaces of many sorts.
func surfaces() []kept {
	triangle, closed := of(3, api.Tri{0, 1, 2}), []int(nil)
	return []kept{
		{api.Soup{}, closed}, {api.Soup{T: []api.Tri{}}, closed},
		{solid(), closed}, {mirrored(solid()), closed}, {spindle(3), closed}, {spindle(4), closed}, {spindle(25), closed},
		{seven(), closed}, {torus(3, 3), closed}, {torus(4, 7), closed}, {mirrored(torus(5, 5)), closed},
		{triangle, []int{3}}, {mirrored(triangle), []int{3}}, {of(3, api.Tri{1, 2, 0}), []int{3}},
		{of(4, api.Tri{0, 1, 2}, api.Tri{2, 1, 3}), []int{4}}, {strip(7), []int{9}}, {strip(40), []int{42}},
		{fan(2), []int{4}}, {fan(20), []int{22}}, {wheel(3), []int{3}}, {wheel(4), []int{4}}, {wheel(20), []int{20}},
		{without(solid(), 0), []int{3}}, {without(solid(), 3), []int{3}}, {without(seven(), 13), []int{3}}, {without(torus(4, 5), 0, 1), []int{4}},
		{band(3), []int{3, 3}}, {band(10), []int{10, 10}},
		{without(torus(5, 6), 3, 20), []int{3, 3}}, {without(torus(6, 6), 0, 15, 34, 50), []int{3, 3, 3, 3}},
		{without(torus(6, 6), 0, 14, 15, 34, 50), []int{3, 4, 3, 3}}, {without(spindle(9), 0, 9), []int{3, 3}},
		{beside(solid(), solid()), closed}, {beside(spindle(5), torus(3, 4)), closed},
		{beside(triangle, triangle), []int{3, 3}}, {beside(strip(5), seven()), []int{7}}, {beside(band(4), wheel(5)), []int{4, 4, 5}},
		{beside(solid(), strip(1), band(3), torus(3, 3), fan(6)), []int{3, 3, 3, 8}},
	}
}

// grown returns a surface of about that many triangles: a closed one grown at
// chance from s, and some triangles taken away.
func grown(rng *rand.Rand, s api.Soup, tris int) api.Soup {
	s.T = slices.Clone(s.T)
	for len(s.T) < tris { // a vertex more in one triangle
		i, v := rng.Intn(len(s.T)), s.N
		t := s.T[i]
		s.T[i] = api.Tri{t[0], t[1], v}
		s.T = append(s.T, api.Tri{t[1], t[2], v}, api.Tri{t[2], t[0], v})
		s.N++
	}
	for range rng.Intn(tris) {
		if x := without(s, rng.Intn(len(s.T))); certify.Is(x) {
			s = x
		}
	}
	return s
}

// oracle tells from the triangles alone what the boundary of a surface is.
type oracle struct {
	s     api.Soup
	edges []api.Edge  // from the first corner on
	after map[int]int // of boundary vertices
}

func tell(s api.Soup) oracle {
	o := oracle{s: s, after: map[int]int{}}
	is := map[api.Edge]bool{}
	for _, t := range s.T {
		is[api.Edge{t[0], t[1]}], is[api.Edge{t[1], t[2]}], is[api.Edge{t[2], t[0]}] = true, true, true
	}
	for _, t := range s.T {
		for _, e := range []api.Edge{{t[1], t[2]}, {t[2], t[0]}, {t[0], t[1]}} { // the corner 0 faces the first one
			if !is[api.Edge{e[1], e[0]}] {
				o.edges = append(o.edges, e)
				o.after[e[1]] = e[0]
			}
		}
	}
	return o
}

// next returns the successor of v, or -1.
func (o oracle) next(v int) int {
	if u, ok := o.after[v]; ok {
		return u
	}
	return -1
}

func (o oracle) walk(v int) []int {
	if o.next(v) < 0 {
		return nil
	}
	l := []int{v}
	for u := o.next(v); u != v; u = o.next(u) {
		l = append(l, u)
	}
	return l
}

func (o oracle) loops() [][]int {
	var loops [][]int
	in := make([]bool, o.s.N)
	for v := range o.s.N { // so that the least one of each loop comes first
		if o.next(v) < 0 || in[v] {
			continue
		}
		l := o.walk(v)
		for _, u := range l {
			in[u] = true
		}
		loops = append(loops, l)
	}
	return loops
}

// none returns numbers about those from 0 to n-1, none of which is one of them.
func none(n int) []int {
	return []int{-1, -2, -3, -n - 1, n, n + 1, n + 2, 2*n + 1, 3*n + 3, n + 1<<16, n + 1<<31, n + 1<<32, n - 1<<32, 1 << 32, -1 << 32,
		1<<40 + 1, math.MaxInt, math.MaxInt - 1, math.MinInt, math.MinInt + 1}
}

func told(s api.Soup) any {
	if len(s.T) > 30 {
		return api.Soup{N: s.N, T: s.T[:30]}
	}
	return s
}

// table returns the table of the surface s.
func table(t *testing.T, s api.Soup) *corner.Table {
	t.Helper()
	x, w := corner.New(s)
	if x == nil {
		t.Fatalf("%v is no surface: %v", told(s), w)
	}
	return x
}

// same tells whether these are the same loops.
func same(a, b [][]int) bool { return slices.EqualFunc(a, b, slices.Equal) }

// spoil overwrites the list and what lies behind it.
func spoil[T any](l []T, with T) {
	l = l[:cap(l)]
	for i := range l {
		l[i] = with
	}
}

// eachOrder calls f with all orders of the numbers below n.
func eachOrder(n int, f func([]int)) {
	var add func(l []int)
	add = func(l []int) {
		if len(l) == n {
			f(l)
		}
		for i := range n {
			if !slices.Contains(l, i) {
				add(append(slices.Clone(l), i))
			}
		}
	}
	add(nil)
}

// eachTurn calls f with all lists of n numbers from 0 to 2.
func eachTurn(n int, f func([]int)) {
	number := 1
	for range n {
		number *= 3
	}
	for k := range number {
		l := make([]int, n)
		for i := range l {
			l[i] = k % 3
			k /= 3
		}
		f(l)
	}
}

// divided tells whether s has no directed edge twice, and three vertices in each
// triangle: without that, more triangles don't help.
func divided(s api.Soup) bool {
	seen := map[api.Edge]bool{}
	for _, t := range s.T {
		for k := range 3 {
			e := api.Edge{t[k], t[(k+1)%3]}
			if e[0] == e[1] || seen[e] {
				return false
			}
			seen[e] = true
		}
	}
	return true
}

// checkEdges holds the boundary edges of x.
func checkEdges(t *testing.T, x *corner.Table, o oracle) {
	t.Helper()
	first, second := border.Edges(x), border.Edges(x)
	if !slices.Equal(first, o.edges) {
		t.Fatalf("%v: edges %v; want %v", told(o.s), first, o.edges)
	}
	spoil(first, api.Edge{-7, -7}) // R3
	if !slices.Equal(second, o.edges) {
		t.Fatalf("%v: two lists of edges share memory", told(o.s))
	}
	spoil(second, api.Edge{-7, -7})
	if got := border.Edges(x); !slices.Equal(got, o.edges) {
		t.Fatalf("%v: edges %v once they were overwritten", told(o.s), got)
	}
}

// checkLoops holds the boundary loops of x.
func checkLoops(t *testing.T, x *corner.Table, o oracle) {
	t.Helper()
	want := o.loops()
	first, second := border.Loops(x), border.Loops(x)
	if !same(first, want) {
		t.Fatalf("%v: loops %v; want %v", told(o.s), first, want)
	}
	for i := range first { // R3: one after the other, and what lies behind it
		spoil(first[i], -7)
		if !same(first[i+1:], want[i+1:]) || !same(second, want) {
			t.Fatalf("%v: the loop %d shares memory", told(o.s), i)
		}
	}
	spoil(first, nil)
	if !same(second, want) {
		t.Fatalf("%v: two lists of loops share memory", told(o.s))
	}
	for i := range second { // those before it as well
		i = len(second) - 1 - i
		spoil(second[i], -7)
		if !same(second[:i], want[:i]) {
			t.Fatalf("%v: the loop %d shares memory", told(o.s), i)
		}
	}
	spoil(second, []int{-7})
	if got := border.Loops(x); !same(got, want) {
		t.Fatalf("%v: loops %v once they were overwritten", told(o.s), got)
	}
}

// checkWalk holds what follows the vertex v of x.
func checkWalk(t *testing.T, x *corner.Table, o oracle, v int) {
	t.Helper()
	want, seq := o.walk(v), border.Walk(x, v)
	for range 2 { // R6
		if got := slices.Collect(seq); !slices.Equal(got, want) {
			t.Fatalf("%v: walk from %d is %v; want %v", told(o.s), v, got, want)
		}
	}
}

// checkNone holds that v is no boundary vertex of x.
func checkNone(t *testing.T, x *corner.Table, v int) {
	t.Helper()
	seq := border.Walk(x, v)
	if seq == nil {
		t.Fatalf("walk from %d is nil", v)
	}
	for w := range seq {
		t.Fatalf("%d follows %d", w, v)
	}
	if got := border.After(x, v); got != -1 {
		t.Fatalf("after %d comes %d", v, got)
	}
}

// checkWhole holds what follows for the table as a whole, by its answers alone.
func checkWhole(t *testing.T, x *corner.Table) {
	t.Helper()
	loops, edges := border.Loops(x), border.Edges(x)
	in := map[int]bool{}
	for i, l := range loops {
		if len(l) < 3 || slices.Min(l) != l[0] || i > 0 && l[0] <= loops[i-1][0] {
			t.Fatalf("%v: loops %v", told(x.Soup()), loops)
		}
		for k, v := range l {
			u := l[(k+1)%len(l)]
			if in[v] || border.After(x, v) != u {
				t.Fatalf("%v: %d in the loops %v; after it comes %d", told(x.Soup()), v, loops, border.After(x, v))
			}
			in[v] = true
			if x.Facing(api.Edge{u, v}) < 0 || x.Facing(api.Edge{v, u}) >= 0 {
				t.Fatalf("%v: %d after %d in %v", told(x.Soup()), u, v, l)
			}
		}
		if len(l) < 100 {
			for k, v := range l { // from anywhere in it
				if got := slices.Collect(border.Walk(x, v)); !slices.Equal(got, slices.Concat(l[k:], l[:k])) {
					t.Fatalf("%v: walk from %d is %v; want %v turned", told(x.Soup()), v, got, l)
				}
			}
		}
	}
	if len(in) != len(edges) {
		t.Fatalf("%v: %d edges, %d vertices", told(x.Soup()), len(edges), len(in))
	}
	last := -1
	for _, e := range edges {
		c := x.Facing(e)
		if c <= last || x.Opp(c) >= 0 || border.After(x, e[1]) != e[0] || !in[e[0]] || !in[e[1]] {
			t.Fatalf("%v: edge %v of %v", told(x.Soup()), e, edges)
		}
		last = c
	}
	for v := range x.Vertices() {
		if !in[v] {
			checkNone(t, x, v)
		}
	}
}

// check holds all that is told of the surface s.
func check(t *testing.T, s api.Soup) *corner.Table {
	t.Helper()
	x, o := table(t, s), tell(s)
	for v := range s.N {
		if got := border.After(x, v); got != o.next(v) {
			t.Fatalf("%v: after %d comes %d; want %d", told(s), v, got, o.next(v))
		}
		if s.N < 100 || v%97 == 0 || v == s.N-1 {
			checkWalk(t, x, o, v)
		}
	}
	for _, v := range none(s.N) {
		checkNone(t, x, v)
	}
	checkEdges(t, x, o)
	checkLoops(t, x, o)
	checkWhole(t, x)
	if got := x.Soup(); got.N != s.N || !slices.Equal(got.T, s.T) {
		t.Fatalf("%v: the table has become that of %v", told(s), told(got))
	}
	return x
}

func TestExample(t *testing.T) { // the chapter's example
	x := check(t, of(3, api.Tri{0, 1, 2}))
	if got := border.Edges(x); !slices.Equal(got, []api.Edge{{1, 2}, {2, 0}, {0, 1}}) {
		t.Error(got)
	}
	for c, e := range border.Edges(x) {
		if x.Facing(e) != c {
			t.Error(c, e)
		}
	}
	if got := border.After(x, 0); got != 2 {
		t.Error(got)
	}
	if got := border.Loops(x); !same(got, [][]int{{0, 2, 1}}) {
		t.Error(got)
	}
	x = check(t, of(4, api.Tri{0, 1, 2}, api.Tri{0, 3, 1}, api.Tri{1, 3, 2}, api.Tri{2, 3, 0}))
	if edges, loops := border.Edges(x), border.Loops(x); len(edges) != 0 || len(loops) != 0 {
		t.Error(edges, loops)
	}
	for v := range 4 {
		checkNone(t, x, v)
	}
}

// byHand is what is known of a surface.
type byHand struct {
	s     api.Soup
	edges []api.Edge
	loops [][]int
}

func TestByHand(t *testing.T) { // P12.1, P12.2
	for _, h := range []byHand{
		{api.Soup{}, nil, nil},
		{of(3, api.Tri{2, 0, 1}), []api.Edge{{0, 1}, {1, 2}, {2, 0}}, [][]int{{0, 2, 1}}}, // a triangle alone
		{of(3, api.Tri{1, 0, 2}), []api.Edge{{0, 2}, {2, 1}, {1, 0}}, [][]int{{0, 1, 2}}},
		{of(4, api.Tri{0, 1, 2}, api.Tri{2, 1, 3}), []api.Edge{{2, 0}, {0, 1}, {1, 3}, {3, 2}}, [][]int{{0, 2, 3, 1}}},
		{of(4, api.Tri{2, 1, 3}, api.Tri{0, 1, 2}), []api.Edge{{1, 3}, {3, 2}, {2, 0}, {0, 1}}, [][]int{{0, 2, 3, 1}}}, // the other one first
		{of(4, api.Tri{1, 3, 2}, api.Tri{2, 0, 1}), []api.Edge{{3, 2}, {1, 3}, {0, 1}, {2, 0}}, [][]int{{0, 2, 3, 1}}}, // begun with others
		{of(4, api.Tri{0, 2, 1}, api.Tri{1, 2, 3}), []api.Edge{{1, 0}, {0, 2}, {2, 3}, {3, 1}}, [][]int{{0, 1, 3, 2}}}, // mirrored
		{wheel(4), []api.Edge{{1, 2}, {2, 3}, {3, 4}, {4, 1}}, [][]int{{1, 4, 3, 2}}},                                  // 0 is an inner vertex
		{without(solid(), 0), []api.Edge{{0, 1}, {1, 2}, {2, 0}}, [][]int{{0, 2, 1}}},                                  // as the triangle 0 2 1 went
		{band(3), []api.Edge{{0, 1}, {4, 3}, {1, 2}, {5, 4}, {2, 0}, {3, 5}}, [][]int{{0, 2, 1}, {3, 4, 5}}},
		{of(6, api.Tri{5, 1, 3}, api.Tri{0, 2, 4}), []api.Edge{{1, 3}, {3, 5}, {5, 1}, {2, 4}, {4, 0}, {0, 2}}, [][]int{{0, 4, 2}, {1, 5, 3}}},
	} {
		x := check(t, h.s)
		if got := border.Edges(x); !slices.Equal(got, h.edges) {
			t.Errorf("%v: edges %v; want %v", h.s, got, h.edges)
		}
		if got := border.Loops(x); !same(got, h.loops) {
			t.Errorf("%v: loops %v; want %v", h.s, got, h.loops)
		}
	}
}

func TestSurfaces(t *testing.T) { // P12.1, P12.2, P12.3
	for _, k := range surfaces() {
		x := check(t, k.s)
		var lengths []int
		for _, l := range border.Loops(x) {
			lengths = append(lengths, len(l))
		}
		if !slices.Equal(lengths, k.lengths) {
			t.Errorf("%v: loops of %v vertices; want %v", told(k.s), lengths, k.lengths)
		}
	}
	for _, n := range []int{1, 2, 100, 1365} { // that many loops
		if got := border.Loops(check(t, beside(slices.Repeat([]api.Soup{strip(1)}, n)...))); len(got) != n || !slices.Equal(got[n-1], []int{3*n - 3, 3*n - 1, 3*n - 2}) {
			t.Error(n, len(got))
		}
	}
}

func TestGrown(t *testing.T) { // P12.1, P12.2, P12.3
	rng := rand.New(rand.NewSource(121))
	closed, many, long := 0, 0, 0
	for range 900 {
		from := []api.Soup{solid(), seven(), torus(3, 5), band(4)}[rng.Intn(4)]
		s := grown(rng, from, 4+rng.Intn(60))
		if rng.Intn(4) == 0 {
			s = beside(s, grown(rng, solid(), 4+rng.Intn(20)))
		}
		s = anyChange(rng, s).soup(s)
		loops := border.Loops(check(t, s))
		if len(loops) == 0 {
			closed++
		}
		if len(loops) > 3 {
			many++
		}
		for _, l := range loops {
			if len(l) > 6 {
				long++
			}
		}
	}
	if closed < 10 || many < 100 || long < 50 {
		t.Errorf("%d closed, %d of many loops, %d long loops", closed, many, long)
	}
}

// apart returns s without as many triangles as there may be, none of which has
// a vertex of another one.
func apart(s api.Soup) (x api.Soup, taken []api.Tri) {
	x.N = s.N
	used := map[int]bool{}
	for _, t := range s.T {
		if used[t[0]] || used[t[1]] || used[t[2]] {
			x.T = append(x.T, t)
			continue
		}
		used[t[0]], used[t[1]], used[t[2]] = true, true, true
		taken = append(taken, t)
	}
	return x, taken
}

func TestLargest(t *testing.T) { // P12.1, P12.2, P12.3: as many vertices, triangles and corners at one vertex as there may be
	rng := rand.New(rand.NewSource(122))
	holes, taken := apart(torus(64, 64))
	if len(taken) < 1000 {
		t.Fatal(len(taken))
	}
	for _, c := range []struct {
		s             api.Soup
		loops, vertex int // how many loops, how many vertices in them
	}{
		{torus(64, 64), 0, 0}, {spindle(4094), 0, 0}, {holes, len(taken), 3 * len(taken)}, {without(torus(64, 64), 8191), 1, 3},
		{wheel(4095), 1, 4095}, {fan(4094), 1, 4096}, {strip(4094), 1, 4096}, {band(2048), 2, 4096},
		{beside(wheel(2047), spindle(2046)), 1, 2047}, {beside(strip(1), fan(4091)), 2, 4096},
	} {
		if c.s.N != 4096 {
			t.Fatal(c.s.N)
		}
		for _, s := range []api.Soup{c.s, anyChange(rng, c.s).soup(c.s)} {
			x := check(t, s)
			if loops, edges := border.Loops(x), border.Edges(x); len(loops) != c.loops || len(edges) != c.vertex {
				t.Error(len(loops), len(edges), c.loops, c.vertex)
			}
		}
	}
}

func TestNothing(t *testing.T) { // P12.1, P12.2: no triangles, no table
	x := check(t, api.Soup{})
	refused, _ := corner.New(of(3, api.Tri{0, 1, 1}))
	for range 2 {
		for _, empty := range []*corner.Table{x, nil, refused, {}} {
			for _, v := range append(none(0), 0, 1, 2, 3) {
				checkNone(t, empty, v)
			}
			if edges, loops := border.Edges(empty), border.Loops(empty); len(edges) != 0 || len(loops) != 0 {
				t.Error(edges, loops)
			}
		}
	}
}

func TestInner(t *testing.T) { // P12.1, P12.2: vertices beside the boundary, and far from it
	x := check(t, without(torus(6, 6), 0))
	tri := torus(6, 6).T[0]
	for v := range 36 {
		if slices.Contains(tri[:], v) {
			continue
		}
		checkNone(t, x, v)
	}
	x = check(t, of(7, api.Tri{6, 0, 1}, api.Tri{6, 1, 2}, api.Tri{6, 2, 0}, api.Tri{1, 0, 3}, api.Tri{2, 1, 4}, api.Tri{0, 2, 5}))
	checkNone(t, x, 6)
	if got := border.Loops(x); !same(got, [][]int{{0, 5, 2, 4, 1, 3}}) { // an edge is inner between 0 and 1, both on the boundary
		t.Error(got)
	}
}

func TestAgainstTheTriangles(t *testing.T) { // P12.1, P12.2: the loop goes as the triangle that was there
	for _, s := range []api.Soup{solid(), mirrored(solid()), spindle(6), seven(), torus(4, 4), mirrored(torus(3, 6))} {
		for i, tri := range s.T {
			for k := range 3 {
				s.T[i] = turned(tri, k)
				x := check(t, without(s, i))
				if got, want := border.Loops(x), turned(tri, slices.Index(tri[:], slices.Min(tri[:]))); !same(got, [][]int{want[:]}) {
					t.Errorf("%v without %v: %v", told(s), tri, got)
				}
				for j, v := range tri {
					if got := border.After(x, v); got != tri[(j+1)%3] {
						t.Errorf("%v without %v: after %d comes %d", told(s), tri, v, got)
					}
				}
			}
		}
	}
}

// closing closes each loop of three vertices of s by itself, tells how often
// that worked, and how often another triangle has these vertices already.
func closing(t *testing.T, s api.Soup) (closed, back int) {
	t.Helper()
	loops := border.Loops(check(t, s))
	for i, l := range loops {
		if len(l) != 3 {
			continue
		}
		x := of(s.N, append(slices.Clone(s.T), api.Tri(l))...)
		if w := certify.Check(x); w.Kind == certify.Mirrored { // a triangle alone
			back++
			continue
		}
		closed++
		if got := border.Loops(check(t, x)); !same(got, slices.Delete(slices.Clone(loops), i, i+1)) {
			t.Errorf("%v: loops %v, and %v once %v is closed", told(s), loops, got, l)
		}
		// The other way round it has two edges twice.
		if certify.Is(of(s.N, append(slices.Clone(s.T), api.Tri{l[0], l[2], l[1]})...)) {
			t.Errorf("%v: %v can be closed the other way round", told(s), l)
		}
	}
	return closed, back
}

func TestClosedByATriangle(t *testing.T) { // P12.1, P12.2
	rng := rand.New(rand.NewSource(123))
	closed, back := 0, 0
	for _, k := range surfaces() {
		c, b := closing(t, k.s)
		closed, back = closed+c, back+b
	}
	for range 200 {
		c, b := closing(t, grown(rng, torus(3, 4), 30+rng.Intn(20)))
		closed, back = closed+c, back+b
	}
	if closed < 100 || back < 5 {
		t.Error(closed, back)
	}
}

func TestLeft(t *testing.T) { // R6: a loop that is left, after any number of vertices
	for _, k := range surfaces() {
		x, o := table(t, k.s), tell(k.s)
		for v := range k.s.N {
			want := o.walk(v)
			seq := border.Walk(x, v)
			for n := 1; n <= len(want); n++ {
				var got []int
				seq(func(w int) bool {
					if len(got) == n {
						t.Fatalf("%v: goes on after %d of those from %d", told(k.s), n, v)
					}
					got = append(got, w)
					return len(got) < n
				})
				if !slices.Equal(got, want[:n]) {
					t.Fatalf("%v: walk from %d is %v; want %v", told(k.s), v, got, want[:n])
				}
				if got = slices.Collect(seq); !slices.Equal(got, want) {
					t.Fatalf("%v: walk from %d is %v once it was left; want %v", told(k.s), v, got, want)
				}
			}
		}
	}
}

func TestInsideEachOther(t *testing.T) { // R6
	for _, s := range []api.Soup{strip(1), fan(5), wheel(6), beside(solid(), strip(4), band(3))} {
		x, o := table(t, s), tell(s)
		for v := range s.N {
			for w := range s.N {
				outer, inner := border.Walk(x, v), border.Walk(x, w)
				if v == w {
					inner = outer // one inside itself
				}
				var got []int
				for u := range outer {
					got = append(got, u)
					if l := slices.Collect(inner); !slices.Equal(l, o.walk(w)) {
						t.Fatalf("%v: walk from %d is %v inside", s, w, l)
					}
					if !same(border.Loops(x), o.loops()) {
						t.Fatalf("%v: other loops inside", s)
					}
				}
				if !slices.Equal(got, o.walk(v)) {
					t.Fatalf("%v: walk from %d is %v outside", s, v, got)
				}
			}
		}
	}
}

func TestInTurns(t *testing.T) { // R6: two that go on by turns
	seq := border.Walk(table(t, strip(6)), 5)
	one, stop := iter.Pull(seq)
	defer stop()
	other, stopped := iter.Pull(seq)
	defer stopped()
	for _, want := range []int{5, 3, 1, 0, 2, 4, 6, 7} {
		a, _ := one()
		b, _ := other()
		if a != want || b != want {
			t.Error(want, a, b)
		}
	}
	if _, ok := one(); ok {
		t.Error("goes on")
	}
}

func TestWrittenOtherwise(t *testing.T) { // P12.1, P12.2: the boundary is the same, whatever its numbers
	rng := rand.New(rand.NewSource(124))
	for _, k := range surfaces() {
		x := table(t, k.s)
		for range 10 {
			c := anyChange(rng, k.s)
			y := check(t, c.soup(k.s))
			var want [][]int
			for _, l := range border.Loops(x) {
				for i := range l {
					l[i] = c.name[l[i]]
				}
				first := slices.Index(l, slices.Min(l))
				want = append(want, slices.Concat(l[first:], l[:first]))
			}
			slices.SortFunc(want, slices.Compare)
			if got := border.Loops(y); !same(got, want) {
				t.Fatalf("%v: loops %v; want %v", told(k.s), got, want)
			}
			faced := map[api.Edge]int{}
			edges := border.Edges(x)
			for i, e := range edges {
				edges[i] = api.Edge{c.name[e[0]], c.name[e[1]]}
				faced[edges[i]] = c.corner(x.Facing(e))
			}
			slices.SortFunc(edges, func(a, b api.Edge) int { return faced[a] - faced[b] })
			if got := border.Edges(y); !slices.Equal(got, edges) {
				t.Fatalf("%v: edges %v; want %v", told(k.s), got, edges)
			}
			for v := range k.s.N {
				if u := border.After(x, v); u >= 0 && border.After(y, c.name[v]) != c.name[u] || u < 0 && border.After(y, c.name[v]) != -1 {
					t.Fatalf("%v: after %d comes %d, and then another one", told(k.s), v, u)
				}
			}
		}
	}
}

func TestMirrored(t *testing.T) { // P12.1, P12.2: the other way round
	for _, k := range surfaces() {
		x, y := table(t, k.s), check(t, mirrored(k.s))
		want := border.Loops(x)
		for _, l := range want {
			slices.Reverse(l[1:]) // the least one stays
		}
		if got := border.Loops(y); !same(got, want) {
			t.Fatalf("%v: loops %v; want %v", told(k.s), got, want)
		}
		edges := border.Edges(x)
		if got := border.Edges(y); len(got) != len(edges) {
			t.Fatalf("%v: edges %v, and then %v", told(k.s), edges, got)
		}
		for _, e := range edges {
			if border.After(x, e[1]) != e[0] || border.After(y, e[0]) != e[1] || !slices.Contains(border.Edges(y), api.Edge{e[1], e[0]}) {
				t.Fatalf("%v: edge %v", told(k.s), e)
			}
		}
	}
}

func TestEachOrder(t *testing.T) { // P12.1: all orders of triangles, all of their turns
	for _, s := range []api.Soup{strip(1), strip(2), strip(3), fan(4), wheel(3), without(solid(), 1), beside(strip(1), strip(2))} {
		name := make([]int, s.N)
		for v := range name {
			name[v] = v
		}
		began := map[api.Edge]bool{}
		loops := border.Loops(table(t, s))
		eachOrder(len(s.T), func(place []int) {
			eachTurn(len(s.T), func(by []int) {
				x := changed{name, place, by}.soup(s)
				y, o := table(t, x), tell(x)
				checkEdges(t, y, o)
				if got := border.Loops(y); !same(got, loops) {
					t.Fatalf("%v: loops %v; want %v", x, got, loops)
				}
				began[border.Edges(y)[0]] = true
			})
		})
		if len(began) != len(tell(s).edges) { // each of them comes first at some time
			t.Errorf("%v: edges begin with %v", s, began)
		}
	}
}

func TestEachName(t *testing.T) { // P12.2: loops begin with their least vertex, and are ordered by it
	for _, s := range []api.Soup{strip(1), strip(3), wheel(4), beside(strip(1), strip(1)), band(3)} {
		first := map[int]bool{}
		eachOrder(s.N, func(name []int) {
			x := table(t, changed{name, []int{0, 1, 2, 3, 4, 5}[:len(s.T)], make([]int, len(s.T))}.soup(s))
			checkLoops(t, x, tell(x.Soup()))
			first[slices.Index(name, border.Loops(x)[0][0])] = true
		})
		if len(first) != len(tell(s).after) {
			t.Errorf("%v: loops begin with %v", s, first)
		}
	}
}

func TestAllSmallSurfaces(t *testing.T) { // P12.1, P12.2, P12.3: all surfaces of up to three triangles over up to five vertices, and of four over four
	surfaces := 0
	var add func(s api.Soup, most int)
	add = func(s api.Soup, most int) {
		if certify.Is(s) {
			surfaces++
			check(t, s)
		}
		if len(s.T) == most {
			return
		}
		for i := range s.N * s.N * s.N {
			tri := api.Tri{i % s.N, i / s.N % s.N, i / s.N / s.N}
			if x := of(s.N, append(slices.Clone(s.T), tri)...); divided(x) {
				add(x, most)
			}
		}
	}
	for n := range 5 {
		add(api.Soup{N: n}, 3)
	}
	add(of(5, api.Tri{4, 0, 3}), 3)
	add(of(4, api.Tri{1, 0, 2}), 4)
	if surfaces < 1000 {
		t.Errorf("%d surfaces", surfaces)
	}
}

func TestTablesBesideEachOther(t *testing.T) { // R4: each is on its own
	var seqs []iter.Seq[int]
	var want [][]int
	for _, k := range surfaces() {
		x, o := table(t, k.s), tell(k.s)
		for v := range k.s.N {
			seqs, want = append(seqs, border.Walk(x, v)), append(want, o.walk(v))
		}
	}
	for range 2 {
		for i, seq := range seqs {
			if got := slices.Collect(seq); !slices.Equal(got, want[i]) {
				t.Fatalf("%v; want %v", got, want[i])
			}
		}
	}
}
