package ring_test

import (
	"iter"
	"math"
	"math/rand"
	"slices"
	"testing"

	"gypsum/api"
	"gypsum/certify"
	"gypsum/corner"
	"gypsum/ring"
)

// of returns the soup of n vertices with these triangles.
func of(n int, tris ...api.Tri) api.Soup { return api.Soup{N: n, T: tris} }

// solid returns a tetrahedron, that of the chapter's example.
func solid() api.Soup {
	return of(4, api.Tri{0, 2, 1}, api.Tri{0, 1, 3}, api.Tri{1, 2, 3}, api.Tri{2, 0, 3})
}

// torus returns a closed surface of a b vertices and 2 a b triangles; a and b
// are at least 3.
func torus(a, b int) api.Soup {
	s := api.Soup{N: a * b}
	at := func(i, j int) int { return i%a*b + j%b }
	for i := range a {
		for j := range b {
			s.T = append(s.T, api.Tri{at(i, j), at(i+1, j), at(i, j+1)}, api.Tri{at(i+1, j), at(i+1, j+1), at(i, j+1)})
		}
	}
	return s
}

// strip returns a surface of that many triangles in a row.
func strip(tris int) api.Soup {
	s := api.Soup{N: tris + 2}
	for i := range tris {
		s.T = append(s.T, api.Tri{i, i + 1 + i%2, i + 2 - i%2})
	}
	return s
}

// band returns a strip of 2 n triangles, n at least 3, that has two borders.
func band(n int) api.Soup {
	s := api.Soup{N: 2 * n}
	for i := range n {
		k := (i + 1) % n
		s.T = append(s.T, api.Tri{i, k, n + i}, api.Tri{n + k, n + i, k})
	}
	return s
}

// wheel returns that many triangles, at least 3, all round the vertex 0.
func wheel(n int) api.Soup {
	s := api.Soup{N: n + 1}
	for i := range n {
		s.T = append(s.T, api.Tri{0, i + 1, (i+1)%n + 1})
	}
	return s
}

// fan returns that many triangles in a fan around the last vertex.
func fan(n int) api.Soup {
	s := api.Soup{N: n + 2}
	for i := range n {
		s.T = append(s.T, api.Tri{i, i + 1, n + 1})
	}
	return s
}

// spindle returns a closed surface of n + 2 vertices and 2 n triangles, n at
// least 3.
func spindle(n int) api.Soup {
	s := api.Soup{N: n + 2}
	for i := range n {
		k := (i + 1) % n
		s.T = append(s.T, api.Tri{i, k, n}, api.Tri{k, i, n + 1})
	}
	return s
}

// seven returns a torus any two of whose vertices are joined by an edge.
func seven() api.Soup {
	s := api.Soup{N: 7}
	for i := range 7 {
		s.T = append(s.T, api.Tri{i, (i + 1) % 7, (i + 3) % 7}, api.Tri{i, (i + 3) % 7, (i + 2) % 7})
	}
	return s
}

// without returns s without the triangles with these numbers.
func without(s api.Soup, tris ...int) api.Soup {
	x := api.Soup{N: s.N}
	for i, t := range s.T {
		if !slices.Contains(tris, i) {
			x.T = append(x.T, t)
		}
	}
	return x
}

// beside returns all of these soups side by side.
func beside(l ...api.Soup) api.Soup {
	var all api.Soup
	for _, s := range l {
		for _, t := range s.T {
			all.T = append(all.T, api.Tri{all.N + t[0], all.N + t[1], all.N + t[2]})
		}
		all.N += s.N
	}
	return all
}

// turned returns the triangle from its corner k on.
func turned(t api.Tri, k int) api.Tri { return api.Tri{t[k%3], t[(k+1)%3], t[(k+2)%3]} }

func mirrored(s api.Soup) api.Soup {
	x := api.Soup{N: s.N}
	for _, t := range s.T {
		x.T = append(x.T, api.Tri{t[0], t[2], t[1]})
	}
	return x
}

// changed is a surface as it may be written otherwise: which number each vertex
// gets, at which place each triangle stands, and with which of its corners it
// begins.
type changed struct{ name, place, by []int }

func (c changed) soup(s api.Soup) api.Soup {
	x := api.Soup{N: s.N, T: make([]api.Tri, len(s.T))}
	for i, t := range s.T {
		x.T[c.place[i]] = turned(api.Tri{c.name[t[0]], c.name[t[1]], c.name[t[2]]}, c.by[i])
	}
	return x
}

// corner returns what becomes of the corner c.
func (c changed) corner(from int) int {
	i := from / 3
	return 3*c.place[i] + (from%3-c.by[i]+3)%3
}

func anyChange(rng *rand.Rand, s api.Soup) changed {
	c := changed{rng.Perm(s.N), rng.Perm(len(s.T)), make([]int, len(s.T))}
	for i := range c.by {
		c.by[i] = rng.Intn(3)
	}
	return c
}

// surfaces returns surfaces of many sorts.
func surfaces() []api.Soup {
	triangle := of(3, api.Tri{0, 1, 2})
	return []api.Soup{
		{}, {T: []api.Tri{}},
		solid(), mirrored(solid()), spindle(3), spindle(4), spindle(25),
		seven(), torus(3, 3), torus(4, 7), mirrored(torus(5, 5)),
		triangle, mirrored(triangle), of(3, api.Tri{1, 2, 0}),
		of(4, api.Tri{0, 1, 2}, api.Tri{2, 1, 3}), strip(7), strip(40),
		fan(2), fan(20), wheel(3), wheel(4), wheel(20),
		without(solid(), 0), without(solid(), 3), without(seven(), 13),
		band(3), band(10), without(torus(5, 6), 3, 20), without(torus(6, 6), 0, 15, 34, 50),
		beside(solid(), solid()), beside(spindle(5), torus(3, 4)),
		beside(triangle, triangle), beside(strip(5), seven()), beside(band(4), wheel(5)),
		beside(solid(), strip(1), band(3), torus(3, 3), fan(6)),
	}
}

// grown returns a surface of about that many triangles: a closed one grown at
// chance from a tetrahedron, and some triangles taken away.
func grown(rng *rand.Rand, tris int) api.Soup {
	s := solid()
	for len(s.T) < tris { // a vertex more in one triangle
		i, v := rng.Intn(len(s.T)), s.N
		t := s.T[i]
		s.T[i] = api.Tri{t[0], t[1], v}
		s.T = append(s.T, api.Tri{t[1], t[2], v}, api.Tri{t[2], t[0], v})
		s.N++
	}
	for range rng.Intn(tris) {
		if x := without(s, rng.Intn(len(s.T))); certify.Is(x) {
			s = x
		}
	}
	return s
}

// oracle tells from the document what is around the vertices of a surface.
type oracle struct {
	s       api.Soup
	corners [][]int            // at each vertex, from the least on
	at      map[api.Edge][]int // the triangles at each edge, the lesser vertex first
}

func tell(s api.Soup) oracle {
	o := oracle{s, make([][]int, s.N), map[api.Edge][]int{}}
	for i, t := range s.T {
		for k, v := range t {
			o.corners[v] = append(o.corners[v], 3*i+k)
			e := edge(v, t[(k+1)%3])
			o.at[e] = append(o.at[e], i)
		}
	}
	return o
}

func edge(a, b int) api.Edge { return api.Edge{min(a, b), max(a, b)} }

// the vertex at c, the one at Next and the one at Prev
func (o oracle) three(c int) (v, next, prev int) {
	t := turned(o.s.T[c/3], c%3)
	return t[0], t[1], t[2]
}

// across returns the corner at v of the triangle at the other side of the edge
// between v and w, seen from the corner c, or -1 if there is none.
func (o oracle) across(c, v, w int) int {
	for _, i := range o.at[edge(v, w)] {
		if i != c/3 {
			return 3*i + slices.Index(o.s.T[i][:], v)
		}
	}
	return -1
}

func (o oracle) inner(v int) bool {
	for _, c := range o.corners[v] {
		_, next, prev := o.three(c)
		if len(o.at[edge(v, next)]) != 2 || len(o.at[edge(v, prev)]) != 2 {
			return false
		}
	}
	return true
}

func (o oracle) around(v int) []int {
	start := o.corners[v][0]
	if !o.inner(v) {
		start = -1
		for _, c := range o.corners[v] {
			if _, next, _ := o.three(c); o.across(c, v, next) < 0 {
				start = c
			}
		}
	}
	l := []int{start}
	for {
		last := l[len(l)-1]
		_, _, prev := o.three(last)
		c := o.across(last, v, prev)
		if c < 0 || c == start {
			return l
		}
		l = append(l, c)
	}
}

func (o oracle) link(v int) []int {
	var l []int
	last := -1
	for _, c := range o.around(v) {
		_, next, prev := o.three(c)
		l, last = append(l, next), prev
	}
	if !o.inner(v) {
		l = append(l, last)
	}
	return l
}

// none returns numbers about those from 0 to n-1, none of which is one of them.
func none(n int) []int {
	return []int{-1, -2, -3, -n - 1, n, n + 1, n + 2, 2*n + 1, 3*n + 3, n + 1<<16, n + 1<<31, n + 1<<32, n - 1<<32, 1 << 32, -1 << 32,
		1<<40 + 1, math.MaxInt, math.MaxInt - 1, math.MinInt, math.MinInt + 1}
}

func told(s api.Soup) any {
	if len(s.T) > 30 {
		return api.Soup{N: s.N, T: s.T[:30]}
	}
	return s
}

// table returns the table of the surface s.
func table(t *testing.T, s api.Soup) *corner.Table {
	t.Helper()
	x, w := corner.New(s)
	if x == nil {
		t.Fatalf("%v is no surface: %v", told(s), w)
	}
	return x
}

// spoil overwrites the list and what lies behind it.
func spoil(l []int) {
	l = l[:cap(l)]
	for i := range l {
		l[i] = -7
	}
}

// checkVertex holds what is told of the vertex v of x.
func checkVertex(t *testing.T, x *corner.Table, o oracle, v int) {
	t.Helper()
	around, link := o.around(v), o.link(v)
	seq := ring.Around(x, v)
	for range 2 { // R6
		if got := slices.Collect(seq); !slices.Equal(got, around) {
			t.Fatalf("%v: around %d are %v; want %v", told(o.s), v, got, around)
		}
	}
	first, second := ring.Link(x, v), ring.Link(x, v)
	if !slices.Equal(first, link) {
		t.Fatalf("%v: link of %d is %v; want %v", told(o.s), v, first, link)
	}
	spoil(first) // R3
	if !slices.Equal(second, link) {
		t.Fatalf("%v: two links of %d share memory", told(o.s), v)
	}
	spoil(second)
	if got := ring.Link(x, v); !slices.Equal(got, link) {
		t.Fatalf("%v: link of %d is %v once it was overwritten", told(o.s), v, got)
	}
	if got := ring.Inner(x, v); got != o.inner(v) {
		t.Fatalf("%v: Inner of %d is %t", told(o.s), v, got)
	}
	if got := ring.Degree(x, v); got != len(o.corners[v]) {
		t.Fatalf("%v: Degree of %d is %d", told(o.s), v, got)
	}
}

// checkNone holds that the vertex v doesn't exist.
func checkNone(t *testing.T, x *corner.Table, v int) {
	t.Helper()
	seq := ring.Around(x, v)
	if seq == nil {
		t.Fatalf("Around of %d is nil", v)
	}
	for c := range seq {
		t.Fatalf("%d is around %d", c, v)
	}
	if link := ring.Link(x, v); len(link) != 0 || ring.Inner(x, v) || ring.Degree(x, v) != 0 {
		t.Fatalf("%d has %v, %t, %d", v, link, ring.Inner(x, v), ring.Degree(x, v))
	}
	for _, w := range append(none(x.Vertices()), 0, 1, 2, x.Vertices()-1, v) {
		if ring.Near(x, v, w) || ring.Near(x, w, v) {
			t.Fatalf("%d and %d are near", v, w)
		}
	}
}

// checkNear holds Near of all pairs of vertices, or of those with a few of them.
func checkNear(t *testing.T, x *corner.Table, o oracle) {
	t.Helper()
	few := []int{0, 1, 2, o.s.N / 2, o.s.N - 2, o.s.N - 1}
	for a := range o.s.N {
		if o.s.N > 100 && !slices.Contains(few, a) {
			continue
		}
		for b := range o.s.N {
			want := len(o.at[edge(a, b)]) > 0
			if ring.Near(x, a, b) != want || ring.Near(x, b, a) != want {
				t.Fatalf("%v: Near of %d and %d is not %t", told(o.s), a, b, want)
			}
		}
	}
}

// check holds all that is told of the surface s.
func check(t *testing.T, s api.Soup) *corner.Table {
	t.Helper()
	x, o := table(t, s), tell(s)
	for v := range s.N {
		checkVertex(t, x, o, v)
	}
	for _, v := range none(s.N) {
		checkNone(t, x, v)
	}
	checkNear(t, x, o)
	checkWhole(t, x)
	if got := x.Soup(); got.N != s.N || !slices.Equal(got.T, s.T) {
		t.Fatalf("%v: the table has become that of %v", told(s), told(got))
	}
	return x
}

// checkWhole holds what follows for the table as a whole.
func checkWhole(t *testing.T, x *corner.Table) {
	t.Helper()
	sum, met := 0, make([]int, 3*x.Triangles())
	for v := range x.Vertices() {
		sum += ring.Degree(x, v)
		for c := range ring.Around(x, v) {
			met[c]++
			if x.Vertex(c) != v {
				t.Fatalf("%v: %d is around %d", told(x.Soup()), c, v)
			}
		}
		checkLink(t, x, v)
	}
	if sum != 3*x.Triangles() {
		t.Fatalf("%v: the sum of degrees is %d", told(x.Soup()), sum)
	}
	for c, n := range met {
		if n != 1 {
			t.Fatalf("%v: %d is around %d vertices", told(x.Soup()), c, n)
		}
	}
}

// checkLink holds what follows for the link of the vertex v.
func checkLink(t *testing.T, x *corner.Table, v int) {
	t.Helper()
	link, want := ring.Link(x, v), ring.Degree(x, v)
	if !ring.Inner(x, v) {
		want++
	}
	seen := map[int]bool{v: true}
	for i, w := range link {
		if seen[w] || !ring.Near(x, v, w) || !ring.Near(x, w, v) {
			t.Fatalf("%v: the link of %d is %v", told(x.Soup()), v, link)
		}
		seen[w] = true
		next := link[(i+1)%len(link)]
		if i+1 == len(link) && !ring.Inner(x, v) {
			break
		}
		// They are joined by an edge; and that is one of a triangle with v.
		if !ring.Near(x, w, next) || x.Vertex(x.Facing(api.Edge{w, next})) != v {
			t.Fatalf("%v: the link of %d is %v, but %d and %d have no triangle with it", told(x.Soup()), v, link, w, next)
		}
	}
	if len(link) != want {
		t.Fatalf("%v: the link of %d is %v; want %d vertices", told(x.Soup()), v, link, want)
	}
}

func TestExample(t *testing.T) { // the chapter's example
	x := check(t, solid())
	if got := slices.Collect(ring.Around(x, 0)); !slices.Equal(got, []int{0, 3, 10}) {
		t.Error(got)
	}
	if got := ring.Link(x, 0); !slices.Equal(got, []int{2, 1, 3}) {
		t.Error(got)
	}
	if !ring.Inner(x, 0) || ring.Degree(x, 0) != 3 {
		t.Error(ring.Inner(x, 0), ring.Degree(x, 0))
	}
}

// byHand is what is known of one vertex.
type byHand struct {
	around, link []int
	inner        bool
}

func checkByHand(t *testing.T, s api.Soup, want []byHand) {
	t.Helper()
	x := check(t, s)
	for v, w := range want {
		around, link := slices.Collect(ring.Around(x, v)), ring.Link(x, v)
		if !slices.Equal(around, w.around) || !slices.Equal(link, w.link) || ring.Inner(x, v) != w.inner || ring.Degree(x, v) != len(w.around) {
			t.Errorf("%v: %d has %v, %v, %t, %d; want %v", s, v, around, link, ring.Inner(x, v), ring.Degree(x, v), w)
		}
	}
}

func TestByHand(t *testing.T) { // P11.1
	checkByHand(t, solid(), []byHand{
		{[]int{0, 3, 10}, []int{2, 1, 3}, true}, {[]int{2, 6, 4}, []int{0, 2, 3}, true},
		{[]int{1, 9, 7}, []int{1, 0, 3}, true}, {[]int{5, 8, 11}, []int{0, 1, 2}, true},
	})
	checkByHand(t, of(3, api.Tri{2, 0, 1}), []byHand{ // a triangle alone
		{[]int{1}, []int{1, 2}, false}, {[]int{2}, []int{2, 0}, false}, {[]int{0}, []int{0, 1}, false},
	})
	checkByHand(t, of(4, api.Tri{0, 1, 2}, api.Tri{2, 1, 3}), []byHand{ // corners 1 and 2 are least, but don't come first
		{[]int{0}, []int{1, 2}, false}, {[]int{4, 1}, []int{3, 2, 0}, false},
		{[]int{2, 3}, []int{0, 1, 3}, false}, {[]int{5}, []int{2, 1}, false},
	})
	checkByHand(t, wheel(4), []byHand{
		{[]int{0, 3, 6, 9}, []int{1, 2, 3, 4}, true}, {[]int{1, 11}, []int{2, 0, 4}, false}, {[]int{4, 2}, []int{3, 0, 1}, false},
		{[]int{7, 5}, []int{4, 0, 2}, false}, {[]int{10, 8}, []int{1, 0, 3}, false},
	})
}

func TestSurfaces(t *testing.T) { // P11.1, P11.2
	for _, s := range surfaces() {
		check(t, s)
	}
	for _, n := range []int{1, 2, 100, 1365} {
		check(t, beside(slices.Repeat([]api.Soup{strip(1)}, n)...))
	}
}

func TestGrown(t *testing.T) { // P11.1, P11.2
	rng := rand.New(rand.NewSource(111))
	inner, border := 0, 0
	for range 600 {
		s := grown(rng, 4+rng.Intn(60))
		if rng.Intn(4) == 0 {
			s = beside(s, grown(rng, 4+rng.Intn(20)))
		}
		s = anyChange(rng, s).soup(s)
		x := check(t, s)
		for v := range s.N {
			if ring.Inner(x, v) {
				inner++
			} else {
				border++
			}
		}
	}
	if inner < 2000 || border < 2000 {
		t.Errorf("%d inner vertices, %d on the boundary", inner, border)
	}
}

func TestLargest(t *testing.T) { // P11.1, P11.2: as many vertices, triangles and corners at one vertex as there may be
	rng := rand.New(rand.NewSource(112))
	for _, c := range []struct {
		s         api.Soup
		v, degree int
		inner     bool
	}{
		{torus(64, 64), 77, 6, true}, {spindle(4094), 4094, 4094, true}, {spindle(4094), 4095, 4094, true}, {spindle(4094), 0, 4, true},
		{wheel(4095), 0, 4095, true}, {wheel(4095), 4095, 2, false}, {fan(4094), 4095, 4094, false}, {fan(4094), 4094, 1, false},
		{strip(4094), 2000, 3, false}, {without(torus(64, 64), 8191), 0, 5, false}, {beside(wheel(2047), spindle(2046)), 0, 2047, true},
	} {
		if c.s.N != 4096 {
			t.Fatal(c.s.N)
		}
		x := check(t, c.s)
		if ring.Degree(x, c.v) != c.degree || ring.Inner(x, c.v) != c.inner {
			t.Error(c.v, ring.Degree(x, c.v), ring.Inner(x, c.v))
		}
		check(t, anyChange(rng, c.s).soup(c.s))
	}
}

func TestNothing(t *testing.T) { // P11.1: no triangles, no table
	x := table(t, api.Soup{})
	refused, _ := corner.New(of(3, api.Tri{0, 1, 1}))
	for range 2 {
		for _, empty := range []*corner.Table{x, nil, refused, {}} {
			for _, v := range append(none(0), 0, 1, 2, 3) {
				checkNone(t, empty, v)
			}
		}
	}
}

// eachOrder calls f with all orders of the numbers below n.
func eachOrder(n int, f func([]int)) {
	var add func(l []int)
	add = func(l []int) {
		if len(l) == n {
			f(l)
		}
		for i := range n {
			if !slices.Contains(l, i) {
				add(append(slices.Clone(l), i))
			}
		}
	}
	add(nil)
}

// eachTurn calls f with all lists of n numbers from 0 to 2.
func eachTurn(n int, f func([]int)) {
	number := 1
	for range n {
		number *= 3
	}
	for k := range number {
		l := make([]int, n)
		for i := range l {
			l[i] = k % 3
			k /= 3
		}
		f(l)
	}
}

func TestWhereTheListBegins(t *testing.T) { // P11.1: all orders of triangles, all of their turns
	for _, s := range []api.Soup{wheel(3), wheel(4), fan(3), fan(4), solid(), without(solid(), 1)} {
		name := make([]int, s.N)
		for v := range name {
			name[v] = v
		}
		began, least := map[int]bool{}, 0
		eachOrder(len(s.T), func(place []int) {
			eachTurn(len(s.T), func(by []int) {
				x := changed{name, place, by}.soup(s)
				y, o := table(t, x), tell(x)
				for v := range s.N {
					checkVertex(t, y, o, v)
					for c := range ring.Around(y, v) {
						began[c] = true
						if c == y.Corner(v) {
							least++
						}
						if ring.Inner(y, v) && c != y.Corner(v) || !ring.Inner(y, v) && y.Opp(y.Prev(c)) >= 0 {
							t.Fatalf("%v: around %d it begins with %d", x, v, c)
						}
						break
					}
				}
			})
		})
		if len(began) < 3 || least == 0 {
			t.Errorf("%v: lists begin with %v", s, began)
		}
	}
}

func TestLeastCornerAnywhere(t *testing.T) { // P11.1: the least corner of an inner vertex is the k-th of the i-th triangle round it
	for n := 3; n <= 7; n++ {
		for i := range n {
			for k := range 3 {
				s := beside(wheel(n), strip(2))
				s.T[0], s.T[i] = s.T[i], s.T[0]
				s.T[0] = turned(s.T[0], 3-k)
				x := check(t, s)
				got := slices.Collect(ring.Around(x, 0))
				if got[0] != k || len(got) != n || ring.Link(x, 0)[0] != i+1 {
					t.Errorf("%v: %v", s, got)
				}
			}
		}
	}
}

func TestFirstIsNotLeast(t *testing.T) { // P11.1: on the boundary the list begins at the boundary
	for n := 2; n <= 7; n++ {
		for i := range n { // the triangle of the fan that comes first is put behind i others
			s := fan(n)
			s.T = append(slices.Concat(s.T[1:i+1], s.T[:1]), s.T[i+1:]...)
			x := check(t, s)
			got := slices.Collect(ring.Around(x, n+1))
			if got[0] != 3*i+2 || i > 0 && x.Corner(n+1) != 2 {
				t.Errorf("%v: %v", s, got)
			}
			if link := ring.Link(x, n+1); link[0] != 0 || link[n] != n {
				t.Errorf("%v: %v", s, link)
			}
		}
	}
}

func TestNear(t *testing.T) { // P11.1
	x := check(t, of(6, api.Tri{4, 0, 1}, api.Tri{2, 4, 1}, api.Tri{4, 2, 3}, api.Tri{3, 0, 4}, api.Tri{1, 0, 5}))
	for _, c := range []struct {
		a, b int
		want bool
	}{
		{0, 4, true}, {1, 4, true}, {0, 1, true}, // inner edges
		{0, 5, true}, {1, 5, true}, {1, 2, true}, {0, 3, true}, {2, 3, true}, // boundary edges
		{0, 2, false}, {1, 3, false}, {5, 4, false}, // a neighbour in common
		{5, 2, false}, {5, 3, false}, // nor that
		{0, 0, false}, {4, 4, false}, {5, 5, false},
		{-1, -1, false}, {-1, 0, false}, {6, 0, false}, {6, 6, false}, {0, -1, false}, {0, 1 << 32, false}, {0, 1<<32 + 1, false}, {1 << 32, 1<<32 + 1, false},
	} {
		if ring.Near(x, c.a, c.b) != c.want || ring.Near(x, c.b, c.a) != c.want {
			t.Error(c, ring.Near(x, c.a, c.b), ring.Near(x, c.b, c.a))
		}
	}
	all, two := check(t, seven()), check(t, beside(solid(), solid()))
	for a := range 8 {
		for b := range 8 {
			if ring.Near(all, a, b) != (a != b && a < 7 && b < 7) || ring.Near(two, a, b) != (a != b && a/4 == b/4) {
				t.Error(a, b)
			}
		}
	}
}

func TestLeft(t *testing.T) { // R6: a loop that is left, after any number of corners
	for _, s := range surfaces() {
		x, o := table(t, s), tell(s)
		for v := range s.N {
			want := o.around(v)
			seq := ring.Around(x, v)
			for n := 1; n <= len(want); n++ {
				var got []int
				seq(func(c int) bool {
					if len(got) == n {
						t.Fatalf("%v: goes on after %d of those around %d", told(s), n, v)
					}
					got = append(got, c)
					return len(got) < n
				})
				if !slices.Equal(got, want[:n]) {
					t.Fatalf("%v: around %d are %v; want %v", told(s), v, got, want[:n])
				}
				if got = slices.Collect(seq); !slices.Equal(got, want) {
					t.Fatalf("%v: around %d are %v once it was left; want %v", told(s), v, got, want)
				}
			}
		}
	}
}

func TestInsideEachOther(t *testing.T) { // R6
	for _, s := range []api.Soup{solid(), fan(5), wheel(6), seven(), beside(strip(4), band(3))} {
		x, o := table(t, s), tell(s)
		for v := range s.N {
			for w := range s.N {
				outer, inner := ring.Around(x, v), ring.Around(x, w)
				if v == w {
					inner = outer // one inside itself
				}
				var got []int
				for c := range outer {
					got = append(got, c)
					if l := slices.Collect(inner); !slices.Equal(l, o.around(w)) {
						t.Fatalf("%v: around %d are %v inside", s, w, l)
					}
				}
				if !slices.Equal(got, o.around(v)) {
					t.Fatalf("%v: around %d are %v outside", s, v, got)
				}
			}
		}
	}
}

func TestInTurns(t *testing.T) { // R6: two that go on by turns
	x := table(t, wheel(6))
	seq := ring.Around(x, 0)
	one, stop := iter.Pull(seq)
	defer stop()
	other, stopped := iter.Pull(seq)
	defer stopped()
	for i := range 6 {
		a, _ := one()
		b, _ := other()
		if a != 3*i || b != a {
			t.Error(i, a, b)
		}
	}
	if _, ok := one(); ok {
		t.Error("goes on")
	}
}

func TestWrittenOtherwise(t *testing.T) { // P11.2: the surface is the same, whatever its numbers
	rng := rand.New(rand.NewSource(113))
	for _, s := range surfaces() {
		x := table(t, s)
		for range 10 {
			c := anyChange(rng, s)
			y := check(t, c.soup(s))
			for v := range s.N {
				was, now := slices.Collect(ring.Around(x, v)), slices.Collect(ring.Around(y, c.name[v]))
				for i := range was {
					was[i] = c.corner(was[i])
				}
				link, moved := ring.Link(x, v), ring.Link(y, c.name[v])
				for i := range link {
					link[i] = c.name[link[i]]
				}
				if ring.Inner(x, v) { // these may begin elsewhere
					k := slices.Index(was, now[0])
					if k < 0 || now[0] != slices.Min(now) {
						t.Fatalf("%v: around %d are %v, and then %v", told(s), v, was, now)
					}
					was, link = slices.Concat(was[k:], was[:k]), slices.Concat(link[k:], link[:k])
				}
				if !slices.Equal(was, now) || !slices.Equal(link, moved) || ring.Inner(x, v) != ring.Inner(y, c.name[v]) {
					t.Fatalf("%v: around %d are %v, and then %v; link %v, and then %v", told(s), v, was, now, link, moved)
				}
			}
			for range 50 {
				if s.N == 0 {
					break
				}
				a, b := rng.Intn(s.N), rng.Intn(s.N)
				if ring.Near(x, a, b) != ring.Near(y, c.name[a], c.name[b]) {
					t.Fatalf("%v: %d and %d", told(s), a, b)
				}
			}
		}
	}
}

func TestMirrored(t *testing.T) { // P11.2: the other way round
	for _, s := range surfaces() {
		x, y := table(t, s), check(t, mirrored(s))
		for v := range s.N {
			was, now := slices.Collect(ring.Around(x, v)), slices.Collect(ring.Around(y, v))
			link, moved := ring.Link(x, v), ring.Link(y, v)
			slices.Reverse(was)
			slices.Reverse(link)
			for i, c := range was {
				was[i] = c - c%3 + []int{0, 2, 1}[c%3]
			}
			if ring.Inner(x, v) {
				k, i := slices.Index(was, now[0]), slices.Index(link, moved[0])
				was, link = slices.Concat(was[k:], was[:k]), slices.Concat(link[i:], link[:i])
			}
			if !slices.Equal(was, now) || !slices.Equal(link, moved) {
				t.Fatalf("%v: around %d are %v; want %v; link %v; want %v", told(s), v, now, was, moved, link)
			}
		}
	}
}

func TestAllSmallSurfaces(t *testing.T) { // P11.1, P11.2: all surfaces of up to three triangles over up to five vertices, and of four over four
	surfaces := 0
	var add func(s api.Soup, most int)
	add = func(s api.Soup, most int) {
		if certify.Is(s) {
			surfaces++
			check(t, s)
		}
		if len(s.T) == most {
			return
		}
		for i := range s.N * s.N * s.N {
			tri := api.Tri{i % s.N, i / s.N % s.N, i / s.N / s.N}
			if x := of(s.N, append(slices.Clone(s.T), tri)...); divided(x) {
				add(x, most)
			}
		}
	}
	for n := range 5 {
		add(api.Soup{N: n}, 3)
	}
	add(of(5, api.Tri{4, 0, 3}), 3)
	add(of(4, api.Tri{1, 0, 2}), 4)
	if surfaces < 1000 {
		t.Errorf("%d surfaces", surfaces)
	}
}

// divided tells whether s has no directed edge twice, and three vertices in each
// triangle: without that, more triangles don't help.
func divided(s api.Soup) bool {
	seen := map[api.Edge]bool{}
	for _, t := range s.T {
		for k := range 3 {
			e := api.Edge{t[k], t[(k+1)%3]}
			if e[0] == e[1] || seen[e] {
				return false
			}
			seen[e] = true
		}
	}
	return true
}

func TestTablesBesideEachOther(t *testing.T) { // R4: each is on its own
	var seqs []iter.Seq[int]
	var want [][]int
	for _, s := range surfaces() {
		x, o := table(t, s), tell(s)
		for v := range s.N {
			seqs, want = append(seqs, ring.Around(x, v)), append(want, o.around(v))
		}
	}
	for range 2 {
		for i, seq := range seqs {
			if got := slices.Collect(seq); !slices.Equal(got, want[i]) {
				t.Fatalf("%v; want %v", got, want[i])
			}
		}
	}
}
