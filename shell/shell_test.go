package shell_test

import (
	"math"
	"math/rand"
	"slices"
	"testing"

	"gypsum/api"
	"gypsum/certify"
	"gypsum/corner"
	"gypsum/shell"
)

// of returns the soup of n vertices with these triangles.
func of(n int, tris ...api.Tri) api.Soup { return api.Soup{N: n, T: tris} }

// solid returns a tetrahedron.
func solid() api.Soup {
	return of(4, api.Tri{0, 2, 1}, api.Tri{0, 1, 3}, api.Tri{1, 2, 3}, api.Tri{2, 0, 3})
}

// torus returns a closed surface of a b vertices and 2 a b triangles; a and b
// are at least 3.
func torus(a, b int) api.Soup {
	s := api.Soup{N: a * b}
	at := func(i, j int) int { return i%a*b + j%b }
	for i := range a {
		for j := range b {
			s.T = append(s.T, api.Tri{at(i, j), at(i+1, j), at(i, j+1)}, api.Tri{at(i+1, j), at(i+1, j+1), at(i, j+1)})
		}
	}
	return s
}

// strip returns a surface of that many triangles in a row.
func strip(tris int) api.Soup {
	s := api.Soup{N: tris + 2}
	for i := range tris {
		s.T = append(s.T, api.Tri{i, i + 1 + i%2, i + 2 - i%2})
	}
	return s
}

// band returns a strip of 2 n triangles, n at least 3, that has two borders.
func band(n int) api.Soup {
	s := api.Soup{N: 2 * n}
	for i := range n {
		k := (i + 1) % n
		s.T = append(s.T, api.Tri{i, k, n + i}, api.Tri{n + k, n + i, k})
	}
	return s
}

// wheel returns that many triangles, at least 3, all round the vertex 0.
func wheel(n int) api.Soup {
	s := api.Soup{N: n + 1}
	for i := range n {
		s.T = append(s.T, api.Tri{0, i + 1, (i+1)%n + 1})
	}
	return s
}

// fan returns that many triangles in a fan around the last vertex.
func fan(n int) api.Soup {
	s := api.Soup{N: n + 2}
	for i := range n {
		s.T = append(s.T, api.Tri{i, i + 1, n + 1})
	}
	return s
}

// spindle returns a closed surface of n + 2 vertices and 2 n triangles, n at
// least 3.
func spindle(n int) api.Soup {
	s := api.Soup{N: n + 2}
	for i := range n {
		k := (i + 1) % n
		s.T = append(s.T, api.Tri{i, k, n}, api.Tri{k, i, n + 1})
	}
	return s
}

// seven returns a torus any two of whose vertices are joined by an edge.
func seven() api.Soup {
	s := api.Soup{N: 7}
	for i := range 7 {
		s.T = append(s.T, api.Tri{i, (i + 1) % 7, (i + 3) % 7}, api.Tri{i, (i + 3) % 7, (i + 2) % 7})
	}
	return s
}

// without returns s without the triangles with these numbers.
func without(s api.Soup, tris ...int) api.Soup {
	x := api.Soup{N: s.N}
	for i, t := range s.T {
		if !slices.Contains(tris, i) {
			x.T = append(x.T, t)
		}
	}
	return x
}

// beside returns all of these soups side by side.
func beside(l ...api.Soup) api.Soup {
	var all api.Soup
	for _, s := range l {
		for _, t := range s.T {
			all.T = append(all.T, api.Tri{all.N + t[0], all.N + t[1], all.N + t[2]})
		}
		all.N += s.N
	}
	return all
}

// turned returns the triangle from its corner k on.
func turned(t api.Tri, k int) api.Tri { return api.Tri{t[k%3], t[(k+1)%3], t[(k+2)%3]} }

func mirrored(s api.Soup) api.Soup {
	x := api.Soup{N: s.N}
	for _, t := range s.T {
		x.T = append(x.T, api.Tri{t[0], t[2], t[1]})
	}
	return x
}

// changed is a surface as it may be written otherwise: which number each vertex
// gets, at which place each triangle stands, and with which of its corners it
// begins.
type changed struct{ name, place, by []int }

func (c changed) soup(s api.Soup) api.Soup {
	x := api.Soup{N: s.N, T: make([]api.Tri, len(s.T))}
	for i, t := range s.T {
		x.T[c.place[i]] = turned(api.Tri{c.name[t[0]], c.name[t[1]], c.name[t[2]]}, c.by[i])
	}
	return x
}

// corner returns what becomes of the corner c.
func (c changed) corner(from int) int {
	i := from / 3
	return 3*c.place[i] + (from%3-c.by[i]+3)%3
}

func anyChange(rng *rand.Rand, s api.Soup) changed {
	c := changed{rng.Perm(s.N), rng.Perm(len(s.T)), make([]int, len(s.T))}
	for i := range c.by {
		c.by[i] = rng.Intn(3)
	}
	return c
}

// kept is a surface with the numbers of triangles of its shells, in order.
type kept struct {
	s     api.Soup
	sizes []int
}

// surfaces returns surfaces of many sorts.
func surfaces() []kept {
	triangle := of(3, api.Tri{0, 1, 2})
	rows := func(a, b int) []int { // the triangles of these rows of torus(6, 6)
		var l []int
		for i := range 12 {
			l = append(l, 12*a+i, 12*b+i)
		}
		return l
	}
	return []kept{
		{api.Soup{}, nil}, {api.Soup{T: []api.Tri{}}, nil},
		{solid(), []int{4}}, {mirrored(solid()), []int{4}}, {spindle(3), []int{6}}, {spindle(25), []int{50}},
		{seven(), []int{14}}, {torus(3, 3), []int{18}}, {mirrored(torus(5, 5)), []int{50}},
		{triangle, []int{1}}, {mirrored(triangle), []int{1}}, {of(3, api.Tri{1, 2, 0}), []int{1}},
		{strip(2), []int{2}}, {strip(7), []int{7}}, {strip(40), []int{40}}, {fan(2), []int{2}}, {fan(20), []int{20}},
		{wheel(3), []int{3}}, {wheel(20), []int{20}}, {without(solid(), 0), []int{3}}, {without(seven(), 13), []int{13}},
		{band(3), []int{6}}, {band(10), []int{20}}, {without(torus(6, 6), 0, 14, 15, 34, 50), []int{67}},
		{without(strip(7), 1, 2), []int{1, 4}}, {without(strip(7), 2, 3), []int{2, 3}}, {without(torus(6, 6), rows(2, 5)...), []int{24, 24}},
		{without(torus(6, 6), rows(1, 5)...), []int{12, 36}}, {without(torus(6, 6), rows(0, 3)...), []int{24, 24}}, // the rows 1 and 2, 4 and 5
		{beside(triangle, triangle), []int{1, 1}}, {beside(solid(), solid()), []int{4, 4}}, {beside(solid(), mirrored(solid())), []int{4, 4}},
		{beside(spindle(5), torus(3, 4)), []int{10, 24}}, {beside(strip(5), seven()), []int{5, 14}}, {beside(band(4), wheel(5)), []int{8, 5}},
		{beside(triangle, solid(), triangle), []int{1, 4, 1}}, {without(beside(band(3), solid()), 9), []int{6, 3}},
		{beside(solid(), strip(1), band(3), torus(3, 3), fan(6)), []int{4, 1, 6, 18, 6}},
		{among(triangle, triangle, triangle, triangle), []int{1, 1, 1, 1}}, {among(solid(), solid()), []int{4, 4}},
		{among(strip(3), triangle, wheel(5), solid()), []int{3, 1, 5, 4}}, {among(torus(3, 4), strip(9), band(3), mirrored(spindle(3))), []int{24, 9, 6, 6}},
	}
}

// among returns these soups with their vertices and their triangles among each
// other: one of each, and again.
func among(l ...api.Soup) api.Soup {
	var vertices, tris [][]int // the ones side by side: which one in its soup, and which soup
	for i, s := range l {
		for v := range s.N {
			vertices = append(vertices, []int{v, i})
		}
		for k := range s.T {
			tris = append(tris, []int{k, i})
		}
	}
	return changed{ranks(vertices), ranks(tris), make([]int, len(tris))}.soup(beside(l...))
}

// ranks returns at which place each of these stands in the sorted list.
func ranks(l [][]int) []int {
	sorted := slices.SortedFunc(slices.Values(l), slices.Compare)
	at := make([]int, len(l))
	for i := range l {
		at[i], _ = slices.BinarySearchFunc(sorted, l[i], slices.Compare)
	}
	return at
}

// grown returns a surface of about that many triangles: a closed one grown at
// chance from s, and some triangles taken away.
func grown(rng *rand.Rand, s api.Soup, tris int) api.Soup {
	s.T = slices.Clone(s.T)
	for len(s.T) < tris { // a vertex more in one triangle
		i, v := rng.Intn(len(s.T)), s.N
		t := s.T[i]
		s.T[i] = api.Tri{t[0], t[1], v}
		s.T = append(s.T, api.Tri{t[1], t[2], v}, api.Tri{t[2], t[0], v})
		s.N++
	}
	for range rng.Intn(tris) {
		if x := without(s, rng.Intn(len(s.T))); certify.Is(x) {
			s = x
		}
	}
	return s
}

// scattered returns some surfaces among each other, written in any way.
func scattered(rng *rand.Rand) api.Soup {
	var l []api.Soup
	for range 1 + rng.Intn(5) {
		from := []api.Soup{solid(), seven(), torus(3, 5), band(4), strip(1 + rng.Intn(4)), wheel(3)}[rng.Intn(6)]
		l = append(l, grown(rng, from, 1+rng.Intn(30)))
	}
	s := beside(l...)
	return anyChange(rng, s).soup(s)
}

// tell returns the number of the shell of each triangle of a surface, by its
// triangles alone: two with an edge get the lesser one's number till none
// changes any more.
func tell(s api.Soup) []int {
	at := map[api.Edge][]int{} // the triangles at each edge, whichever way it goes
	for i, t := range s.T {
		for k := range 3 {
			a, b := t[k], t[(k+1)%3]
			e := api.Edge{min(a, b), max(a, b)}
			at[e] = append(at[e], i)
		}
	}
	least := make([]int, len(s.T)) // a triangle of the same shell
	for i := range least {
		least[i] = i
	}
	find := func(i int) int {
		for least[i] != i {
			least[i] = least[least[i]]
			i = least[i]
		}
		return i
	}
	for _, l := range at {
		a, b := find(l[0]), find(l[len(l)-1])
		least[max(a, b)] = min(a, b)
	}
	in, shells := make([]int, len(s.T)), 0
	for i := range in {
		if find(i) == i {
			in[i] = shells
			shells++
			continue
		}
		in[i] = in[find(i)]
	}
	return in
}

// parts returns the parts of the surface s, whose triangles are in these shells.
func parts(s api.Soup, in []int) []shell.Part {
	var l []shell.Part
	for i, k := range in {
		if k == len(l) {
			l = append(l, shell.Part{})
		}
		p := &l[k]
		p.T = append(p.T, i)
		p.V = append(p.V, s.T[i][:]...)
	}
	for k := range l {
		p := &l[k]
		slices.Sort(p.V)
		p.V = slices.Compact(p.V)
		p.Soup.N = len(p.V)
		for _, i := range p.T {
			var t api.Tri
			for j, v := range s.T[i] {
				t[j], _ = slices.BinarySearch(p.V, v)
			}
			p.Soup.T = append(p.Soup.T, t)
		}
	}
	return l
}

// joined tells from the chapter's words what Join returns.
func joined(l []shell.Part) (api.Soup, api.Errno) {
	var s api.Soup
	for _, p := range l {
		s.N += len(p.V)
		s.T = append(s.T, make([]api.Tri, len(p.T))...)
		if len(p.Soup.T) != len(p.T) || p.Soup.N != len(p.V) {
			return api.Soup{}, api.ErrArg
		}
		for _, t := range p.Soup.T {
			if min(t[0], t[1], t[2]) < 0 || max(t[0], t[1], t[2]) > p.Soup.N-1 {
				return api.Soup{}, api.ErrArg
			}
		}
	}
	var vertices, tris []int
	for _, p := range l {
		vertices, tris = append(vertices, p.V...), append(tris, p.T...)
		for i, t := range p.Soup.T {
			if p.T[i] >= 0 && p.T[i] < len(s.T) {
				s.T[p.T[i]] = api.Tri{p.V[t[0]], p.V[t[1]], p.V[t[2]]}
			}
		}
	}
	for _, l := range [][]int{vertices, tris} {
		if slices.Sort(l); len(l) > 0 && (l[0] < 0 || l[len(l)-1] > len(l)-1) {
			return api.Soup{}, api.ErrRange
		}
	}
	if len(slices.Compact(vertices)) < s.N || len(slices.Compact(tris)) < len(s.T) {
		return api.Soup{}, api.ErrTwice
	}
	return s, api.OK
}

// none returns numbers about those from 0 to n-1, none of which is one of them.
func none(n int) []int {
	return []int{-1, -2, -3, -n - 1, n, n + 1, n + 2, 2*n + 1, 3*n + 3, n + 1<<16, n + 1<<31, n + 1<<32, n - 1<<32, 1 << 32, -1 << 32,
		1<<40 + 1, math.MaxInt, math.MaxInt - 1, math.MinInt, math.MinInt + 1}
}

func told(s api.Soup) any {
	if len(s.T) > 30 {
		return api.Soup{N: s.N, T: s.T[:30]}
	}
	return s
}

// table returns the table of the surface s.
func table(t *testing.T, s api.Soup) *corner.Table {
	t.Helper()
	x, w := corner.New(s)
	if x == nil {
		t.Fatalf("%v is no surface: %v", told(s), w)
	}
	return x
}

// spoil overwrites the list and what lies behind it.
func spoil[T any](l []T, with T) {
	l = l[:cap(l)]
	for i := range l {
		l[i] = with
	}
}

// eachOrder calls f with all orders of the numbers below n.
func eachOrder(n int, f func([]int)) {
	var add func(l []int)
	add = func(l []int) {
		if len(l) == n {
			f(l)
		}
		for i := range n {
			if !slices.Contains(l, i) {
				add(append(slices.Clone(l), i))
			}
		}
	}
	add(nil)
}

// eachTurn calls f with all lists of n numbers from 0 to 2.
func eachTurn(n int, f func([]int)) {
	number := 1
	for range n {
		number *= 3
	}
	for k := range number {
		l := make([]int, n)
		for i := range l {
			l[i] = k % 3
			k /= 3
		}
		f(l)
	}
}

// divided tells whether s has no directed edge twice, and three vertices in each
// triangle: without that, more triangles don't help.
func divided(s api.Soup) bool {
	seen := map[api.Edge]bool{}
	for _, t := range s.T {
		for k := range 3 {
			e := api.Edge{t[k], t[(k+1)%3]}
			if e[0] == e[1] || seen[e] {
				return false
			}
			seen[e] = true
		}
	}
	return true
}

// sameSoup tells whether these are the same soup.
func sameSoup(a, b api.Soup) bool { return a.N == b.N && slices.Equal(a.T, b.T) }

// samePart tells whether these are the same part.
func samePart(a, b shell.Part) bool {
	return sameSoup(a.Soup, b.Soup) && slices.Equal(a.V, b.V) && slices.Equal(a.T, b.T)
}

// same tells whether these are the same parts.
func same(a, b []shell.Part) bool { return slices.EqualFunc(a, b, samePart) }

// copied returns the parts in new memory, with something behind each list.
func copied(l []shell.Part) []shell.Part {
	x := append(slices.Clone(l), shell.Part{V: []int{-5}})[:len(l)]
	for i, p := range l {
		x[i].V = append(slices.Clone(p.V), -5)[:len(p.V)]
		x[i].T = append(slices.Clone(p.T), -5)[:len(p.T)]
		x[i].Soup.T = append(slices.Clone(p.Soup.T), api.Tri{-5})[:len(p.Soup.T)]
	}
	return x
}

// checkOf holds which shell each triangle of x is in.
func checkOf(t *testing.T, x *corner.Table, want []int) {
	t.Helper()
	first, second := shell.Of(x), shell.Of(x)
	if !slices.Equal(first, want) {
		t.Fatalf("%v: shells %v; want %v", told(x.Soup()), first, want)
	}
	spoil(first, -7) // R3
	if !slices.Equal(second, want) {
		t.Fatalf("%v: two lists of shells share memory", told(x.Soup()))
	}
	spoil(second, -7)
	if got := shell.Of(x); !slices.Equal(got, want) {
		t.Fatalf("%v: shells %v once they were overwritten", told(x.Soup()), got)
	}
}

// checkSplit holds the parts of x.
func checkSplit(t *testing.T, x *corner.Table, want []shell.Part) {
	t.Helper()
	if got := shell.Count(x); got != len(want) {
		t.Fatalf("%v: %d shells; want %d", told(x.Soup()), got, len(want))
	}
	first, second := shell.Split(x), shell.Split(x)
	if !same(first, want) || !same(second, want) {
		t.Fatalf("%v: parts %v; want %v", told(x.Soup()), first, want)
	}
	for i := range first { // R3: one list after the other, with what lies behind it
		p, w := first[i], want[i]
		spoil(p.V, -7)
		if !slices.Equal(p.T, w.T) || !slices.Equal(p.Soup.T, w.Soup.T) {
			t.Fatalf("%v: the lists of the part %d share memory", told(x.Soup()), i)
		}
		spoil(p.T, -7)
		if !slices.Equal(p.Soup.T, w.Soup.T) {
			t.Fatalf("%v: the lists of the part %d share memory", told(x.Soup()), i)
		}
		spoil(p.Soup.T, api.Tri{-7})
		if len(first) < 50 && (!same(first[i+1:], want[i+1:]) || !same(second, want)) {
			t.Fatalf("%v: the part %d shares memory", told(x.Soup()), i)
		}
	}
	spoil(first, shell.Part{})
	if !same(second, want) {
		t.Fatalf("%v: two lists of parts share memory", told(x.Soup()))
	}
	for i := range second { // those before it as well
		i = len(second) - 1 - i
		spoil(second[i].Soup.T, api.Tri{-7})
		spoil(second[i].T, -7)
		spoil(second[i].V, -7)
		if i%50 == len(second)%50 && !same(second[:i], want[:i]) {
			t.Fatalf("%v: the part %d shares memory", told(x.Soup()), i)
		}
	}
	if got := shell.Split(x); !same(got, want) {
		t.Fatalf("%v: parts %v once they were overwritten", told(x.Soup()), got)
	}
}

// checkWhole holds what follows for the table as a whole, by its answers alone.
func checkWhole(t *testing.T, x *corner.Table) {
	t.Helper()
	in, l, s := shell.Of(x), shell.Split(x), x.Soup()
	for c := range 3 * x.Triangles() {
		if o := x.Opp(c); o >= 0 && in[o/3] != in[c/3] {
			t.Fatalf("%v: neighbours in the shells %d and %d", told(s), in[c/3], in[o/3])
		}
	}
	vertex := map[int]bool{}
	last, tris := -1, 0
	for i, p := range l {
		if !slices.IsSorted(p.V) || !slices.IsSorted(p.T) || p.T[0] <= last {
			t.Fatalf("%v: part %v", told(s), p)
		}
		last, tris = p.T[0], tris+len(p.T)
		for _, v := range p.V {
			if vertex[v] {
				t.Fatalf("%v: two parts have the vertex %d", told(s), v)
			}
			vertex[v] = true
		}
		for j, k := range p.T {
			for n, v := range p.Soup.T[j] {
				if in[k] != i || p.V[v] != s.T[k][n] {
					t.Fatalf("%v: triangle %d of the part %v", told(s), j, p)
				}
			}
		}
		checkAlone(t, p.Soup)
	}
	if len(vertex) != s.N || tris != len(s.T) || len(l) != shell.Count(x) {
		t.Fatalf("%v: %d parts with %d vertices, %d triangles", told(s), len(l), len(vertex), tris)
	}
	checkJoin(t, l, s, api.OK)
	slices.Reverse(l)
	checkJoin(t, l, s, api.OK)
}

// checkAlone holds that s is a surface with one shell, which is its only part.
func checkAlone(t *testing.T, s api.Soup) {
	t.Helper()
	x := table(t, s)
	p := shell.Part{Soup: s}
	for v := range s.N {
		p.V = append(p.V, v)
	}
	for i := range s.T {
		p.T = append(p.T, i)
	}
	if got := shell.Split(x); shell.Count(x) != 1 || !same(got, []shell.Part{p}) {
		t.Fatalf("%v: %d shells, parts %v; want itself", told(s), shell.Count(x), got)
	}
	if in := shell.Of(x); len(in) != len(s.T) || slices.Max(in) != 0 || slices.Min(in) != 0 {
		t.Fatalf("%v: shells %v", told(s), in)
	}
}

// checkJoin holds what Join returns for l, and that l stays as it is.
func checkJoin(t *testing.T, l []shell.Part, want api.Soup, e api.Errno) {
	t.Helper()
	given := copied(l)
	got, err := shell.Join(given)
	again, err2 := shell.Join(given)
	if err != e || !sameSoup(got, want) {
		t.Fatalf("%v: joined %v, %d; want %v, %d", l, told(got), err, told(want), e)
	}
	if err2 != e || !sameSoup(again, want) {
		t.Fatalf("%v: joined %v, %d, the second time", l, told(again), err2)
	}
	spoil(got.T, api.Tri{-7}) // R3
	if !same(given, l) || !sameSoup(again, want) {
		t.Fatalf("%v: what is joined shares memory", l)
	}
	for i, p := range given {
		if p.V[:len(p.V)+1][len(p.V)] != -5 || p.T[:len(p.T)+1][len(p.T)] != -5 || p.Soup.T[:len(p.Soup.T)+1][len(p.Soup.T)] != (api.Tri{-5}) {
			t.Fatalf("%v: something is written behind the part %d", l, i)
		}
		spoil(p.V, -9)
		spoil(p.T, -9)
		spoil(p.Soup.T, api.Tri{-9})
	}
	if given = given[:len(l)+1]; len(given[len(l)].V) != 1 {
		t.Fatalf("%v: something is written behind the parts", l)
	}
	spoil(given, shell.Part{})
	if !sameSoup(again, want) {
		t.Fatalf("%v: what is joined shares memory with the parts", l)
	}
}

// check holds all that is told of the surface s.
func check(t *testing.T, s api.Soup) *corner.Table {
	t.Helper()
	x, in := table(t, s), tell(s)
	checkOf(t, x, in)
	checkSplit(t, x, parts(s, in))
	checkWhole(t, x)
	if got := x.Soup(); !sameSoup(got, s) {
		t.Fatalf("%v: the table has become that of %v", told(s), told(got))
	}
	return x
}

func TestExample(t *testing.T) { // the chapter's example
	one := of(4, api.Tri{0, 1, 2}, api.Tri{0, 3, 1}, api.Tri{1, 3, 2}, api.Tri{2, 3, 0})
	x := check(t, beside(one, one))
	if got := shell.Of(x); !slices.Equal(got, []int{0, 0, 0, 0, 1, 1, 1, 1}) || shell.Count(x) != 2 {
		t.Error(got, shell.Count(x))
	}
	want := []shell.Part{{one, []int{0, 1, 2, 3}, []int{0, 1, 2, 3}}, {one, []int{4, 5, 6, 7}, []int{4, 5, 6, 7}}}
	if got := shell.Split(x); !same(got, want) {
		t.Error(got)
	}
}

func TestByHand(t *testing.T) { // P13.1
	triangle := of(3, api.Tri{0, 1, 2})
	for _, h := range []struct {
		s  api.Soup
		in []int
		l  []shell.Part
	}{
		{api.Soup{}, nil, nil},
		{triangle, []int{0}, []shell.Part{{triangle, []int{0, 1, 2}, []int{0}}}}, // a triangle alone
		{of(3, api.Tri{1, 0, 2}), []int{0}, []shell.Part{{of(3, api.Tri{1, 0, 2}), []int{0, 1, 2}, []int{0}}}},
		{of(6, api.Tri{0, 2, 4}, api.Tri{5, 3, 1}), []int{0, 1}, []shell.Part{ // the vertices among each other
			{triangle, []int{0, 2, 4}, []int{0}}, {of(3, api.Tri{2, 1, 0}), []int{1, 3, 5}, []int{1}}}},
		{of(6, api.Tri{5, 3, 1}, api.Tri{0, 2, 4}), []int{0, 1}, []shell.Part{ // by their triangles, not by their vertices
			{of(3, api.Tri{2, 1, 0}), []int{1, 3, 5}, []int{0}}, {triangle, []int{0, 2, 4}, []int{1}}}},
		{of(7, api.Tri{6, 5, 3}, api.Tri{0, 4, 2}, api.Tri{1, 3, 5}), []int{0, 1, 0}, []shell.Part{ // the triangles among each other
			{of(4, api.Tri{3, 2, 1}, api.Tri{0, 1, 2}), []int{1, 3, 5, 6}, []int{0, 2}}, {of(3, api.Tri{0, 2, 1}), []int{0, 2, 4}, []int{1}}}},
		{of(7, api.Tri{0, 4, 2}, api.Tri{6, 5, 3}, api.Tri{1, 3, 5}), []int{0, 1, 1}, []shell.Part{
			{of(3, api.Tri{0, 2, 1}), []int{0, 2, 4}, []int{0}}, {of(4, api.Tri{3, 2, 1}, api.Tri{0, 1, 2}), []int{1, 3, 5, 6}, []int{1, 2}}}},
		// The first two meet in a vertex only, but another triangle lies between them.
		{of(5, api.Tri{0, 1, 2}, api.Tri{2, 3, 4}, api.Tri{2, 1, 3}), []int{0, 0, 0}, []shell.Part{
			{of(5, api.Tri{0, 1, 2}, api.Tri{2, 3, 4}, api.Tri{2, 1, 3}), []int{0, 1, 2, 3, 4}, []int{0, 1, 2}}}},
	} {
		x := check(t, h.s)
		if got := shell.Of(x); !slices.Equal(got, h.in) {
			t.Errorf("%v: shells %v; want %v", h.s, got, h.in)
		}
		if got := shell.Split(x); !same(got, h.l) {
			t.Errorf("%v: parts %v; want %v", h.s, got, h.l)
		}
	}
}

func TestSurfaces(t *testing.T) { // P13.1, P13.3
	for _, k := range surfaces() {
		x := check(t, k.s)
		var sizes []int
		for _, p := range shell.Split(x) {
			sizes = append(sizes, len(p.T))
		}
		if !slices.Equal(sizes, k.sizes) || shell.Count(x) != len(k.sizes) {
			t.Errorf("%v: shells of %v triangles; want %v", told(k.s), sizes, k.sizes)
		}
	}
	for n := range 20 { // that many shells
		l := slices.Repeat([]api.Soup{solid(), strip(1)}, n)[n:]
		if got := shell.Count(check(t, beside(l...))); got != n {
			t.Error(n, got)
		}
		if got := shell.Count(check(t, among(l...))); got != n {
			t.Error(n, got)
		}
	}
}

func TestGrown(t *testing.T) { // P13.1, P13.3
	rng := rand.New(rand.NewSource(131))
	one, many, crossed := 0, 0, 0
	for range 600 {
		x := check(t, scattered(rng))
		switch n := shell.Count(x); {
		case n == 1:
			one++
		case n > 3:
			many++
		}
		if !slices.IsSorted(shell.Of(x)) {
			crossed++
		}
	}
	if one < 50 || many < 100 || crossed < 200 {
		t.Errorf("%d of one shell, %d of many, %d of shells among each other", one, many, crossed)
	}
}

func TestLargest(t *testing.T) { // P13.1, P13.3: as many vertices, triangles and shells as there may be
	rng := rand.New(rand.NewSource(132))
	for _, c := range []struct {
		s      api.Soup
		n, top int // vertices, shells
	}{
		{torus(64, 64), 4096, 1}, {spindle(4094), 4096, 1}, {wheel(4095), 4096, 1}, {fan(4094), 4096, 1}, {strip(4094), 4096, 1}, {band(2048), 4096, 1},
		{beside(slices.Repeat([]api.Soup{strip(1)}, 1365)...), 4095, 1365}, {beside(slices.Repeat([]api.Soup{solid()}, 1024)...), 4096, 1024},
		{beside(slices.Repeat([]api.Soup{torus(32, 32)}, 4)...), 4096, 4}, {beside(strip(2046), strip(2046)), 4096, 2}, {beside(torus(63, 64), strip(62)), 4096, 2},
		{among(slices.Repeat([]api.Soup{strip(30)}, 128)...), 4096, 128},
	} {
		if c.s.N != c.n {
			t.Fatal(c.s.N)
		}
		for _, s := range []api.Soup{c.s, anyChange(rng, c.s).soup(c.s)} {
			if got := shell.Count(check(t, s)); got != c.top {
				t.Error(got, c.top)
			}
		}
	}
}

func TestNothing(t *testing.T) { // P13.1: no triangles, no table
	x := check(t, api.Soup{})
	refused, _ := corner.New(of(3, api.Tri{0, 1, 1}))
	for range 2 {
		for _, empty := range []*corner.Table{x, nil, refused, {}} {
			if in, n, l := shell.Of(empty), shell.Count(empty), shell.Split(empty); len(in) != 0 || n != 0 || len(l) != 0 {
				t.Error(in, n, l)
			}
			checkJoin(t, shell.Split(empty), api.Soup{}, api.OK)
		}
	}
}

func TestWrittenOtherwise(t *testing.T) { // P13.1: the shells are the same, whatever their numbers
	rng := rand.New(rand.NewSource(133))
	for _, k := range surfaces() {
		x := table(t, k.s)
		for range 10 {
			c := anyChange(rng, k.s)
			want := shell.Split(x)
			for _, p := range want {
				for i := range p.V {
					p.V[i] = c.name[p.V[i]]
				}
				for i := range p.T {
					p.T[i] = c.place[p.T[i]]
				}
				slices.Sort(p.V)
				slices.Sort(p.T)
			}
			slices.SortFunc(want, func(a, b shell.Part) int { return a.T[0] - b.T[0] })
			got := shell.Split(check(t, c.soup(k.s)))
			if len(got) != len(want) {
				t.Fatalf("%v: %d parts; want %d", told(k.s), len(got), len(want))
			}
			for i, p := range got {
				if !slices.Equal(p.V, want[i].V) || !slices.Equal(p.T, want[i].T) || p.Soup.N != want[i].Soup.N {
					t.Fatalf("%v: part %v; want %v", told(k.s), p, want[i])
				}
			}
		}
	}
}

func TestMirrored(t *testing.T) { // P13.1: the same shells the other way round
	rng := rand.New(rand.NewSource(134))
	for range 100 {
		s := scattered(rng)
		want := shell.Split(table(t, s))
		for i, p := range want {
			want[i].Soup = mirrored(p.Soup)
		}
		y := check(t, mirrored(s))
		if got := shell.Split(y); !same(got, want) || !slices.Equal(shell.Of(y), tell(s)) {
			t.Fatalf("%v: parts %v; want %v", told(s), got, want)
		}
	}
}

func TestEachOrder(t *testing.T) { // P13.1: all orders of triangles, all of their turns
	for _, s := range []api.Soup{strip(1), strip(3), wheel(3), beside(strip(1), strip(1)), beside(strip(1), strip(2)),
		beside(strip(1), strip(1), strip(1)), beside(strip(2), strip(2)), beside(strip(1), wheel(3)), beside(strip(1), strip(2), strip(1))} {
		name := make([]int, s.N)
		for v := range name {
			name[v] = v
		}
		eachOrder(len(s.T), func(place []int) {
			eachTurn(len(s.T), func(by []int) {
				x := changed{name, place, by}.soup(s)
				y, in := table(t, x), tell(x)
				if got := shell.Of(y); !slices.Equal(got, in) {
					t.Fatalf("%v: shells %v; want %v", x, got, in)
				}
				l := shell.Split(y)
				if want := parts(x, in); !same(l, want) {
					t.Fatalf("%v: parts %v; want %v", x, l, want)
				}
				if got, e := shell.Join(l); e != api.OK || !sameSoup(got, x) {
					t.Fatalf("%v: joined %v, %d", x, got, e)
				}
			})
		})
	}
}

func TestEachName(t *testing.T) { // P13.1, P13.3: all numbers of vertices
	for _, s := range []api.Soup{strip(1), strip(3), wheel(4), beside(strip(1), strip(1)), beside(strip(2), strip(1)), of(6, api.Tri{0, 1, 2}, api.Tri{4, 3, 5})} {
		eachOrder(s.N, func(name []int) {
			x := changed{name, []int{0, 1, 2, 3}[:len(s.T)], make([]int, len(s.T))}.soup(s)
			checkSplit(t, table(t, x), parts(x, tell(x)))
		})
	}
}

func TestAllSmallSurfaces(t *testing.T) { // P13.1, P13.3: all surfaces of few triangles
	surfaces, shells := 0, 0
	var add func(s api.Soup, most int)
	add = func(s api.Soup, most int) {
		if certify.Is(s) {
			surfaces++
			shells += shell.Count(check(t, s))
		}
		if len(s.T) == most {
			return
		}
		for i := range s.N * s.N * s.N {
			tri := api.Tri{i % s.N, i / s.N % s.N, i / s.N / s.N}
			if x := of(s.N, append(slices.Clone(s.T), tri)...); divided(x) {
				add(x, most)
			}
		}
	}
	for n := range 5 {
		add(api.Soup{N: n}, 3)
	}
	add(of(5, api.Tri{4, 0, 3}), 3)
	add(of(4, api.Tri{1, 0, 2}), 4)
	add(of(6, api.Tri{3, 0, 5}), 2)
	add(of(7, api.Tri{3, 0, 5}, api.Tri{2, 6, 1}), 3)
	if surfaces < 1000 || shells < surfaces+20 {
		t.Errorf("%d surfaces, %d shells", surfaces, shells)
	}
}

func TestTablesBesideEachOther(t *testing.T) { // R4: each is on its own
	var tables []*corner.Table
	for _, k := range surfaces() {
		tables = append(tables, table(t, k.s))
	}
	for range 2 {
		for i, k := range surfaces() {
			in := tell(k.s)
			if n := shell.Count(tables[i]); n != len(k.sizes) || !slices.Equal(shell.Of(tables[i]), in) || !same(shell.Split(tables[i]), parts(k.s, in)) {
				t.Fatalf("%v: %d shells", told(k.s), n)
			}
		}
	}
}

func TestJoinAnyOrder(t *testing.T) { // P13.2: the parts in any order
	for _, k := range surfaces() {
		l := shell.Split(table(t, k.s))
		eachOrder(len(l), func(order []int) {
			var x []shell.Part
			for _, i := range order {
				x = append(x, l[i])
			}
			checkJoin(t, x, k.s, api.OK)
		})
	}
	rng := rand.New(rand.NewSource(135))
	for range 200 {
		s := scattered(rng)
		l := shell.Split(table(t, s))
		rng.Shuffle(len(l), func(i, j int) { l[i], l[j] = l[j], l[i] })
		checkJoin(t, l, s, api.OK)
	}
}

func TestJoinByHand(t *testing.T) { // P13.2
	triangle := of(3, api.Tri{0, 1, 2})
	for _, h := range []struct {
		l []shell.Part
		s api.Soup
		e api.Errno
	}{
		{nil, api.Soup{}, api.OK}, {[]shell.Part{}, api.Soup{}, api.OK}, {[]shell.Part{{}}, api.Soup{}, api.OK}, {[]shell.Part{{}, {}, {}}, api.Soup{}, api.OK},
		{[]shell.Part{{triangle, []int{0, 1, 2}, []int{0}}}, triangle, api.OK},
		{[]shell.Part{{triangle, []int{2, 0, 1}, []int{0}}}, of(3, api.Tri{2, 0, 1}), api.OK}, // V need not ascend
		{[]shell.Part{{of(3, api.Tri{0, 1, 2}, api.Tri{0, 2, 1}), []int{0, 1, 2}, []int{1, 0}}}, of(3, api.Tri{0, 2, 1}, api.Tri{0, 1, 2}), api.OK},
		{[]shell.Part{{triangle, []int{5, 0, 1}, []int{1}}, {triangle, []int{3, 4, 2}, []int{0}}}, of(6, api.Tri{3, 4, 2}, api.Tri{5, 0, 1}), api.OK},
		// Parts without triangles, and some without vertices.
		{[]shell.Part{{of(2), []int{1, 0}, nil}}, of(2), api.OK},
		{[]shell.Part{{of(1), []int{3}, nil}, {}, {triangle, []int{0, 4, 2}, []int{0}}, {of(1), []int{1}, []int{}}, {}}, of(5, api.Tri{0, 4, 2}), api.OK},
		// Parts that are no surfaces.
		{[]shell.Part{{of(1, api.Tri{0, 0, 0}), []int{0}, []int{0}}}, of(1, api.Tri{0, 0, 0}), api.OK},
		{[]shell.Part{{of(4, api.Tri{3, 3, 1}, api.Tri{0, 1, 2}, api.Tri{0, 1, 2}), []int{4, 2, 0, 1}, []int{3, 0, 2}}, {of(1, api.Tri{}), []int{3}, []int{1}}},
			of(5, api.Tri{4, 2, 0}, api.Tri{3, 3, 3}, api.Tri{4, 2, 0}, api.Tri{1, 1, 2}), api.OK},
		// ErrArg
		{[]shell.Part{{triangle, []int{0, 1, 2}, nil}}, api.Soup{}, api.ErrArg},
		{[]shell.Part{{of(0, api.Tri{0, 0, 0}), nil, []int{0}}}, api.Soup{}, api.ErrArg},
		{[]shell.Part{{of(-1), nil, nil}}, api.Soup{}, api.ErrArg},
		{[]shell.Part{{of(1), nil, nil}}, api.Soup{}, api.ErrArg},
		{[]shell.Part{{of(0), []int{0}, nil}}, api.Soup{}, api.ErrArg},
		{[]shell.Part{{of(0), nil, []int{0}}}, api.Soup{}, api.ErrArg},
		{[]shell.Part{{of(2, api.Tri{0, 1, 2}), []int{0, 1}, []int{0}}, {of(1), []int{2}, nil}}, api.Soup{}, api.ErrArg}, // the vertex 2 of another part
		// ErrRange
		{[]shell.Part{{triangle, []int{0, 1, 3}, []int{0}}}, api.Soup{}, api.ErrRange},
		{[]shell.Part{{triangle, []int{0, -1, 1}, []int{0}}}, api.Soup{}, api.ErrRange},
		{[]shell.Part{{triangle, []int{0, 1, 2}, []int{1}}}, api.Soup{}, api.ErrRange},
		{[]shell.Part{{triangle, []int{0, 1, 2}, []int{-1}}}, api.Soup{}, api.ErrRange},
		{[]shell.Part{{of(1), []int{1}, nil}}, api.Soup{}, api.ErrRange},
		{[]shell.Part{{triangle, []int{0, 1, 2}, []int{0}}, {triangle, []int{3, 4, 6}, []int{1}}}, api.Soup{}, api.ErrRange},
		{[]shell.Part{{triangle, []int{0, 1, 2}, []int{2}}, {triangle, []int{3, 4, 5}, []int{1}}}, api.Soup{}, api.ErrRange}, // 2 vertices, no triangle
		// ErrTwice
		{[]shell.Part{{triangle, []int{0, 1, 1}, []int{0}}}, api.Soup{}, api.ErrTwice},
		{[]shell.Part{{of(2), []int{0, 0}, nil}}, api.Soup{}, api.ErrTwice},
		{[]shell.Part{{of(1), []int{0}, nil}, {of(1), []int{0}, nil}}, api.Soup{}, api.ErrTwice},
		{[]shell.Part{{triangle, []int{0, 1, 2}, []int{0}}, {triangle, []int{3, 4, 5}, []int{0}}}, api.Soup{}, api.ErrTwice},
		{[]shell.Part{{triangle, []int{0, 1, 2}, []int{0}}, {triangle, []int{3, 2, 5}, []int{1}}}, api.Soup{}, api.ErrTwice},
		{[]shell.Part{{of(3, api.Tri{0, 1, 2}, api.Tri{2, 1, 0}), []int{0, 1, 2}, []int{1, 1}}}, api.Soup{}, api.ErrTwice},
	} {
		checkJoin(t, h.l, h.s, h.e)
		if s, e := joined(h.l); e != h.e || !sameSoup(s, h.s) {
			t.Fatalf("%v: told as %v, %d", h.l, s, e)
		}
	}
}

func TestJoinBeyond(t *testing.T) { // P13.2: no error of it speaks of the limits of a surface
	var l []shell.Part
	var all []api.Soup
	for i := range 5 {
		s := torus(64, 64)
		p := shell.Part{Soup: s}
		for v := range s.N {
			p.V = append(p.V, i*s.N+v)
		}
		for k := range s.T {
			p.T = append(p.T, i*len(s.T)+k)
		}
		l, all = append(l, p), append(all, s)
	}
	checkJoin(t, l, beside(all...), api.OK)
	slices.Reverse(l)
	checkJoin(t, l, beside(all...), api.OK)
	checkJoin(t, l[1:], beside(all[1:]...), api.OK)
	checkJoin(t, l[:4], api.Soup{}, api.ErrRange) // without the least one
}

// fault is a way to spoil the part i of several, each of three triangles at
// least, that have been joined before.
type fault struct {
	name string
	e    api.Errno
	do   func(l []shell.Part, i int)
}

func faults() []fault {
	l := []fault{
		{"T longer", api.ErrArg, func(l []shell.Part, i int) { l[i].T = append(l[i].T, l[i].T[0]) }},
		{"T shorter", api.ErrArg, func(l []shell.Part, i int) { l[i].T = l[i].T[1:] }},
		{"no T", api.ErrArg, func(l []shell.Part, i int) { l[i].T = nil }},
		{"a triangle more", api.ErrArg, func(l []shell.Part, i int) { l[i].Soup.T = append(l[i].Soup.T, api.Tri{0, 1, 2}) }},
		{"a triangle less", api.ErrArg, func(l []shell.Part, i int) { l[i].Soup.T = l[i].Soup.T[1:] }},
		{"no triangles", api.ErrArg, func(l []shell.Part, i int) { l[i].Soup.T = nil }},
		{"V longer", api.ErrArg, func(l []shell.Part, i int) { l[i].V = append(l[i].V, l[i].V[0]) }},
		{"V shorter", api.ErrArg, func(l []shell.Part, i int) { l[i].V = l[i].V[1:] }},
		{"no V", api.ErrArg, func(l []shell.Part, i int) { l[i].V = nil }},
		{"N more", api.ErrArg, func(l []shell.Part, i int) { l[i].Soup.N++ }},
		{"N less", api.ErrArg, func(l []shell.Part, i int) { l[i].Soup.N-- }},
		{"no N", api.ErrArg, func(l []shell.Part, i int) { l[i].Soup.N = 0 }},
		{"N below 0", api.ErrArg, func(l []shell.Part, i int) { l[i].Soup.N = -l[i].Soup.N }},
		{"least N", api.ErrArg, func(l []shell.Part, i int) { l[i].Soup.N = math.MinInt }},
		{"greatest N", api.ErrArg, func(l []shell.Part, i int) { l[i].Soup.N = math.MaxInt }},
		{"a vertex less", api.ErrArg, func(l []shell.Part, i int) {
			l[i].Soup.N--
			l[i].V = l[i].V[:l[i].Soup.N]
		}},
		{"vertices for triangles", api.ErrArg, func(l []shell.Part, i int) { l[i].V, l[i].T = l[i].T, l[i].V }},
		{"a triangle twice in T", api.ErrTwice, func(l []shell.Part, i int) { l[i].T[1] = l[i].T[2] }},
		{"a vertex twice in V", api.ErrTwice, func(l []shell.Part, i int) { l[i].V[1] = l[i].V[2] }},
		{"another part's triangle", api.ErrTwice, func(l []shell.Part, i int) { l[i].T[1] = l[(i+1)%len(l)].T[2] }},
		{"another part's vertex", api.ErrTwice, func(l []shell.Part, i int) { l[i].V[1] = l[(i+1)%len(l)].V[2] }},
	}
	for k := range 3 {
		for _, far := range []int{-1, 0, 1, math.MaxInt, math.MinInt} {
			l = append(l, fault{"a vertex of a triangle", api.ErrArg, func(l []shell.Part, i int) {
				l[i].Soup.T[k][(k+1)%3] = past(far, l[i].Soup.N)
			}})
		}
	}
	for _, far := range none(0) {
		l = append(l, fault{"T out of range", api.ErrRange, func(l []shell.Part, i int) {
			l[i].T[0] = past(far, total(l, func(p shell.Part) int { return len(p.T) }))
		}}, fault{"V out of range", api.ErrRange, func(l []shell.Part, i int) {
			l[i].V[0] = past(far, total(l, func(p shell.Part) int { return len(p.V) }))
		}})
	}
	return l
}

// past returns the number that is that far behind the last one below n, or far
// itself if it is none such anyway.
func past(far, n int) int {
	if far < 0 || far > 1<<20 {
		return far
	}
	return n + far
}

func total(l []shell.Part, of func(shell.Part) int) int {
	n := 0
	for _, p := range l {
		n += of(p)
	}
	return n
}

func TestJoinFaults(t *testing.T) { // P13.2, R2: each error alone, and any two of them
	for _, s := range []api.Soup{strip(4), among(strip(3), wheel(3), seven(), fan(5))} {
		l := shell.Split(table(t, s))
		for i := range l {
			for _, f := range faults() {
				x := copied(l)
				f.do(x, i)
				checkJoin(t, x, api.Soup{}, f.e)
				for j := range l {
					for _, g := range faults() {
						if i == j && f.e == g.e {
							continue // one may mend the other one
						}
						x, want := copied(l), min(f.e, g.e)
						if f.e > g.e { // while the lists are as long as they were
							f.do(x, i)
							g.do(x, j)
						} else {
							g.do(x, j)
							f.do(x, i)
						}
						if got, e := shell.Join(x); e != want || got.N != 0 || len(got.T) != 0 {
							t.Fatalf("%s in the part %d, %s in %d: %v, %d; want %d", f.name, i, g.name, j, told(got), e, want)
						}
					}
				}
			}
		}
	}
}

// anyParts returns parts that can be joined: any triangles over any vertices,
// dealt out at chance.
func anyParts(rng *rand.Rand) []shell.Part {
	l := make([]shell.Part, rng.Intn(4))
	vertices, tris := 0, 0
	for i := range l {
		n, k := rng.Intn(4), rng.Intn(4)
		if n == 0 {
			k = 0
		}
		l[i].Soup.N = n
		for range k {
			l[i].Soup.T = append(l[i].Soup.T, api.Tri{rng.Intn(n), rng.Intn(n), rng.Intn(n)})
		}
		vertices, tris = vertices+n, tris+k
	}
	v, t := rng.Perm(vertices), rng.Perm(tris)
	for i, p := range l {
		l[i].V, v = slices.Clone(v[:p.Soup.N]), v[p.Soup.N:]
		l[i].T, t = slices.Clone(t[:len(p.Soup.T)]), t[len(p.Soup.T):]
	}
	return l
}

// harm changes a number of the part, or how many of them there are.
func harm(rng *rand.Rand, p *shell.Part) {
	list := &p.V
	if rng.Intn(2) == 0 {
		list = &p.T
	}
	switch k := rng.Intn(10); {
	case k < 6 && len(*list) > 0:
		(*list)[rng.Intn(len(*list))] = rng.Intn(9) - 1
	case k < 7 && len(p.Soup.T) > 0:
		p.Soup.T[rng.Intn(len(p.Soup.T))][rng.Intn(3)] = rng.Intn(6) - 1
	case k < 8:
		p.Soup.N += rng.Intn(3) - 1
	case k < 9:
		*list = append(*list, rng.Intn(8))
	case len(p.Soup.T) > 0:
		p.Soup.T = p.Soup.T[1:]
	}
}

func TestJoinAtChance(t *testing.T) { // P13.2
	rng := rand.New(rand.NewSource(136))
	count := map[api.Errno]int{}
	for range 20000 {
		l := anyParts(rng)
		if s, e := joined(l); e != api.OK {
			t.Fatal(l, s, e)
		}
		if len(l) > 0 {
			for range rng.Intn(4) {
				harm(rng, &l[rng.Intn(len(l))])
			}
		}
		want, e := joined(l)
		checkJoin(t, l, want, e)
		count[e]++
	}
	if len(count) != 4 || count[api.OK] < 2000 || count[api.ErrArg] < 2000 || count[api.ErrRange] < 1000 || count[api.ErrTwice] < 500 {
		t.Error(count)
	}
}

func TestJoinAllSmall(t *testing.T) { // P13.2: all parts of few numbers
	lists := [][]int{{}}
	for a := -1; a < 3; a++ {
		lists = append(lists, []int{a})
		for b := -1; b < 3; b++ {
			lists = append(lists, []int{a, b})
		}
	}
	soups := [][]api.Tri{nil, {{0, 0, 0}}, {{0, 1, 1}}, {{0, 0, -1}}, {{1, 2, 0}}, {{0, 0, 0}, {0, 0, 0}}, {{1, 0, 1}, {0, 0, 1}}}
	count := map[api.Errno]int{}
	var small []shell.Part
	for n := -1; n < 4; n++ {
		for _, v := range lists {
			for _, tris := range lists {
				for _, s := range soups {
					l := []shell.Part{{of(n, s...), v, tris}}
					want, e := joined(l)
					checkJoin(t, l, want, e)
					count[e]++
					if len(v) < 2 && len(tris) < 2 && len(s) < 2 && n < 2 && (e != api.ErrArg || len(v) == len(s)) {
						small = append(small, l[0])
					}
				}
			}
		}
	}
	for _, a := range small {
		for _, b := range small {
			l := []shell.Part{a, b}
			want, e := joined(l)
			if got, err := shell.Join(l); err != e || !sameSoup(got, want) {
				t.Fatalf("%v: joined %v, %d; want %v, %d", l, got, err, want, e)
			}
			count[e]++
		}
	}
	if len(count) != 4 || count[api.OK] < 20 || count[api.ErrRange] < 100 || count[api.ErrTwice] < 20 {
		t.Error(count, len(small))
	}
}

func TestSplitAndChanged(t *testing.T) { // P13.2, P13.3: what doesn't fit the surface any more
	s := among(solid(), strip(3), band(4))
	for range 2 {
		l := shell.Split(table(t, s))
		checkJoin(t, l[1:], api.Soup{}, api.ErrRange) // one is missing
		checkJoin(t, append(l, l[0]), api.Soup{}, api.ErrTwice)
		checkJoin(t, append(l, shell.Part{}), s, api.OK)
		l[1].Soup = mirrored(l[1].Soup) // a part may be another one meanwhile
		x := api.Soup{N: s.N, T: slices.Clone(s.T)}
		for _, i := range l[1].T {
			x.T[i] = mirrored(of(0, x.T[i])).T[0]
		}
		checkJoin(t, l, x, api.OK)
	}
	last := shell.Split(table(t, beside(solid(), strip(3), band(4))))
	checkJoin(t, last[:2], beside(solid(), strip(3)), api.OK) // without the last one
}
