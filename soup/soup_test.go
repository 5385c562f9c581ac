package soup_test

import (
	"fmt"
	"math"
	"math/rand"
	"slices"
	"testing"

	"gypsum/api"
	"gypsum/soup"
)

// answer is what a call returns, whichever of these it does.
type answer struct {
	ok    bool
	s     api.Soup
	old   []int
	edges []api.Edge
	e     api.Errno
}

// call is a call of one function with some soups and a list of numbers.
type call func(l []api.Soup, numbers []int) answer

func fits(l []api.Soup, _ []int) answer { return answer{ok: soup.Fits(l[0])} }
func same(l []api.Soup, _ []int) answer { return answer{ok: soup.Same(l[0], l[1])} }
func mirror(l []api.Soup, _ []int) answer {
	return answer{s: soup.Mirror(l[0])}
}
func rename(l []api.Soup, to []int) answer {
	s, e := soup.Rename(l[0], to)
	return answer{s: s, e: e}
}
func pick(l []api.Soup, corners []int) answer {
	s, e := soup.Pick(l[0], corners)
	return answer{s: s, e: e}
}
func part(l []api.Soup, tris []int) answer {
	s, old, e := soup.Part(l[0], tris)
	return answer{s: s, old: old, e: e}
}
func join(l []api.Soup, _ []int) answer {
	s, e := soup.Join(l...)
	return answer{s: s, e: e}
}
func edges(l []api.Soup, _ []int) answer { return answer{edges: soup.Edges(l[0])} }

// is tells whether two answers are the same; no elements may be nil or empty.
func (a answer) is(b answer) bool {
	return a.ok == b.ok && a.e == b.e && a.s.N == b.s.N &&
		slices.Equal(a.s.T, b.s.T) && slices.Equal(a.old, b.old) && slices.Equal(a.edges, b.edges)
}

// String tells an answer, if it is short.
func (a answer) String() string {
	if len(a.s.T)+len(a.old)+len(a.edges) > 60 {
		return fmt.Sprintf("%v, N %d, %d triangles, %d old, %d edges, error %d", a.ok, a.s.N, len(a.s.T), len(a.old), len(a.edges), a.e)
	}
	return fmt.Sprintf("%v, %v, old %v, edges %v, error %d", a.ok, a.s, a.old, a.edges, a.e)
}

// wipe overwrites all memory that the answer reaches.
func (a answer) wipe() {
	spoil(a.s.T, api.Tri{-7, -7, -7})
	spoil(a.old, -7)
	spoil(a.edges, api.Edge{-7, -7})
}

// spoil overwrites the list and what lies behind it.
func spoil[E any](l []E, with E) {
	l = l[:cap(l)]
	for i := range l {
		l[i] = with
	}
}

// within returns a copy of the list that lies within a greater one, and a
// function that tells whether all of that is as it was.
func within[E comparable](l []E, around E) ([]E, func() bool) {
	memory := slices.Concat([]E{around, around}, l, []E{around, around, around})
	before := slices.Clone(memory)
	return memory[2 : 2+len(l)], func() bool { return slices.Equal(memory, before) }
}

// check makes the call, whose answer has to be want: a second time too, with
// what is handed in left as it is, and in memory that is shared with nothing.
func check(t *testing.T, f call, l []api.Soup, numbers []int, want answer) {
	t.Helper()
	handed := make([]api.Soup, len(l))
	numbers, kept := within(numbers, -5)
	keeps := []func() bool{kept}
	for i, s := range l {
		tris, kept := within(s.T, api.Tri{-5, -5, -5})
		handed[i] = api.Soup{N: s.N, T: tris}
		keeps = append(keeps, kept)
	}
	sizes := slices.Clone(handed)
	checkKept := func(when string) {
		t.Helper()
		for i, s := range handed {
			if s.N != sizes[i].N || len(s.T) != len(sizes[i].T) {
				t.Fatalf("soup %d is another one %s", i, when)
			}
		}
		for i, kept := range keeps {
			if !kept() {
				t.Fatalf("argument %d is changed %s", i, when)
			}
		}
	}
	first := f(handed, numbers)
	if !first.is(want) {
		t.Fatalf("%v; want %v", first, want)
	}
	checkKept("by the call")
	second := f(handed, numbers)
	first.wipe()
	checkKept("with the answer")
	if !second.is(want) {
		t.Fatalf("%v the second time, or it shares memory with the first answer; want %v", second, want)
	}
	spoil(numbers, -9)
	for _, s := range handed {
		spoil(s.T, api.Tri{-9, -9, -9})
	}
	if !second.is(want) {
		t.Fatal("the answer changes with what was handed in")
	}
}

// one returns the list of one soup.
func one(s api.Soup) []api.Soup { return []api.Soup{s} }

// of returns the soup of n vertices with these triangles.
func of(n int, tris ...api.Tri) api.Soup { return api.Soup{N: n, T: tris} }

// tetra is the tetrahedron of the chapter's examples.
func tetra() api.Soup {
	return of(4, api.Tri{0, 1, 2}, api.Tri{0, 3, 1}, api.Tri{1, 3, 2}, api.Tri{0, 2, 3})
}

// upTo returns the numbers from 0 to n-1.
func upTo(n int) []int {
	l := make([]int, n)
	for i := range l {
		l[i] = i
	}
	return l
}

// long returns a soup of n vertices, at least 3, with that many triangles.
func long(n, tris int) api.Soup {
	s := api.Soup{N: n}
	for i := range tris {
		v := i % (n - 2)
		s.T = append(s.T, api.Tri{v, v + 1, n - 1})
		if i%2 == 1 {
			s.T[i] = api.Tri{v + 1, n - 1, v}
		}
	}
	return s
}

// misfits returns soups that do not fit, each for one reason.
func misfits() []api.Soup {
	most := long(api.MaxV, api.MaxT)
	last := long(10, 30)
	last.T[29] = api.Tri{0, 1, 10}
	list := []api.Soup{
		{N: -1}, {N: api.MaxV + 1}, {N: math.MinInt}, {N: math.MaxInt},
		{N: api.MaxV + 1, T: most.T}, of(-1, api.Tri{0, 1, 2}),
		long(api.MaxV, api.MaxT+1), long(3, api.MaxT+1), long(3, 3*api.MaxT), {T: make([]api.Tri, api.MaxT+1)},
		of(0, api.Tri{0, 0, 0}), of(0, api.Tri{0, 1, 2}), of(2, api.Tri{0, 1, 2}), last,
		{N: 3, T: tetra().T}, of(4, append(tetra().T, api.Tri{})...),
	}
	for _, v := range []int{-1, 4, 5, 0, math.MinInt, math.MaxInt, api.MaxV, -api.MaxV} {
		bad := []api.Tri{{v, 0, 1}, {0, v, 1}, {0, 1, v}}
		for _, x := range bad {
			list = append(list, of(4, x), of(4, api.Tri{0, 1, 2}, x), of(4, x, api.Tri{3, 2, 1}))
		}
	}
	return list
}

// fitting returns soups that fit.
func fitting() []api.Soup {
	list := []api.Soup{
		{}, {T: []api.Tri{}}, {N: 1}, {N: 2, T: []api.Tri{}}, {N: api.MaxV}, tetra(),
		of(3, api.Tri{2, 1, 0}), of(3, api.Tri{0, 1, 2}, api.Tri{0, 1, 2}), of(3, api.Tri{0, 1, 2}, api.Tri{2, 1, 0}),
		of(api.MaxV, api.Tri{4095, 0, 4094}), of(10, api.Tri{9, 5, 7}), {N: 9, T: tetra().T},
		long(api.MaxV, api.MaxT), long(3, api.MaxT), long(api.MaxV, api.MaxT-1), long(5, 40),
	}
	rng := rand.New(rand.NewSource(8))
	for range 100 {
		n := 3 + rng.Intn(12)
		s := api.Soup{N: n}
		for range rng.Intn(15) {
			p := rng.Perm(n)
			s.T = append(s.T, api.Tri{p[0], p[1], p[2]})
		}
		list = append(list, s)
	}
	return list
}

// fitsBy tells from the document whether s fits.
func fitsBy(s api.Soup) bool {
	if s.N < 0 || s.N > 4096 || len(s.T) > 8192 {
		return false
	}
	for _, t := range s.T {
		vertices := map[int]bool{}
		for _, v := range t {
			if 0 <= v && v <= s.N-1 {
				vertices[v] = true
			}
		}
		if len(vertices) != 3 {
			return false
		}
	}
	return true
}

// renameBy tells from the document what Rename answers.
func renameBy(s api.Soup, to []int) answer {
	sorted := slices.Sorted(slices.Values(to))
	if !fitsBy(s) {
		return answer{e: api.ErrArg}
	}
	if !slices.Equal(sorted, upTo(s.N)) {
		return answer{e: api.ErrForm}
	}
	x := api.Soup{N: s.N}
	for _, t := range s.T {
		for k := range t {
			t[k] = to[t[k]]
		}
		x.T = append(x.T, t)
	}
	return answer{s: x}
}

// outside tells whether one of the numbers is not from 0 to n-1.
func outside(numbers []int, n int) bool {
	return slices.ContainsFunc(numbers, func(x int) bool { return x < 0 || x >= n })
}

// pickBy tells from the document what Pick answers.
func pickBy(s api.Soup, corners []int) answer {
	if !fitsBy(s) {
		return answer{e: api.ErrArg}
	}
	if outside(corners, 3*len(s.T)) {
		return answer{e: api.ErrRange}
	}
	if len(corners) > 8192 {
		return answer{e: api.ErrFull}
	}
	x := api.Soup{N: s.N}
	for _, c := range corners {
		t := s.T[c/3]
		round := slices.Concat(t[:], t[:])
		x.T = append(x.T, api.Tri(round[c%3:c%3+3]))
	}
	return answer{s: x}
}

// partBy tells from the document what Part answers.
func partBy(s api.Soup, tris []int) answer {
	if !fitsBy(s) {
		return answer{e: api.ErrArg}
	}
	if outside(tris, len(s.T)) {
		return answer{e: api.ErrRange}
	}
	if len(slices.Compact(slices.Sorted(slices.Values(tris)))) < len(tris) {
		return answer{e: api.ErrTwice}
	}
	var a answer
	for _, n := range tris {
		a.old = append(a.old, s.T[n][:]...)
	}
	slices.Sort(a.old)
	a.old = slices.Compact(a.old)
	a.s.N = len(a.old)
	for _, n := range tris {
		t := s.T[n]
		for k, v := range t {
			t[k], _ = slices.BinarySearch(a.old, v)
		}
		a.s.T = append(a.s.T, t)
	}
	return a
}

// joinBy tells from the document what Join answers.
func joinBy(l []api.Soup) answer {
	var s api.Soup
	for _, x := range l {
		if !fitsBy(x) {
			return answer{e: api.ErrArg}
		}
		for _, t := range x.T {
			for k := range t {
				t[k] += s.N
			}
			s.T = append(s.T, t)
		}
		s.N += x.N
	}
	if s.N > 4096 || len(s.T) > 8192 {
		return answer{e: api.ErrFull}
	}
	return answer{s: s}
}

// edgesBy tells from the document what Edges answers.
func edgesBy(s api.Soup) answer {
	if !fitsBy(s) {
		return answer{}
	}
	var l []api.Edge
	for _, t := range s.T {
		slices.Sort(t[:])
		l = append(l, api.Edge{t[0], t[1]}, api.Edge{t[0], t[2]}, api.Edge{t[1], t[2]})
	}
	slices.SortFunc(l, func(a, b api.Edge) int { return slices.Compare(a[:], b[:]) })
	return answer{edges: slices.Compact(l)}
}

// mirrorBy tells from the document what Mirror answers.
func mirrorBy(s api.Soup) answer {
	m := api.Soup{N: s.N, T: slices.Clone(s.T)}
	for i := range m.T {
		m.T[i][1], m.T[i][2] = m.T[i][2], m.T[i][1]
	}
	return answer{s: m}
}

func TestExamples(t *testing.T) { // the chapter's examples
	s := one(tetra())
	check(t, edges, s, nil, answer{edges: []api.Edge{{0, 1}, {0, 2}, {0, 3}, {1, 2}, {1, 3}, {2, 3}}})
	check(t, pick, s, []int{4}, answer{s: of(4, api.Tri{3, 1, 0})})
	check(t, part, s, []int{2}, answer{s: of(3, api.Tri{0, 2, 1}), old: []int{1, 2, 3}})
}

func TestFits(t *testing.T) { // P8.1
	for i, s := range fitting() {
		if !fitsBy(s) {
			t.Fatal(i)
		}
		check(t, fits, one(s), nil, answer{ok: true})
	}
	for _, s := range misfits() {
		if fitsBy(s) {
			t.Fatal(s)
		}
		check(t, fits, one(s), nil, answer{})
	}
}

func TestFitsWithFewVertices(t *testing.T) { // P8.1: all triangles of the numbers about 0 to N - 1
	for n := -2; n <= 5; n++ {
		for a := -2; a <= 6; a++ {
			for b := -2; b <= 6; b++ {
				for c := -2; c <= 6; c++ {
					s := of(n, api.Tri{a, b, c})
					want := min(a, b, c) >= 0 && max(a, b, c) < n && a != b && a != c && b != c
					if got := soup.Fits(s); got != want {
						t.Fatalf("%v: %v", s, got)
					}
				}
			}
		}
	}
}

func TestFitsAtTheLimits(t *testing.T) { // P8.1
	for _, c := range []struct {
		s    api.Soup
		want bool
	}{
		{api.Soup{}, true},
		{api.Soup{N: 0}, true},
		{api.Soup{N: -1}, false},
		{api.Soup{N: 4096}, true},
		{api.Soup{N: 4097}, false},
		{of(4096, api.Tri{0, 1, 4095}), true},
		{of(4096, api.Tri{0, 1, 4096}), false},
		{of(4097, api.Tri{0, 1, 4096}), false},
		{long(3, 8192), true},
		{long(3, 8193), false},
		{long(4096, 8192), true},
		{long(4096, 8193), false},
	} {
		check(t, fits, one(c.s), nil, answer{ok: c.want})
	}
}

func TestSame(t *testing.T) { // P8.1
	a := tetra()
	turned, swapped := tetra(), tetra()
	turned.T[1] = api.Tri{3, 1, 0}
	swapped.T[1], swapped.T[2] = swapped.T[2], swapped.T[1]
	for _, s := range []api.Soup{
		{N: 5, T: a.T}, {N: 3, T: a.T}, {N: -4, T: a.T}, {N: 4}, {}, {N: 4, T: a.T[:3]}, {N: 4, T: a.T[1:]},
		of(4, append(slices.Clone(a.T), a.T[3])...), turned, swapped, soup.Mirror(a),
	} {
		check(t, same, []api.Soup{a, s}, nil, answer{})
		check(t, same, []api.Soup{s, a}, nil, answer{})
	}
	check(t, same, []api.Soup{{}, {T: []api.Tri{}}}, nil, answer{ok: true})
	check(t, same, []api.Soup{{N: 7, T: []api.Tri{}}, {N: 7}}, nil, answer{ok: true})
	check(t, same, []api.Soup{{}, {N: 1}}, nil, answer{})
}

func TestSameSeesEachPlace(t *testing.T) { // P8.1
	for _, a := range []api.Soup{tetra(), long(7, 20), of(-3, api.Tri{9, 9, 9}, api.Tri{-1, 0, 0})} {
		for i := range a.T {
			for k := range 3 {
				b := of(a.N, slices.Clone(a.T)...)
				check(t, same, []api.Soup{a, b}, nil, answer{ok: true})
				b.T[i][k]++
				check(t, same, []api.Soup{a, b}, nil, answer{})
			}
		}
	}
}

func TestSameOfAll(t *testing.T) { // P8.1: whether they fit or not
	all := slices.Concat(fitting()[:30], misfits())
	for _, a := range all {
		for _, b := range all {
			want := a.N == b.N && slices.Equal(a.T, b.T)
			if got := soup.Same(a, b); got != want {
				t.Fatalf("soups of %d and %d vertices, %d and %d triangles: %v", a.N, b.N, len(a.T), len(b.T), got)
			}
		}
		check(t, same, []api.Soup{a, of(a.N, slices.Clone(a.T)...)}, nil, answer{ok: true})
	}
}

func TestMirror(t *testing.T) { // P8.1
	check(t, mirror, one(tetra()), nil, answer{s: of(4, api.Tri{0, 2, 1}, api.Tri{0, 1, 3}, api.Tri{1, 2, 3}, api.Tri{0, 3, 2})})
	check(t, mirror, one(api.Soup{}), nil, answer{})
	check(t, mirror, one(of(3, api.Tri{2, 0, 1})), nil, answer{s: of(3, api.Tri{2, 1, 0})})
	for _, s := range slices.Concat(fitting(), misfits()) {
		check(t, mirror, one(s), nil, mirrorBy(s))
		if !soup.Same(soup.Mirror(soup.Mirror(s)), s) {
			t.Fatal("mirrored twice it is another soup")
		}
	}
}

func TestMirrorOfMisfits(t *testing.T) { // P8.1
	check(t, mirror, one(api.Soup{N: -1}), nil, answer{s: api.Soup{N: -1}})
	check(t, mirror, one(api.Soup{N: 9999}), nil, answer{s: api.Soup{N: 9999}})
	check(t, mirror, one(of(2, api.Tri{7, -7, math.MinInt}, api.Tri{1, 1, 0}, api.Tri{5, 4, 4})), nil,
		answer{s: of(2, api.Tri{7, math.MinInt, -7}, api.Tri{1, 0, 1}, api.Tri{5, 4, 4})})
	m := soup.Mirror(long(3, 8193))
	if len(m.T) != 8193 || m.N != 3 || m.T[8192] != (api.Tri{0, 2, 1}) {
		t.Error(m.N, len(m.T))
	}
}

func TestRename(t *testing.T) { // P8.2
	check(t, rename, one(tetra()), []int{3, 2, 1, 0}, answer{s: of(4, api.Tri{3, 2, 1}, api.Tri{3, 0, 2}, api.Tri{2, 0, 1}, api.Tri{3, 1, 0})})
	check(t, rename, one(tetra()), []int{1, 2, 3, 0}, answer{s: of(4, api.Tri{1, 2, 3}, api.Tri{1, 0, 2}, api.Tri{2, 0, 3}, api.Tri{1, 3, 0})})
	check(t, rename, one(api.Soup{}), nil, answer{})
	check(t, rename, one(api.Soup{}), []int{}, answer{})
	check(t, rename, one(api.Soup{N: 1}), []int{0}, answer{s: api.Soup{N: 1}})
	check(t, rename, one(api.Soup{N: 2}), []int{1, 0}, answer{s: api.Soup{N: 2}})
	rng := rand.New(rand.NewSource(82))
	for _, s := range fitting() {
		check(t, rename, one(s), upTo(s.N), answer{s: s})
		to := rng.Perm(s.N)
		want := renameBy(s, to)
		check(t, rename, one(s), to, want)
		back := make([]int, s.N)
		for v, w := range to {
			back[w] = v
		}
		check(t, rename, one(want.s), back, answer{s: s})
	}
}

func TestRenameRefusesLists(t *testing.T) { // P8.2
	for _, to := range [][]int{
		nil, {}, {0}, {0, 1, 2}, {2, 1, 0}, {1, 2, 3}, {0, 1, 2, 3, 4}, {0, 1, 2, 3, 0}, {0, 1, 2, 3, 3}, {0, 1, 2, 3, -1},
		{0, 0, 1, 2}, {3, 2, 1, 1}, {1, 1, 1, 1}, {0, 1, 2, 0}, {0, 1, 2, 4}, {4, 3, 2, 1}, {4, 1, 2, 3}, {-1, 0, 1, 2}, {0, 1, 2, -1},
		{0, 1, 2, math.MaxInt}, {math.MinInt, 1, 2, 3}, {0, 1, 2, 3, 4, 5, 6, 7}, upTo(api.MaxV), make([]int, 100000),
	} {
		check(t, rename, one(tetra()), to, answer{e: api.ErrForm})
		check(t, rename, one(api.Soup{N: 4}), to, answer{e: api.ErrForm})
	}
	for _, to := range [][]int{{0}, {-1}, {0, 0}, upTo(api.MaxV)} {
		check(t, rename, one(api.Soup{}), to, answer{e: api.ErrForm})
	}
	check(t, rename, one(api.Soup{N: api.MaxV}), upTo(api.MaxV-1), answer{e: api.ErrForm})
	check(t, rename, one(api.Soup{N: api.MaxV}), upTo(api.MaxV+1), answer{e: api.ErrForm})
}

func TestRenameRefusesMisfits(t *testing.T) { // P8.2: ErrArg comes ahead of ErrForm
	for _, s := range misfits() {
		for _, to := range [][]int{nil, {0}, {3, 2, 1, 0}, {0, 0, 0, 0}, {-1}, upTo(max(0, min(s.N, api.MaxV+1)))} {
			check(t, rename, one(s), to, answer{e: api.ErrArg})
		}
	}
}

func TestRenameWithAllShortLists(t *testing.T) { // P8.2
	for n := range 4 {
		s := api.Soup{N: n}
		if n == 3 {
			s = of(3, api.Tri{0, 1, 2}, api.Tri{2, 0, 1})
		}
		lists := [][]int{nil}
		for i := 0; i < len(lists); i++ {
			check(t, rename, one(s), lists[i], renameBy(s, lists[i]))
			for x := -1; x <= n && len(lists[i]) <= n; x++ {
				lists = append(lists, append(slices.Clone(lists[i]), x))
			}
		}
	}
}

func TestPick(t *testing.T) { // P8.3
	s := one(tetra())
	check(t, pick, s, []int{0, 1, 2}, answer{s: of(4, api.Tri{0, 1, 2}, api.Tri{1, 2, 0}, api.Tri{2, 0, 1})})
	check(t, pick, s, []int{4, 11, 0}, answer{s: of(4, api.Tri{3, 1, 0}, api.Tri{3, 0, 2}, api.Tri{0, 1, 2})})
	check(t, pick, s, []int{5, 5, 5, 3, 5}, answer{s: of(4, api.Tri{1, 0, 3}, api.Tri{1, 0, 3}, api.Tri{1, 0, 3}, api.Tri{0, 3, 1}, api.Tri{1, 0, 3})})
	check(t, pick, s, []int{0, 3, 6, 9}, answer{s: tetra()})
	check(t, pick, s, nil, answer{s: api.Soup{N: 4}})
	check(t, pick, s, []int{}, answer{s: api.Soup{N: 4}})
	check(t, pick, one(api.Soup{}), nil, answer{})
	check(t, pick, one(api.Soup{N: api.MaxV}), nil, answer{s: api.Soup{N: api.MaxV}})
	check(t, pick, one(of(9, api.Tri{8, 0, 5})), []int{2}, answer{s: of(9, api.Tri{5, 8, 0})})
}

func TestPickIsAsTold(t *testing.T) { // P8.3
	rng := rand.New(rand.NewSource(83))
	for _, s := range fitting() {
		all := upTo(3 * len(s.T))
		first := make([]int, len(s.T))
		for i := range first {
			first[i] = 3 * i
		}
		check(t, pick, one(s), first, answer{s: s})
		if len(all) <= api.MaxT {
			check(t, pick, one(s), all, pickBy(s, all))
		}
		rng.Shuffle(len(all), func(i, j int) { all[i], all[j] = all[j], all[i] })
		few := all[:min(len(all), 9)]
		check(t, pick, one(s), few, pickBy(s, few))
	}
}

func TestPickRefusesCorners(t *testing.T) { // P8.3
	for _, c := range []int{-1, 12, 13, -12, 3 * api.MaxT, math.MinInt, math.MaxInt} {
		for _, corners := range [][]int{{c}, {0, c}, {c, 0}, {0, c, 11}, {c, c}} {
			check(t, pick, one(tetra()), corners, answer{e: api.ErrRange})
		}
	}
	for _, s := range []api.Soup{{}, {N: 3}, {N: api.MaxV}} {
		for _, c := range []int{-1, 0, 1, 2, 3} {
			check(t, pick, one(s), []int{c}, answer{e: api.ErrRange})
		}
	}
	check(t, pick, one(long(api.MaxV, api.MaxT)), []int{3*api.MaxT - 1}, pickBy(long(api.MaxV, api.MaxT), []int{3*api.MaxT - 1}))
	check(t, pick, one(long(api.MaxV, api.MaxT)), []int{3 * api.MaxT}, answer{e: api.ErrRange})
}

func TestPickOfManyCorners(t *testing.T) { // P8.3
	s := tetra()
	corners := slices.Repeat([]int{7}, api.MaxT)
	check(t, pick, one(s), corners, answer{s: api.Soup{N: 4, T: slices.Repeat([]api.Tri{{3, 2, 1}}, 8192)}})
	for _, more := range []int{1, 2, 3, 100000} {
		check(t, pick, one(s), append(slices.Clone(corners), make([]int, more)...), answer{e: api.ErrFull})
	}
	all := long(api.MaxV, api.MaxT)
	check(t, pick, one(all), upTo(api.MaxT), pickBy(all, upTo(api.MaxT)))
	check(t, pick, one(all), upTo(api.MaxT+1), answer{e: api.ErrFull})
	check(t, pick, one(all), upTo(3*api.MaxT), answer{e: api.ErrFull})
}

func TestErrorsOfPickInOrder(t *testing.T) { // P8.3
	for _, s := range misfits() {
		for _, corners := range [][]int{nil, {0}, {-1}, {math.MaxInt}, make([]int, api.MaxT+1), slices.Repeat([]int{-1}, api.MaxT+1)} {
			check(t, pick, one(s), corners, answer{e: api.ErrArg})
		}
	}
	for _, at := range []int{0, 1, 5000, api.MaxT - 1, api.MaxT, api.MaxT + 4} {
		corners := make([]int, api.MaxT+5)
		for _, c := range []int{-1, 12} {
			corners[at] = c
			check(t, pick, one(tetra()), corners, answer{e: api.ErrRange})
		}
	}
	check(t, pick, one(api.Soup{}), make([]int, api.MaxT+1), answer{e: api.ErrRange})
}

func TestPart(t *testing.T) { // P8.3
	s := one(tetra())
	check(t, part, s, []int{0, 1, 2, 3}, answer{s: tetra(), old: []int{0, 1, 2, 3}})
	check(t, part, s, []int{3, 1}, answer{s: of(4, api.Tri{0, 2, 3}, api.Tri{0, 3, 1}), old: []int{0, 1, 2, 3}})
	check(t, part, s, []int{3}, answer{s: of(3, api.Tri{0, 1, 2}), old: []int{0, 2, 3}})
	check(t, part, s, nil, answer{})
	check(t, part, s, []int{}, answer{})
	check(t, part, one(api.Soup{}), nil, answer{})
	check(t, part, one(api.Soup{N: api.MaxV}), []int{}, answer{})

	wide := one(of(100, api.Tri{90, 10, 50}, api.Tri{1, 2, 3}, api.Tri{50, 10, 7}, api.Tri{99, 98, 0}, api.Tri{10, 50, 90}))
	check(t, part, wide, []int{2, 0}, answer{s: of(4, api.Tri{2, 1, 0}, api.Tri{3, 1, 2}), old: []int{7, 10, 50, 90}})
	check(t, part, wide, []int{0, 4}, answer{s: of(3, api.Tri{2, 0, 1}, api.Tri{0, 1, 2}), old: []int{10, 50, 90}})
	check(t, part, wide, []int{3, 1}, answer{s: of(6, api.Tri{5, 4, 0}, api.Tri{1, 2, 3}), old: []int{0, 1, 2, 3, 98, 99}})
}

func TestPartIsAsTold(t *testing.T) { // P8.3
	rng := rand.New(rand.NewSource(84))
	for _, s := range fitting() {
		all := upTo(len(s.T))
		check(t, part, one(s), all, partBy(s, all))
		for range 3 {
			tris := rng.Perm(len(s.T))[:rng.Intn(len(s.T)+1)]
			check(t, part, one(s), tris, partBy(s, tris))
		}
		for _, n := range []int{0, len(s.T) - 1} {
			check(t, part, one(s), []int{n}, partBy(s, []int{n}))
		}
	}
}

func TestPartRefusesNumbers(t *testing.T) { // P8.3
	for _, n := range []int{-1, 4, 5, -4, 12, math.MinInt, math.MaxInt} {
		for _, tris := range [][]int{{n}, {0, n}, {n, 0}, {0, n, 3}, {n, n}, {1, 1, n}, {n, 1, 1}, {1, n, 1}} {
			check(t, part, one(tetra()), tris, answer{e: api.ErrRange})
		}
	}
	for _, tris := range [][]int{{0, 0}, {3, 3}, {2, 1, 2}, {0, 1, 2, 3, 0}, {3, 2, 1, 0, 3}, {1, 1, 1}, make([]int, api.MaxT+1), make([]int, 100000)} {
		check(t, part, one(tetra()), tris, answer{e: api.ErrTwice})
	}
	for _, tris := range [][]int{{0}, {-1}, {0, 0}} {
		check(t, part, one(api.Soup{N: 3}), tris, answer{e: api.ErrRange})
	}
	all := long(api.MaxV, api.MaxT)
	check(t, part, one(all), []int{api.MaxT}, answer{e: api.ErrRange})
	check(t, part, one(all), append(upTo(api.MaxT), 0), answer{e: api.ErrTwice})
	check(t, part, one(all), append(upTo(api.MaxT), 0, api.MaxT), answer{e: api.ErrRange})
}

func TestPartRefusesMisfits(t *testing.T) { // P8.3: ErrArg comes ahead of the others
	for _, s := range misfits() {
		for _, tris := range [][]int{nil, {0}, {0, 0}, {-1}, {math.MaxInt}, {0, 0, -1}} {
			check(t, part, one(s), tris, answer{e: api.ErrArg})
		}
	}
}

func TestPartWithAllShortLists(t *testing.T) { // P8.3
	s := of(7, api.Tri{6, 2, 4}, api.Tri{1, 2, 6}, api.Tri{5, 3, 1})
	lists := [][]int{nil}
	for i := 0; i < len(lists); i++ {
		check(t, part, one(s), lists[i], partBy(s, lists[i]))
		for x := -1; x <= 3 && len(lists[i]) < 4; x++ {
			lists = append(lists, append(slices.Clone(lists[i]), x))
		}
	}
}

func TestJoin(t *testing.T) { // P8.4
	s, small := tetra(), of(3, api.Tri{2, 0, 1})
	check(t, join, nil, nil, answer{})
	check(t, join, []api.Soup{}, nil, answer{})
	check(t, join, []api.Soup{{}}, nil, answer{})
	check(t, join, []api.Soup{{}, {}, {}}, nil, answer{})
	check(t, join, one(s), nil, answer{s: s})
	check(t, join, []api.Soup{small, {N: 1}, small}, nil, answer{s: of(7, api.Tri{2, 0, 1}, api.Tri{6, 4, 5})})
	check(t, join, []api.Soup{{N: 2}, small, {}, {N: 5}}, nil, answer{s: of(10, api.Tri{4, 2, 3})})
	check(t, join, []api.Soup{small, s}, nil, answer{s: of(7, api.Tri{2, 0, 1}, api.Tri{3, 4, 5}, api.Tri{3, 6, 4}, api.Tri{4, 6, 5}, api.Tri{3, 5, 6})})
	check(t, join, []api.Soup{s, small}, nil, answer{s: of(7, append(tetra().T, api.Tri{6, 4, 5})...)})
}

func TestJoinIsAsTold(t *testing.T) { // P8.4
	var small []api.Soup
	for _, s := range fitting() {
		check(t, join, one(s), nil, answer{s: s})
		check(t, join, []api.Soup{{}, s, {}}, nil, answer{s: s})
		if s.N < 100 && len(s.T) < 100 {
			small = append(small, s)
		}
	}
	check(t, join, small, nil, joinBy(small))
	rng := rand.New(rand.NewSource(85))
	for range 200 {
		l := make([]api.Soup, rng.Intn(9))
		for i := range l {
			l[i] = small[rng.Intn(len(small))]
		}
		check(t, join, l, nil, joinBy(l))
	}
}

func TestJoinAtTheLimits(t *testing.T) { // P8.4
	a, b := long(1000, 8000), long(3096, 192)
	both := joinBy([]api.Soup{a, b})
	if both.s.N != 4096 || len(both.s.T) != 8192 {
		t.Fatal(both)
	}
	check(t, join, []api.Soup{a, b}, nil, both)
	check(t, join, []api.Soup{{}, a, {}, b, {}}, nil, both)
	check(t, join, []api.Soup{long(api.MaxV, api.MaxT)}, nil, answer{s: long(api.MaxV, api.MaxT)})
	check(t, join, slices.Repeat([]api.Soup{{N: 1}}, 4096), nil, answer{s: api.Soup{N: 4096}})
	check(t, join, []api.Soup{{N: 4092}, tetra()}, nil, joinBy([]api.Soup{{N: 4092}, tetra()}))
	check(t, join, []api.Soup{long(3, 8191), long(3, 1)}, nil, joinBy([]api.Soup{long(3, 8191), long(3, 1)}))
	for _, l := range [][]api.Soup{
		{a, b, {N: 1}},
		{{N: 1}, a, b},
		{a, {N: 1}, b},
		{{N: 4093}, tetra()},
		{tetra(), {N: 4093}},
		{{N: 4096}, {N: 1}},
		{{N: 4096}, {N: 4096}},
		slices.Repeat([]api.Soup{{N: 1}}, 4097),
		slices.Repeat([]api.Soup{{N: 4096}}, 1000),
		{long(3, 8192), long(3, 1)},
		{long(3, 1), long(3, 8192)},
		{long(3, 8191), long(3, 2)},
		{long(3, 8192), long(3, 8192)},
		slices.Repeat([]api.Soup{long(3, 9)}, 911),
		{a, long(3096, 193)},
	} {
		check(t, join, l, nil, answer{e: api.ErrFull})
	}
}

func TestJoinRefusesMisfits(t *testing.T) { // P8.4: ErrArg comes ahead of ErrFull
	for _, s := range misfits() {
		for _, l := range [][]api.Soup{
			{s}, {s, s}, {tetra(), s}, {s, tetra()}, {{}, s, {}},
			{{N: 4096}, {N: 4096}, s}, {s, {N: 4096}, {N: 4096}}, {long(3, 8192), long(3, 8192), s}, {{N: 4096}, s, tetra()},
		} {
			check(t, join, l, nil, answer{e: api.ErrArg})
		}
	}
}

func TestJoinAndPart(t *testing.T) { // P8.3, P8.4: each soup is found again
	l := []api.Soup{tetra(), long(5, 7), of(3, api.Tri{1, 0, 2})}
	all, e := soup.Join(l...)
	if e != api.OK {
		t.Fatal(e)
	}
	from, vertex := 0, 0
	for i, s := range l {
		tris, old := upTo(len(s.T)), upTo(s.N)
		for k := range tris {
			tris[k] += from
		}
		for k := range old {
			old[k] += vertex
		}
		got, numbers, e := soup.Part(all, tris)
		if e != api.OK || !soup.Same(got, s) || !slices.Equal(numbers, old) {
			t.Errorf("soup %d: %v, %v, error %d", i, got, numbers, e)
		}
		from, vertex = from+len(s.T), vertex+s.N
	}
}

func TestEdges(t *testing.T) { // P8.5
	check(t, edges, one(api.Soup{}), nil, answer{})
	check(t, edges, one(api.Soup{N: api.MaxV}), nil, answer{})
	six := []api.Tri{{0, 1, 2}, {0, 2, 1}, {1, 0, 2}, {1, 2, 0}, {2, 0, 1}, {2, 1, 0}}
	three := []api.Edge{{0, 1}, {0, 2}, {1, 2}}
	for _, x := range six {
		check(t, edges, one(of(3, x)), nil, answer{edges: three})
		check(t, edges, one(of(8, x, x, x)), nil, answer{edges: three})
	}
	check(t, edges, one(of(3, six...)), nil, answer{edges: three})
	fan := of(6, api.Tri{5, 0, 4}, api.Tri{5, 0, 3}, api.Tri{0, 5, 2}, api.Tri{1, 5, 0})
	check(t, edges, one(fan), nil, answer{edges: []api.Edge{{0, 1}, {0, 2}, {0, 3}, {0, 4}, {0, 5}, {1, 5}, {2, 5}, {3, 5}, {4, 5}}})
	far := of(api.MaxV, api.Tri{4095, 9, 1000}, api.Tri{2, 10, 4095})
	check(t, edges, one(far), nil, answer{edges: []api.Edge{{2, 10}, {2, 4095}, {9, 1000}, {9, 4095}, {10, 4095}, {1000, 4095}}})
}

func TestEdgesAreAsTold(t *testing.T) { // P8.5
	for _, s := range fitting() {
		check(t, edges, one(s), nil, edgesBy(s))
		if !slices.Equal(soup.Edges(s), soup.Edges(soup.Mirror(s))) {
			t.Fatal("the mirrored soup has other edges")
		}
	}
	apart := api.Soup{N: api.MaxV}
	for i := range api.MaxT {
		apart.T = append(apart.T, api.Tri{i % 1365, 1365 + (i*7)%1365, 2730 + (i*i)%1366})
	}
	check(t, edges, one(apart), nil, edgesBy(apart))
}

func TestEdgesOfMisfits(t *testing.T) { // P8.5
	for _, s := range misfits() {
		check(t, edges, one(s), nil, answer{})
	}
}

func TestAnswersDoNotHangOnEarlierOnes(t *testing.T) { // R4
	s := one(tetra())
	for range 3 {
		check(t, part, s, []int{1}, answer{s: of(3, api.Tri{0, 2, 1}), old: []int{0, 1, 3}})
		check(t, part, s, []int{1, 1}, answer{e: api.ErrTwice})
		check(t, rename, s, []int{0, 1, 2, 2}, answer{e: api.ErrForm})
		check(t, rename, s, []int{0, 1, 2, 3}, answer{s: tetra()})
		check(t, pick, s, []int{12}, answer{e: api.ErrRange})
		check(t, pick, s, []int{8}, answer{s: of(4, api.Tri{2, 1, 3})})
		check(t, join, []api.Soup{s[0], {N: -1}}, nil, answer{e: api.ErrArg})
		check(t, join, []api.Soup{{N: 1}, {N: 1}}, nil, answer{s: api.Soup{N: 2}})
		check(t, edges, one(of(3, api.Tri{2, 1, 0})), nil, answer{edges: []api.Edge{{0, 1}, {0, 2}, {1, 2}}})
		check(t, mirror, one(of(3, api.Tri{2, 1, 0})), nil, answer{s: of(3, api.Tri{2, 0, 1})})
	}
}

func TestArbitrarySoups(t *testing.T) { // R1, R5: fitting ones and others, against what the document tells
	rng := rand.New(rand.NewSource(86))
	fit := 0
	for range 5000 {
		s := api.Soup{N: rng.Intn(9) - 1}
		for range rng.Intn(4) {
			s.T = append(s.T, api.Tri{rng.Intn(9) - 1, rng.Intn(8), rng.Intn(9)})
		}
		numbers := rng.Perm(max(0, s.N+rng.Intn(2)*(rng.Intn(3)-1)))
		for i := range numbers {
			if rng.Intn(20) == 0 {
				numbers[i] = rng.Intn(15) - 2
			}
		}
		if fitsBy(s) {
			fit++
		}
		check(t, fits, one(s), nil, answer{ok: fitsBy(s)})
		check(t, mirror, one(s), nil, mirrorBy(s))
		check(t, rename, one(s), numbers, renameBy(s, numbers))
		check(t, pick, one(s), numbers, pickBy(s, numbers))
		check(t, part, one(s), numbers, partBy(s, numbers))
		check(t, part, one(s), numbers[:min(len(numbers), 1)], partBy(s, numbers[:min(len(numbers), 1)]))
		check(t, join, []api.Soup{s, tetra(), s}, nil, joinBy([]api.Soup{s, tetra(), s}))
		check(t, edges, one(s), nil, edgesBy(s))
	}
	if fit < 500 || fit > 4500 {
		t.Errorf("%d of 5000 fit", fit)
	}
}
