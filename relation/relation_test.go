package relation

import (
	"math"
	"slices"
	"testing"

	"modelcheck/api"
)

// of returns the relation with the given elements of pairs in turn; it need not be valid or normal.
func of(n int, elements ...int) api.Relation {
	r := api.Relation{N: n}
	for pair := range slices.Chunk(elements, 2) {
		r.Pairs = append(r.Pairs, [2]int{pair[0], pair[1]})
	}
	return r
}

// table is a relation as a table of truth values, on which the functions are computed anew for comparison.
type table [][]bool

func tableOf(r api.Relation) table {
	m := make(table, r.N)
	for a := range m {
		m[a] = make([]bool, r.N)
	}
	for _, pair := range r.Pairs {
		m[pair[0]][pair[1]] = true
	}
	return m
}

// relation returns the normal relation of a table.
func (m table) relation() api.Relation {
	r := api.Relation{N: len(m)}
	for a := range m {
		for b := range m {
			if m[a][b] {
				r.Pairs = append(r.Pairs, [2]int{a, b})
			}
		}
	}
	return r
}

// each returns the table of the pairs that holds accepts.
func each(n int, holds func(a, b int) bool) api.Relation {
	m := tableOf(api.Relation{N: n})
	for a := range m {
		for b := range m {
			m[a][b] = holds(a, b)
		}
	}
	return m.relation()
}

func union(a, b api.Relation) api.Relation {
	inA, inB := tableOf(a), tableOf(b)
	return each(a.N, func(x, y int) bool { return inA[x][y] || inB[x][y] })
}

func compose(a, b api.Relation) api.Relation {
	inA, inB := tableOf(a), tableOf(b)
	return each(a.N, func(x, z int) bool {
		for y := range a.N {
			if inA[x][y] && inB[y][z] {
				return true
			}
		}
		return false
	})
}

func inverse(r api.Relation) api.Relation {
	m := tableOf(r)
	return each(r.N, func(a, b int) bool { return m[b][a] })
}

// closure is Warshall's algorithm.
func closure(r api.Relation) api.Relation {
	m := tableOf(r)
	for x := range m {
		for a := range m {
			for b := range m {
				m[a][b] = m[a][b] || m[a][x] && m[x][b]
			}
		}
	}
	return m.relation()
}

func acyclic(r api.Relation) bool {
	m := tableOf(closure(r))
	for a := range m {
		if m[a][a] {
			return false
		}
	}
	return true
}

func reduction(r api.Relation) api.Relation {
	c := closure(r)
	inC, detour := tableOf(c), tableOf(compose(c, c))
	return each(r.N, func(a, b int) bool { return inC[a][b] && !detour[a][b] })
}

// cycle examines the sequences of each length in lexicographic order.
func cycle(r api.Relation) []int {
	m := tableOf(r)
	var extend func(sequence []int, more int) []int
	extend = func(sequence []int, more int) []int {
		last := len(sequence) - 1
		if more == 0 {
			if m[sequence[last]][sequence[0]] {
				return slices.Clone(sequence)
			}
			return nil
		}
		for b := range m {
			if last >= 0 && !m[sequence[last]][b] {
				continue
			}
			if found := extend(append(sequence, b), more-1); found != nil {
				return found
			}
		}
		return nil
	}
	for length := 1; length <= r.N; length++ {
		if found := extend(nil, length); found != nil {
			return found
		}
	}
	return nil
}

// everyRelation returns all relations on the numbers from 0 to n - 1, in normal form.
func everyRelation(n int) []api.Relation {
	var all []api.Relation
	for bits := range 1 << (n * n) {
		all = append(all, each(n, func(a, b int) bool { return bits>>(a*n+b)&1 == 1 }))
	}
	return all
}

// mixed returns a relation with about one of every sparse pairs, in no order, some of them twice. Equal arguments give equal relations.
func mixed(n, sparse int, seed uint32) api.Relation {
	r := api.Relation{N: n}
	next := func(limit int) int {
		seed = seed*1664525 + 1013904223
		return int(seed>>8) % limit
	}
	for range n * n / sparse {
		pair := [2]int{next(n), next(n)}
		r.Pairs = append(r.Pairs, pair)
		if next(4) == 0 {
			r.Pairs = append(r.Pairs, pair)
		}
	}
	return r
}

// upward returns the pairs of r that lead to a larger number, after the numbers have been exchanged, so that it is acyclic.
func upward(r api.Relation) api.Relation {
	up := api.Relation{N: r.N}
	for _, pair := range r.Pairs {
		if pair[0] < pair[1] {
			up.Pairs = append(up.Pairs, [2]int{exchange(pair[0], r.N), exchange(pair[1], r.N)})
		}
	}
	return up
}

// exchange swaps neighbours of the numbers from 0 to n - 1.
func exchange(a, n int) int {
	if a^1 < n {
		return a ^ 1
	}
	return a
}

// path returns the pairs of consecutive numbers up to n - 1.
func path(n int) api.Relation {
	return each(n, func(a, b int) bool { return b == a+1 })
}

// ring returns the cycle of all numbers up to n - 1.
func ring(n int) api.Relation {
	return each(n, func(a, b int) bool { return b == (a+1)%n })
}

// samples are valid relations: all small ones, ones that are not normal, and ones up to the largest N.
func samples() []api.Relation {
	all := []api.Relation{
		{}, {Pairs: [][2]int{}}, {N: 1}, {N: 1, Pairs: [][2]int{}}, of(1, 0, 0), of(1, 0, 0, 0, 0), of(api.MaxRelation), of(api.MaxRelation, 63, 63), of(api.MaxRelation, 63, 0), of(api.MaxRelation, 0, 63, 63, 0),
		of(4, 0, 1, 1, 2, 0, 2), of(4, 2, 1, 1, 2, 0, 1), of(4, 1, 2, 0, 2, 0, 1, 1, 2), of(3, 2, 0, 1, 2, 0, 1), of(2, 1, 1, 0, 1), of(2, 1, 0, 0, 1, 1, 0),
		of(5, 4, 4, 3, 3), of(6, 4, 5, 5, 4, 2, 3, 3, 2, 1, 2), of(6, 0, 3, 3, 0, 0, 2, 2, 0, 1, 4, 4, 1), of(7, 0, 5, 5, 6, 6, 0, 0, 1, 1, 4, 4, 0, 2, 3, 3, 1),
		of(6, 1, 2, 2, 3, 3, 1, 0, 4, 4, 5, 5, 0, 4, 1), of(5, 0, 1, 1, 2, 2, 3, 3, 4, 4, 0, 3, 1), of(5, 3, 2, 2, 1, 1, 0, 3, 1, 3, 0, 2, 0),
		path(api.MaxRelation), ring(api.MaxRelation), ring(7), closure(path(9)), closure(path(api.MaxRelation)), inverse(path(8)),
	}
	for n := range 4 {
		all = append(all, everyRelation(n)...)
	}
	for seed := range uint32(60) {
		for _, sparse := range []int{2, 4, 9} {
			r := mixed(int(4+seed%6), sparse, seed+7)
			all = append(all, r, upward(r))
		}
	}
	for i, n := range []int{15, 31, 33, 63, 64} {
		r := mixed(n, 20, uint32(i))
		all = append(all, r, upward(r), mixed(n, 60, uint32(i)), mixed(n, 1, uint32(i)))
	}
	return all
}

// invalid are relations that are not valid: by N, and by each element of a pair at each position.
var invalid = []api.Relation{
	of(-1), of(-1, 0, 0), of(math.MinInt), of(api.MaxRelation + 1), of(api.MaxRelation+1, 0, 1), of(math.MaxInt), of(1 << 32), of(1<<32+2, 0, 1), of(-1<<32+2, 0, 1),
	of(0, 0, 0), of(0, -1, -1), of(1, 0, 1), of(1, 1, 0), of(1, 1, 1), of(1, -1, 0), of(1, 0, -1), of(2, 0, 2), of(2, 2, 0),
	of(3, 0, 1, 1, 3), of(3, 0, 1, 3, 1), of(3, -1, 1, 0, 1), of(3, 1, -1, 0, 1), of(3, 0, 1, 1, 3, 1, 2), of(3, 2, 2, 2, 3), of(3, 0, 1, 1, 0, 0, 3),
	of(3, math.MinInt, 0), of(3, 0, math.MinInt), of(3, math.MaxInt, 0), of(3, 0, math.MaxInt), of(3, 1<<32, 1), of(3, 1, 1<<32), of(3, -1<<32, 0), of(3, 1<<32, 1<<32),
	of(api.MaxRelation, 64, 0), of(api.MaxRelation, 0, 64), of(api.MaxRelation, 63, -1), of(-2, -3, -3), of(65, 64, 64),
}

// same reports a result that has another N or another list of pairs than the wanted one.
func same(t *testing.T, what string, r any, got, want api.Relation) {
	t.Helper()
	if got.N != want.N || !slices.Equal(got.Pairs, want.Pairs) {
		t.Errorf("%s of %v = %v, want %v", what, r, got, want)
	}
}

// zero reports a relation that is not the zero value.
func zero(t *testing.T, what string, r any, got api.Relation) {
	t.Helper()
	if got.N != 0 || len(got.Pairs) != 0 {
		t.Errorf("%s of %v = %v, want no relation", what, r, got)
	}
}

// must returns the relation of a call that must succeed.
func must(t *testing.T, what string) func(r api.Relation, err api.Errno) api.Relation {
	return func(r api.Relation, err api.Errno) api.Relation {
		t.Helper()
		if err != api.OK {
			t.Errorf("%s returns the error %d", what, err)
		}
		return r
	}
}

// contained reports whether b has all pairs of a.
func contained(a, b api.Relation) bool {
	inB := tableOf(b)
	return !slices.ContainsFunc(a.Pairs, func(pair [2]int) bool { return !inB[pair[0]][pair[1]] })
}

func TestValid(t *testing.T) {
	for _, r := range samples() {
		if !Valid(r) {
			t.Errorf("Valid(%v) is false", r)
		}
	}
	for _, r := range invalid {
		if Valid(r) {
			t.Errorf("Valid(%v) is true", r)
		}
	}
	for n := -70; n <= 70; n++ {
		if got := Valid(of(n)); got != (n >= 0 && n <= 64) {
			t.Errorf("Valid with N = %d is %v", n, got)
		}
	}
}

func TestHas(t *testing.T) {
	for _, r := range samples() {
		if r.N > 9 {
			continue
		}
		m := tableOf(r)
		for a := -2; a <= r.N+1; a++ {
			for b := -2; b <= r.N+1; b++ {
				want := a >= 0 && a < r.N && b >= 0 && b < r.N && m[a][b]
				if got := Has(r, a, b); got != want {
					t.Errorf("Has(%v, %d, %d) = %v, want %v", r, a, b, got, want)
				}
			}
		}
	}
	for _, r := range invalid {
		for _, pair := range append(r.Pairs, [2]int{}, [2]int{0, 1}, [2]int{-1, -1}) {
			if Has(r, pair[0], pair[1]) {
				t.Errorf("Has(%v, %d, %d) is true", r, pair[0], pair[1])
			}
		}
	}
	large := of(64, 0, 63, 63, 0)
	if !Has(large, 0, 63) || !Has(large, 63, 0) || Has(large, 63, 63) || Has(large, 1<<32, 63) || Has(large, math.MaxInt, math.MinInt) {
		t.Error("Has of the largest N")
	}
}

func TestNormal(t *testing.T) {
	same(t, "Normal", "unsorted pairs", Normal(of(3, 2, 0, 0, 2, 2, 0, 0, 1, 1, 1, 0, 2)), of(3, 0, 1, 0, 2, 1, 1, 2, 0))
	for _, r := range samples() {
		got := Normal(r)
		same(t, "Normal", r, got, tableOf(r).relation())
		same(t, "Normal of Normal", r, Normal(got), got)
	}
	for _, r := range invalid {
		zero(t, "Normal", r, Normal(r))
	}
}

func TestUnionAndCompose(t *testing.T) {
	same(t, "Union", "two pairs", must(t, "Union")(Union(of(4, 3, 1), of(4, 0, 2, 3, 1))), of(4, 0, 2, 3, 1))
	same(t, "Compose", "two pairs", must(t, "Compose")(Compose(of(4, 3, 1), of(4, 1, 2, 2, 0))), of(4, 3, 2))
	same(t, "Compose", "opposite pairs", must(t, "Compose")(Compose(of(4, 1, 2, 2, 0), of(4, 3, 1))), of(4))
	check := func(a, b api.Relation) {
		same(t, "Union", []api.Relation{a, b}, must(t, "Union")(Union(a, b)), union(a, b))
		same(t, "Compose", []api.Relation{a, b}, must(t, "Compose")(Compose(a, b)), compose(a, b))
	}
	for n := range 3 {
		for _, a := range everyRelation(n) {
			for _, b := range everyRelation(n) {
				check(a, b)
			}
		}
	}
	all := samples()
	for i, a := range all {
		for _, b := range all[max(0, i-8):i] {
			if a.N == b.N {
				check(a, b)
				check(b, a)
			}
		}
		check(a, a)
		check(a, of(a.N))
		check(of(a.N), a)
		check(a, ring(a.N))
	}
}

func TestUnionAndComposeOfOtherRelations(t *testing.T) {
	var wrong [][2]api.Relation
	for _, r := range invalid {
		wrong = append(wrong, [2]api.Relation{r, of(3, 0, 1)}, [2]api.Relation{of(3, 0, 1), r}, [2]api.Relation{r, r}, [2]api.Relation{r, of(r.N)}, [2]api.Relation{of(r.N), r}, [2]api.Relation{r, {}}, [2]api.Relation{{}, r})
	}
	for _, n := range [][2]int{{0, 1}, {1, 0}, {3, 4}, {4, 3}, {63, 64}, {64, 0}, {64, 65}} {
		wrong = append(wrong, [2]api.Relation{of(n[0]), of(n[1])})
	}
	wrong = append(wrong, [2]api.Relation{of(3, 0, 1), of(4, 0, 1)}, [2]api.Relation{of(4, 1, 2), of(3, 1, 2)})
	for _, pair := range wrong {
		if pair[0].N == pair[1].N && len(pair[0].Pairs)+len(pair[1].Pairs) == 0 && pair[0].N >= 0 && pair[0].N <= 64 {
			continue
		}
		got, err := Union(pair[0], pair[1])
		zero(t, "Union", pair, got)
		composed, composeErr := Compose(pair[0], pair[1])
		zero(t, "Compose", pair, composed)
		if err != api.ErrArg || composeErr != api.ErrArg {
			t.Errorf("the errors of %v are %d and %d, want ErrArg", pair, err, composeErr)
		}
	}
}

func TestInverse(t *testing.T) {
	same(t, "Inverse", "two pairs", Inverse(of(4, 3, 1, 0, 2, 0, 2)), of(4, 1, 3, 2, 0))
	for _, r := range samples() {
		same(t, "Inverse", r, Inverse(r), inverse(r))
	}
	for _, r := range invalid {
		zero(t, "Inverse", r, Inverse(r))
	}
}

func TestClosure(t *testing.T) {
	same(t, "Closure", "example 1", Closure(of(4, 0, 1, 1, 2, 0, 2)), of(4, 0, 1, 0, 2, 1, 2))
	same(t, "Closure", "a cycle", Closure(of(4, 2, 1, 1, 2, 0, 1)), of(4, 0, 1, 0, 2, 1, 1, 1, 2, 2, 1, 2, 2))
	same(t, "Closure", "the longest path", Closure(path(64)), each(64, func(a, b int) bool { return a < b }))
	same(t, "Closure", "the longest cycle", Closure(ring(64)), each(64, func(a, b int) bool { return true }))
	for _, r := range samples() {
		same(t, "Closure", r, Closure(r), closure(r))
	}
	for _, r := range invalid {
		zero(t, "Closure", r, Closure(r))
	}
}

func TestAcyclic(t *testing.T) {
	for _, r := range samples() {
		if got := Acyclic(r); got != acyclic(r) {
			t.Errorf("Acyclic(%v) = %v", r, got)
		}
	}
	for _, r := range invalid {
		if Acyclic(r) {
			t.Errorf("Acyclic(%v) is true", r)
		}
	}
}

func TestCycle(t *testing.T) {
	for _, c := range []struct {
		r    api.Relation
		want []int
	}{
		{of(4, 2, 1, 1, 2, 0, 1), []int{1, 2}},
		{of(4, 0, 1, 1, 2, 0, 2), nil},
		{of(0), nil}, {of(1), nil}, {of(64), nil}, {path(64), nil},
		{of(1, 0, 0), []int{0}},
		{of(5, 4, 4, 3, 3, 0, 1, 1, 0), []int{3}},
		{of(6, 4, 5, 5, 4, 2, 3, 3, 2, 1, 2), []int{2, 3}},
		{of(6, 0, 3, 3, 0, 2, 0, 0, 2), []int{0, 2}},
		{of(6, 2, 5, 5, 1, 1, 2, 0, 1), []int{1, 2, 5}},
		{of(6, 2, 1, 5, 2, 1, 5), []int{1, 5, 2}},
		{of(7, 0, 6, 6, 3, 3, 0, 6, 2, 2, 0), []int{0, 6, 2}},
		{of(7, 0, 1, 1, 2, 2, 3, 3, 0, 4, 6, 6, 4), []int{4, 6}},
		{of(7, 0, 1, 1, 2, 2, 0, 6, 5, 5, 4, 4, 6), []int{0, 1, 2}},
		{of(6, 0, 1, 1, 2, 2, 3, 3, 1), []int{1, 2, 3}},
		{of(64, 63, 62, 62, 63, 61, 61), []int{61}},
	} {
		if got, found := Cycle(c.r); !slices.Equal(got, c.want) || found != (c.want != nil) {
			t.Errorf("Cycle(%v) = %v, %v, want %v", c.r, got, found, c.want)
		}
	}
	if got, found := Cycle(ring(64)); !found || len(got) != 64 || !slices.IsSorted(got) {
		t.Errorf("Cycle of the longest cycle = %v, %v", got, found)
	}
	for _, r := range samples() {
		if r.N > 9 {
			checkCycle(t, r)
			continue
		}
		want := cycle(r)
		if got, found := Cycle(r); !slices.Equal(got, want) || found != (want != nil) {
			t.Errorf("Cycle(%v) = %v, %v, want %v", r, got, found, want)
		}
	}
	for _, r := range invalid {
		if got, found := Cycle(r); found || len(got) != 0 {
			t.Errorf("Cycle(%v) = %v, %v", r, got, found)
		}
	}
}

// checkCycle checks that the result for a large relation is a cycle, begins with its smallest element and is not longer than the powers of the relation allow.
func checkCycle(t *testing.T, r api.Relation) {
	t.Helper()
	got, found := Cycle(r)
	if found == acyclic(r) || found != (len(got) > 0) {
		t.Fatalf("Cycle(%v) = %v, %v", r, got, found)
	}
	if !found {
		return
	}
	m := tableOf(r)
	for i, a := range got {
		if !m[a][got[(i+1)%len(got)]] {
			t.Errorf("Cycle(%v) = %v, which is not a cycle", r, got)
		}
	}
	for power, length := m.relation(), 1; length <= len(got); power, length = compose(power, r), length+1 {
		first := slices.IndexFunc(power.Pairs, func(pair [2]int) bool { return pair[0] == pair[1] })
		if length == len(got) && power.Pairs[first][0] != got[0] || length < len(got) && first >= 0 {
			t.Errorf("Cycle(%v) = %v, but there is a smaller cycle of length %d", r, got, length)
		}
	}
}

func TestReduction(t *testing.T) {
	same(t, "Reduction", "example 1", must(t, "Reduction")(Reduction(of(4, 0, 1, 1, 2, 0, 2))), of(4, 0, 1, 1, 2))
	same(t, "Reduction", "a transitive relation", must(t, "Reduction")(Reduction(closure(path(64)))), path(64))
	same(t, "Reduction", "a reduced relation", must(t, "Reduction")(Reduction(of(4, 3, 2, 3, 1, 2, 0, 1, 0, 3, 1))), of(4, 1, 0, 2, 0, 3, 1, 3, 2))
	for _, r := range samples() {
		got, err := Reduction(r)
		if !acyclic(r) {
			zero(t, "Reduction", r, got)
			if err != api.ErrCycle {
				t.Errorf("Reduction(%v) returns the error %d, want ErrCycle", r, err)
			}
			continue
		}
		same(t, "Reduction", r, must(t, "Reduction")(got, err), reduction(r))
	}
	// Some of these have cycles as well, for which the second error would be returned.
	for _, r := range append(invalid, of(3, 0, 0, 3, 3), of(3, 0, 1, 1, 0, -1, 0), of(65, 0, 0), of(-1, 0, 0)) {
		got, err := Reduction(r)
		zero(t, "Reduction", r, got)
		if err != api.ErrArg {
			t.Errorf("Reduction(%v) returns the error %d, want ErrArg", r, err)
		}
	}
}

// TestReductionIsSmallest compares the reduction with all relations that have the same closure.
func TestReductionIsSmallest(t *testing.T) {
	for _, r := range everyRelation(3) {
		if !acyclic(r) {
			continue
		}
		got := must(t, "Reduction")(Reduction(r))
		for _, other := range everyRelation(3) {
			if slices.Equal(closure(other).Pairs, closure(r).Pairs) && !contained(got, other) {
				t.Errorf("Reduction(%v) = %v, but %v has the same closure", r, got, other)
			}
		}
	}
}

func TestClosureConsequences(t *testing.T) {
	for _, r := range samples() {
		c := Closure(r)
		if !contained(r, c) || !contained(compose(c, c), c) {
			t.Errorf("Closure(%v) = %v does not contain it or is not transitive", r, c)
		}
		same(t, "Closure of Closure", r, Closure(c), c)
		longer := must(t, "Compose")(Compose(r, c))
		same(t, "Union with the composition", r, must(t, "Union")(Union(r, longer)), c)
	}
	for n := range 4 {
		for _, transitive := range everyRelation(n) {
			if !contained(compose(transitive, transitive), transitive) {
				continue
			}
			for _, r := range everyRelation(n) {
				if contained(r, transitive) && !contained(Closure(r), transitive) {
					t.Errorf("Closure(%v) is not contained in %v", r, transitive)
				}
			}
		}
	}
}

func TestReductionConsequences(t *testing.T) {
	for _, r := range samples() {
		if !Acyclic(r) {
			continue
		}
		got := must(t, "Reduction")(Reduction(r))
		c := Closure(r)
		same(t, "Closure of Reduction", r, Closure(got), c)
		detours := tableOf(must(t, "Compose")(Compose(c, c)))
		for _, pair := range got.Pairs {
			if detours[pair[0]][pair[1]] {
				t.Errorf("Reduction(%v) has the pair %v of a longer path", r, pair)
			}
		}
	}
}

func TestInverseConsequences(t *testing.T) {
	all := samples()
	for i, a := range all {
		same(t, "Inverse of Inverse", a, Inverse(Inverse(a)), Normal(a))
		if Acyclic(Inverse(a)) != Acyclic(a) {
			t.Errorf("Acyclic of the inverse of %v is %v", a, !Acyclic(a))
		}
		for _, b := range append(all[max(0, i-5):i:i], ring(a.N)) {
			if a.N != b.N {
				continue
			}
			composed := must(t, "Compose")(Compose(a, b))
			same(t, "Inverse of Compose", []api.Relation{a, b}, Inverse(composed), must(t, "Compose")(Compose(Inverse(b), Inverse(a))))
		}
	}
}

// results returns the relations that the functions return for r.
func results(r api.Relation) []api.Relation {
	union, _ := Union(r, r)
	composed, _ := Compose(r, r)
	reduced, _ := Reduction(r)
	return []api.Relation{Normal(r), union, composed, Inverse(r), Closure(r), reduced}
}

// TestArgumentsUnchanged passes pairs with memory behind them, and overwrites the results.
func TestArgumentsUnchanged(t *testing.T) {
	for _, r := range append(samples(), invalid...) {
		if r.N > 9 {
			continue
		}
		padded := append(slices.Clone(r.Pairs), [2]int{77, 88}, [2]int{99, 66})
		before := slices.Clone(padded)
		passed := api.Relation{N: r.N, Pairs: padded[:len(r.Pairs)]}
		first := results(passed)
		Valid(passed)
		Has(passed, 0, 0)
		Acyclic(passed)
		cycle, _ := Cycle(passed)
		kept := slices.Clone(cycle)
		for _, got := range first {
			for i := range got.Pairs[:cap(got.Pairs)] {
				got.Pairs[:cap(got.Pairs)][i] = [2]int{-5, -5}
			}
		}
		if !slices.Equal(padded, before) || !slices.Equal(cycle, kept) {
			t.Fatalf("the pairs of %v have changed to %v", r, padded)
		}
		for i, got := range results(r) {
			same(t, "a result after others were overwritten", r, results(passed)[i], got)
		}
	}
}

// TestManyPairs passes more pairs than a relation has different ones.
func TestManyPairs(t *testing.T) {
	full := each(64, func(a, b int) bool { return true })
	var many [][2]int
	for range 100 {
		many = append(many, full.Pairs...)
	}
	r := api.Relation{N: 64, Pairs: many}
	for i, got := range results(r) {
		want := full
		if i == 5 {
			want = api.Relation{}
		}
		same(t, "a result", "many pairs", got, want)
	}
	if got, found := Cycle(r); !found || !slices.Equal(got, []int{0}) || Acyclic(r) {
		t.Errorf("Cycle of many pairs = %v, %v", got, found)
	}
}

func FuzzRelation(f *testing.F) {
	f.Add(4, []byte{0, 1, 1, 2, 0, 2})
	f.Add(4, []byte{2, 1, 1, 2, 0, 1})
	f.Add(-1, []byte{255, 0})
	f.Fuzz(func(t *testing.T, n int, data []byte) {
		r := api.Relation{N: n}
		for pair := range slices.Chunk(data, 2) {
			r.Pairs = append(r.Pairs, [2]int{int(int8(pair[0])), int(int8(pair[len(pair)-1]))})
		}
		if !Valid(r) {
			for _, got := range results(r) {
				zero(t, "a result", r, got)
			}
			return
		}
		same(t, "Closure", r, Closure(r), closure(r))
		if r.N < 6 {
			if got, _ := Cycle(r); !slices.Equal(got, cycle(r)) {
				t.Errorf("Cycle(%v) = %v", r, got)
			}
		}
		if reduced, err := Reduction(r); err == api.OK {
			same(t, "Reduction", r, reduced, reduction(r))
		}
	})
}
