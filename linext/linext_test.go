package linext

import (
	"fmt"
	"math"
	"slices"
	"testing"

	"modelcheck/api"
)

// of returns the relation with the given elements of pairs in turn; it need not be valid or acyclic.
func of(n int, elements ...int) api.Relation {
	r := api.Relation{N: n}
	for pair := range slices.Chunk(elements, 2) {
		r.Pairs = append(r.Pairs, [2]int{pair[0], pair[1]})
	}
	return r
}

// path returns the chain of the numbers up to n - 1.
func path(n int) api.Relation {
	r := api.Relation{N: n}
	for b := 1; b < n; b++ {
		r.Pairs = append(r.Pairs, [2]int{b - 1, b})
	}
	return r
}

// inSeries returns the relation in which the numbers of each part stand before those of the next one.
func inSeries(parts ...api.Relation) api.Relation {
	var all api.Relation
	for _, part := range parts {
		next := beside(all, part)
		for a := range all.N {
			for b := all.N; b < next.N; b++ {
				next.Pairs = append(next.Pairs, [2]int{a, b})
			}
		}
		all = next
	}
	return all
}

// beside returns the relation with the pairs of a and, for numbers from a.N on, those of b.
func beside(a, b api.Relation) api.Relation {
	both := api.Relation{N: a.N + b.N, Pairs: slices.Clone(a.Pairs)}
	for _, pair := range b.Pairs {
		both.Pairs = append(both.Pairs, [2]int{a.N + pair[0], a.N + pair[1]})
	}
	return both
}

// heap returns a relation on 2^k numbers that has 2^(2^k - 1) linear extensions: a number beside smaller heaps in series, whose extensions have 2^k places for it.
func heap(k int) api.Relation {
	below := of(1)
	for i := range k {
		below = inSeries(below, heap(i))
	}
	// The series begins with a number of its own, which stands for the one that is beside the heaps.
	rest := api.Relation{N: below.N}
	for _, pair := range below.Pairs {
		if pair[0] != 0 {
			rest.Pairs = append(rest.Pairs, pair)
		}
	}
	return rest
}

// largest returns a relation with 2^63 - 1 linear extensions: the parts have a prime factor each, 7 twice.
func largest() api.Relation {
	return inSeries(
		of(7, 0, 1, 1, 2, 0, 3, 2, 5, 2, 6, 3, 6),                                                                    // 49
		of(7, 0, 1, 1, 4, 2, 4, 0, 5, 2, 5, 1, 6, 3, 6, 5, 6),                                                        // 73
		of(8, 0, 1, 0, 2, 1, 4, 2, 4, 3, 4, 3, 5, 2, 6, 3, 6, 1, 7, 5, 7, 6, 7),                                      // 127
		of(8, 0, 1, 1, 4, 0, 5, 4, 5, 0, 6, 2, 6, 3, 6, 3, 7),                                                        // 337
		of(11, 0, 2, 1, 2, 4, 5, 2, 7, 4, 7, 6, 7, 1, 8, 5, 8, 1, 9, 3, 9, 4, 10, 6, 10),                             // 92737
		of(13, 0, 1, 0, 2, 1, 6, 1, 7, 2, 7, 0, 8, 3, 8, 5, 8, 7, 8, 7, 9, 4, 10, 1, 11, 4, 11, 5, 11, 5, 12, 9, 12), // 649657
	)
}

// everyRelation returns all relations on the numbers from 0 to n - 1, also those with cycles.
func everyRelation(n int) []api.Relation {
	var all []api.Relation
	for choice := range 1 << (n * n) {
		r := api.Relation{N: n}
		for i := range n * n {
			if choice>>i&1 == 1 {
				r.Pairs = append(r.Pairs, [2]int{i / n, i % n})
			}
		}
		all = append(all, r)
	}
	return all
}

// everyUpward returns all relations on the numbers from 0 to n - 1 whose pairs lead to a larger number.
func everyUpward(n int) []api.Relation {
	all := []api.Relation{{N: n}}
	for b := range n {
		for a := range b {
			for _, r := range all {
				all = append(all, api.Relation{N: n, Pairs: append(slices.Clone(r.Pairs), [2]int{a, b})})
			}
		}
	}
	return all
}

// renamed returns the acyclic relation in which the numbers of r have been exchanged in a way that depends on seed, with some pairs twice.
func renamed(r api.Relation, seed uint32) api.Relation {
	next := func(limit int) int {
		seed = seed*1664525 + 1013904223
		return int(seed>>8) % limit
	}
	names := make([]int, r.N)
	for i := range names {
		at := next(i + 1)
		names[i], names[at] = names[at], i
	}
	other := api.Relation{N: r.N}
	for _, pair := range r.Pairs {
		pair = [2]int{names[pair[0]], names[pair[1]]}
		other.Pairs = slices.Insert(other.Pairs, next(len(other.Pairs)+1), pair)
		if next(5) == 0 {
			other.Pairs = append(other.Pairs, pair)
		}
	}
	return other
}

// upward returns an acyclic relation with about one of every sparse pairs. Equal arguments give equal relations.
func upward(n, sparse int, seed uint32) api.Relation {
	r := api.Relation{N: n}
	for b := range n {
		for a := range b {
			seed = seed*1664525 + 1013904223
			if seed>>8%uint32(sparse) == 0 {
				r.Pairs = append(r.Pairs, [2]int{a, b})
			}
		}
	}
	return renamed(r, seed)
}

// upTo returns the numbers from 0 to n - 1.
func upTo(n int) []int {
	numbers := make([]int, n)
	for i := range numbers {
		numbers[i] = i
	}
	return numbers
}

// permutations returns the sequences that contain each number from 0 to n - 1 once, in lexicographic order.
func permutations(n int) [][]int {
	var all [][]int
	var extend func(sequence []int)
	extend = func(sequence []int) {
		if len(sequence) == n {
			all = append(all, slices.Clone(sequence))
		}
		for a := range n {
			if !slices.Contains(sequence, a) {
				extend(append(sequence, a))
			}
		}
	}
	extend(nil)
	return all
}

// respects reports whether the first element of each pair stands before the second one.
func respects(r api.Relation, sequence []int) bool {
	return !slices.ContainsFunc(r.Pairs, func(pair [2]int) bool {
		return slices.Index(sequence, pair[0]) >= slices.Index(sequence, pair[1])
	})
}

// extensions returns the linear extensions of a valid relation, from all permutations; a relation with a cycle has none.
func extensions(r api.Relation) [][]int {
	return slices.DeleteFunc(permutations(r.N), func(sequence []int) bool { return !respects(r, sequence) })
}

// downsets returns the number of downsets, from all sets.
func downsets(r api.Relation) int {
	number := 0
	for members := range 1 << r.N {
		if !slices.ContainsFunc(r.Pairs, func(pair [2]int) bool { return members>>pair[1]&1 == 1 && members>>pair[0]&1 == 0 }) {
			number++
		}
	}
	return number
}

// binomial returns the number of ways to choose k of n, from Pascal's triangle.
func binomial(n, k int) int {
	row := []int{1}
	for range n {
		next := make([]int, len(row)+1)
		for i, m := range row {
			next[i] += m
			next[i+1] += m
		}
		row = next
	}
	return row[k]
}

// factorial returns the number of permutations of n numbers.
func factorial(n int) int {
	product := 1
	for i := range n {
		product *= i + 1
	}
	return product
}

// last returns the lexicographically largest linear extension.
func last(r api.Relation) []int {
	var order []int
	for len(order) < r.N {
		a := r.N - 1
		for slices.Contains(order, a) || slices.ContainsFunc(r.Pairs, func(pair [2]int) bool { return pair[1] == a && !slices.Contains(order, pair[0]) }) {
			a--
		}
		order = append(order, a)
	}
	return order
}

// samples are acyclic relations with at most 7 numbers: all small ones, and ones with the pairs in no order and some of them twice.
func samples() []api.Relation {
	all := []api.Relation{
		{}, {Pairs: [][2]int{}}, {N: 1}, {N: 1, Pairs: [][2]int{}}, of(6), path(6), renamed(path(7), 3),
		of(3, 2, 0), of(3, 2, 0, 2, 0, 2, 0), of(4, 1, 2, 0, 2, 0, 1, 1, 2), of(4, 3, 2, 2, 1, 1, 0), of(6, 0, 2, 2, 4, 1, 3, 3, 5), of(6, 5, 4, 3, 2, 1, 0), heap(0), heap(1), heap(2),
		of(5, 0, 1, 1, 2, 2, 3, 3, 4, 0, 4), of(5, 4, 0, 4, 1, 4, 2, 4, 3), of(5, 0, 4, 1, 4, 2, 4, 3, 4),
	}
	for n := range 4 {
		for _, r := range everyRelation(n) {
			if len(extensions(r)) > 0 {
				all = append(all, r)
			}
		}
	}
	for n := range 6 {
		for i, r := range everyUpward(n) {
			if n < 5 || i%5 == 0 {
				all = append(all, r, renamed(r, uint32(i)))
			}
		}
	}
	for seed := range uint32(20) {
		all = append(all, upward(6, 3, seed), upward(7, 3, seed), upward(7, 5, seed))
	}
	return all
}

// cyclic are valid relations with a cycle.
func cyclic() []api.Relation {
	all := []api.Relation{
		of(64, 63, 63), of(64, 0, 63, 63, 0), inSeries(path(63), of(1, 0, 0)), of(17, 3, 3), of(20, 4, 5, 5, 4), of(5, 0, 1, 1, 2, 2, 3, 3, 4, 4, 1), of(4, 3, 2, 2, 1, 1, 3),
	}
	ring := path(64)
	ring.Pairs = append(ring.Pairs, [2]int{63, 0})
	all = append(all, ring)
	for n := range 4 {
		for _, r := range everyRelation(n) {
			if len(extensions(r)) == 0 {
				all = append(all, r)
			}
		}
	}
	return all
}

// invalid are relations that are not valid, by N and by each element of a pair. Some of them have cycles as well.
func invalid() []api.Relation {
	return []api.Relation{
		of(-1), of(-1, 0, 0), of(math.MinInt), of(api.MaxRelation + 1), of(api.MaxRelation+1, 0, 1), of(api.MaxRelation+1, 5, 5), of(math.MaxInt), of(1 << 32), of(1<<32+2, 0, 1),
		of(0, 0, 0), of(0, -1, -1), of(1, 0, 1), of(1, 1, 0), of(1, -1, 0), of(2, 0, 2), of(2, 2, 0), of(3, 0, 1, 1, 3), of(3, 3, 1, 0, 1), of(3, -1, 1), of(3, 1, -1),
		of(3, 0, 0, 3, 3), of(3, 0, 1, 1, 0, -1, 0), of(17, 0, 17), of(64, 0, 64), of(64, 64, 0), of(3, math.MinInt, 0), of(3, 0, math.MinInt), of(3, math.MaxInt, 0), of(3, 0, math.MaxInt), of(3, 1<<32, 1), of(3, 1, 1<<32),
	}
}

// same reports a result that is not the wanted one. Nil and empty slices are the same.
func same(t *testing.T, what string, arguments, got, want any) {
	t.Helper()
	if a, b := fmt.Sprint(got), fmt.Sprint(want); a != b {
		t.Errorf("%s of %v = %.300s, want %.300s", what, arguments, a, b)
	}
}

// results is the list of the results of a call.
func results[T any](result T, err api.Errno) []any {
	return []any{result, err}
}

func TestExamples(t *testing.T) {
	r := of(3, 2, 0)
	same(t, "First", r, results(First(r)), "[[1 2 0] 0]")
	same(t, "All", r, results(All(r, 3)), "[[[1 2 0] [2 0 1] [2 1 0]] 0]")
	same(t, "Downsets", r, results(Downsets(r)), "[6 0]")
	same(t, "Count", r, results(Count(r)), "[3 0]")
	same(t, "Rank", r, results(Rank(r, []int{2, 0, 1})), "[1 0]")
	same(t, "Nth", r, results(Nth(r, 1)), "[[2 0 1] 0]")
	same(t, "Count", 17, results(Count(of(17))), results(0, api.ErrLimit))
	same(t, "Downsets", 17, results(Downsets(of(17))), results(0, api.ErrLimit))
}

// TestNoNumbers checks the relation whose only linear extension is the empty sequence.
func TestNoNumbers(t *testing.T) {
	for _, r := range []api.Relation{{}, {Pairs: [][2]int{}}} {
		if !Is(r, nil) || !Is(r, []int{}) || Is(r, []int{0}) {
			t.Error("Is of no numbers")
		}
		same(t, "First", r, results(First(r)), "[[] 0]")
		same(t, "All", r, results(All(r, 1)), "[[[]] 0]")
		same(t, "Count", r, results(Count(r)), "[1 0]")
		same(t, "Downsets", r, results(Downsets(r)), "[1 0]")
		same(t, "Rank", r, results(Rank(r, nil)), "[0 0]")
		same(t, "Rank", r, results(Rank(r, []int{0})), results(0, api.ErrNone))
		same(t, "Nth", r, results(Nth(r, 0)), "[[] 0]")
		same(t, "Nth", r, results(Nth(r, 1)), results([]int(nil), api.ErrRange))
	}
}

// wrongOrders returns sequences that are no permutation of the numbers up to n - 1: a number is missing, occurs twice or is out of range.
func wrongOrders(n int) [][]int {
	order := upTo(n)
	wrong := [][]int{append(slices.Clone(order), n), append(slices.Clone(order), -1), append(slices.Clone(order), 0), append([]int{0}, order...)}
	for i := range order {
		wrong = append(wrong, order[:i], order[i+1:], slices.Delete(slices.Clone(order), i, i+1))
		for _, a := range []int{-1, n, n + 1, (i + 1) % max(n, 2), 63, 64, 65, -64, 64 + i, i - 64, 1<<32 + i, math.MinInt, math.MaxInt} {
			changed := slices.Clone(order)
			changed[i] = a
			wrong = append(wrong, changed)
		}
	}
	return wrong
}

func TestIs(t *testing.T) {
	for _, r := range samples() {
		for _, order := range permutations(min(r.N, 6)) {
			if r.N < 7 && Is(r, order) != respects(r, order) {
				t.Errorf("Is(%v, %v) is %v", r, order, !respects(r, order))
			}
		}
		for _, order := range wrongOrders(r.N) {
			if Is(r, order) {
				t.Errorf("Is(%v, %v) is true", r, order)
			}
		}
	}
	for _, r := range append(cyclic(), invalid()...) {
		orders := [][]int{nil, {}, {0}, {1, 0}, {-1}, {0, 1, 2}}
		if r.N >= 0 && r.N < 5 {
			orders = append(orders, permutations(r.N)...)
		}
		if r.N > 0 && r.N < 99 {
			orders = append(orders, make([]int, r.N), upTo(r.N))
		}
		for _, order := range orders {
			if Is(r, order) {
				t.Errorf("Is(%v, %v) is true", r, order)
			}
		}
	}
	order := upTo(64)
	backwards := slices.Clone(order)
	slices.Reverse(backwards)
	if !Is(path(64), order) || !Is(of(64), order) || !Is(of(64), backwards) || Is(path(64), backwards) || !Is(of(64, 63, 0), backwards) || Is(of(64, 63, 0), order) {
		t.Error("Is of the largest N")
	}
}

func TestFirst(t *testing.T) {
	for _, r := range samples() {
		same(t, "First", r, results(First(r)), results(extensions(r)[0], api.OK))
	}
	same(t, "First", "the largest chain", results(First(path(64))), results(upTo(64), api.OK))
	same(t, "First", "no pairs", results(First(of(64))), results(upTo(64), api.OK))
	same(t, "First", "one pair", results(First(of(64, 63, 0))), results(append(upTo(64)[1:], 0), api.OK))
}

func TestAll(t *testing.T) {
	for _, r := range samples() {
		want := extensions(r)
		for _, limit := range []int{len(want), len(want) + 1, api.MaxRuns} {
			same(t, "All", r, results(All(r, limit)), results(want, api.OK))
		}
		for _, limit := range []int{len(want) - 1, len(want) / 2, 1} {
			if limit > 0 && limit < len(want) {
				same(t, "All", r, results(All(r, limit)), results([][]int{}, api.ErrLimit))
			}
		}
		for _, limit := range []int{0, -1, math.MinInt, api.MaxRuns + 1, math.MaxInt, 1<<32 + 1} {
			same(t, "All", r, results(All(r, limit)), results([][]int{}, api.ErrRange))
		}
	}
	same(t, "All", "the largest chain", results(All(path(64), 1)), results([][]int{upTo(64)}, api.OK))
	for _, n := range []int{10, 17, 64} {
		same(t, "All", n, results(All(of(n), api.MaxRuns)), results([][]int{}, api.ErrLimit))
	}
}

// TestAllUpToLargestLimit checks a relation with exactly MaxRuns linear extensions, of 24 numbers.
func TestAllUpToLargestLimit(t *testing.T) {
	r := inSeries(heap(4), heap(2), heap(1), heap(1))
	all, err := All(r, api.MaxRuns)
	if len(all) != api.MaxRuns || err != api.OK || !slices.IsSortedFunc(all, slices.Compare) {
		t.Fatalf("All returns %d extensions and the error %d", len(all), err)
	}
	for i := range all {
		if i > 0 && slices.Equal(all[i-1], all[i]) || i%1000 == 0 && !Is(r, all[i]) {
			t.Fatalf("All returns %v", all[i])
		}
	}
	same(t, "All", "one more than the limit", results(All(r, api.MaxRuns-1)), results([][]int{}, api.ErrLimit))
	same(t, "All", "twice the limit", results(All(inSeries(r, heap(1)), api.MaxRuns)), results([][]int{}, api.ErrLimit))
}

func TestCountAndDownsets(t *testing.T) {
	for _, r := range samples() {
		same(t, "Count", r, results(Count(r)), results(len(extensions(r)), api.OK))
		same(t, "Downsets", r, results(Downsets(r)), results(downsets(r), api.OK))
	}
	for n := range 17 {
		same(t, "Count", n, results(Count(of(n))), results(factorial(n), api.OK))
		same(t, "Downsets", n, results(Downsets(of(n))), results(1<<n, api.OK))
	}
	for seed := range uint32(10) {
		r := upward(11, 6, seed)
		same(t, "Downsets", r, results(Downsets(r)), results(downsets(r), api.OK))
	}
	for k := range 6 {
		same(t, "Count", k, results(Count(heap(k))), results(1<<(1<<k-1), api.OK))
	}
	same(t, "Downsets", "the largest chain", results(Downsets(path(64))), "[65 0]")
	same(t, "Count", "the largest chain", results(Count(path(64))), "[1 0]")
	same(t, "Downsets", "half of the limit and a half", results(Downsets(inSeries(of(15), of(15)))), "[65535 0]")
}

// limited are relations with too many downsets, or too many linear extensions.
func limited() (tooManyDownsets, tooManyExtensions []api.Relation) {
	tooManyDownsets = []api.Relation{of(17), of(64), of(64, 0, 63), of(18, 0, 1), inSeries(of(16), of(1)), inSeries(of(1), of(16)), inSeries(of(15), of(15), of(1), of(1)), beside(of(15), path(2)), renamed(inSeries(of(16), path(40)), 1)}
	tooManyExtensions = []api.Relation{heap(6), renamed(heap(6), 5), inSeries(of(10), of(15), of(2)), beside(beside(path(21), path(21)), path(22)), beside(largest(), of(1)), inSeries(largest(), of(2)), inSeries(of(14), of(14))}
	return tooManyDownsets, tooManyExtensions
}

func TestLimits(t *testing.T) {
	tooManyDownsets, tooManyExtensions := limited()
	for _, r := range tooManyDownsets {
		same(t, "Downsets", r, results(Downsets(r)), results(0, api.ErrLimit))
	}
	for _, r := range tooManyExtensions {
		if got, err := Downsets(r); got < r.N || err != api.OK {
			t.Errorf("Downsets(%v) = %d, %d", r, got, err)
		}
	}
	for _, r := range append(tooManyDownsets, tooManyExtensions...) {
		order, err := First(r)
		if err != api.OK || !Is(r, order) {
			t.Errorf("First(%v) = %v, %d", r, order, err)
		}
		same(t, "Count", r, results(Count(r)), results(0, api.ErrLimit))
		same(t, "Rank", r, results(Rank(r, order)), results(0, api.ErrLimit))
		same(t, "Rank", r, results(Rank(r, order[1:])), results(0, api.ErrNone))
		for _, rank := range []int{0, 1, -1, math.MaxInt, math.MinInt} {
			same(t, "Nth", r, results(Nth(r, rank)), results([]int{}, api.ErrLimit))
		}
	}
}

// TestLargestNumbers checks the relations at the limits of Downsets and Count.
func TestLargestNumbers(t *testing.T) {
	same(t, "Downsets", 16, results(Downsets(of(16))), results(1<<16, api.OK))
	same(t, "Downsets", "a series", results(Downsets(inSeries(of(15), of(15), of(1)))), results(1<<16, api.OK))
	same(t, "Downsets", "a heap", results(Downsets(heap(6))), results(730, api.OK))
	same(t, "Count", "the largest number", results(Count(largest())), results(math.MaxInt, api.OK))
	same(t, "Count", "a series", results(Count(inSeries(of(10), of(15)))), results(factorial(10)*factorial(15), api.OK))
	for _, r := range []api.Relation{largest(), renamed(largest(), 9), beside(path(32), path(32)), of(16), heap(5)} {
		checkRanks(t, r)
	}
}

// checkRanks checks ranks throughout the range, with the first and the last one.
func checkRanks(t *testing.T, r api.Relation) {
	t.Helper()
	count, err := Count(r)
	if err != api.OK {
		t.Fatalf("Count(%v) returns the error %d", r, err)
	}
	var previous []int
	ranks := []int{0, 1, 2, count / 1000, count / 3, count/2 - 1, count / 2, count - 1 - count/7, count - 2, count - 1}
	slices.Sort(ranks)
	for _, rank := range slices.Compact(ranks) {
		if rank < 0 || rank >= count {
			continue
		}
		order, err := Nth(r, rank)
		if err != api.OK || !Is(r, order) || slices.Compare(previous, order) >= 0 {
			t.Errorf("Nth(%v, %d) = %v, %d", r, rank, order, err)
		}
		same(t, "Rank", order, results(Rank(r, order)), results(rank, api.OK))
		previous = order
	}
	first, _ := First(r)
	same(t, "Nth", 0, results(Nth(r, 0)), results(first, api.OK))
	same(t, "Nth", count-1, results(Nth(r, count-1)), results(last(r), api.OK))
	for _, rank := range []int{-1, math.MinInt, count, math.MaxInt} {
		same(t, "Nth", rank, results(Nth(r, rank)), results([]int{}, api.ErrRange))
	}
}

func TestRankAndNth(t *testing.T) {
	for _, r := range samples() {
		all := extensions(r)
		for rank, order := range all {
			same(t, "Rank", r, results(Rank(r, order)), results(rank, api.OK))
			same(t, "Nth", r, results(Nth(r, rank)), results(order, api.OK))
		}
		for _, rank := range []int{-1, -2, math.MinInt, len(all), len(all) + 1, math.MaxInt, 1 << 32, -1 << 32} {
			same(t, "Nth", r, results(Nth(r, rank)), results([]int{}, api.ErrRange))
		}
		for _, order := range wrongOrders(r.N) {
			same(t, "Rank", order, results(Rank(r, order)), results(0, api.ErrNone))
		}
		for _, order := range permutations(min(r.N, 5)) {
			if r.N <= 5 && !respects(r, order) {
				same(t, "Rank", order, results(Rank(r, order)), results(0, api.ErrNone))
			}
		}
	}
	same(t, "Rank", "the largest chain", results(Rank(path(64), upTo(64))), "[0 0]")
	same(t, "Nth", "the largest chain", results(Nth(path(64), 0)), results(upTo(64), api.OK))
}

// TestErrors checks the errors of relations that are not valid or have a cycle; other arguments are wrong as well, which would be reported later.
func TestErrors(t *testing.T) {
	check := func(r api.Relation, want api.Errno) {
		t.Helper()
		same(t, "First", r, results(First(r)), results([]int{}, want))
		same(t, "Count", r, results(Count(r)), results(0, want))
		same(t, "Downsets", r, results(Downsets(r)), results(0, want))
		for _, n := range []int{0, 1, -1, api.MaxRuns, api.MaxRuns + 1, math.MaxInt} {
			same(t, "All", r, results(All(r, n)), results([][]int{}, want))
			same(t, "Nth", r, results(Nth(r, n)), results([]int{}, want))
		}
		for _, order := range [][]int{nil, {0}, {0, 1, 2}, {2, 1, 0}, {-1}, {0, 0}, upTo(64), upTo(17)} {
			same(t, "Rank", r, results(Rank(r, order)), results(0, want))
		}
	}
	for _, r := range invalid() {
		check(r, api.ErrArg)
	}
	for _, r := range cyclic() {
		check(r, api.ErrCycle)
	}
	for n := -70; n <= 70; n++ {
		want := api.ErrArg
		if n >= 0 && n <= 64 {
			want = api.OK
		}
		if _, err := First(of(n)); err != want {
			t.Errorf("First with N = %d returns the error %d", n, err)
		}
	}
	same(t, "All", "the limit and too many extensions", results(All(of(17), 0)), results([][]int{}, api.ErrRange))
}

// TestRanks checks that Rank and Nth are inverse to each other and agree with the other functions.
func TestRanks(t *testing.T) {
	for seed := range uint32(12) {
		r := upward(int(8+seed%2), int(2+seed%5), seed)
		all, err := All(r, api.MaxRuns)
		if err != api.OK {
			t.Fatalf("All(%v) returns the error %d", r, err)
		}
		same(t, "Count", r, results(Count(r)), results(len(all), api.OK))
		same(t, "First", r, results(First(r)), results(all[0], api.OK))
		same(t, "the last of All", r, all[len(all)-1], last(r))
		for i := 0; i < len(all); i += 1 + len(all)/50 {
			same(t, "Rank", r, results(Rank(r, all[i])), results(i, api.OK))
			same(t, "Nth", r, results(Nth(r, i)), results(all[i], api.OK))
		}
		checkRanks(t, r)
	}
}

func TestChains(t *testing.T) {
	for a := range 65 {
		for b := range 65 - a {
			if a > 6 && b > 6 && (a+b)%9 > 1 && a != b {
				continue
			}
			for _, r := range []api.Relation{beside(path(a), path(b)), renamed(beside(path(a), path(b)), uint32(a+64*b))} {
				same(t, "Downsets of the chains", []int{a, b}, results(Downsets(r)), results((a+1)*(b+1), api.OK))
				same(t, "Count of the chains", []int{a, b}, results(Count(r)), results(binomial(a+b, a), api.OK))
			}
		}
	}
}

// TestAdditionalPairs checks that a pair that is added increases neither Count nor Downsets.
func TestAdditionalPairs(t *testing.T) {
	for _, r := range append(samples(), upward(16, 9, 1), upward(14, 4, 2), of(16)) {
		count, _ := Count(r)
		sets, _ := Downsets(r)
		for a := range r.N {
			more := api.Relation{N: r.N, Pairs: append(slices.Clone(r.Pairs), [2]int{a, (a*a + 3) % r.N})}
			moreCount, err := Count(more)
			moreSets, _ := Downsets(more)
			if err != api.ErrCycle && (moreCount > count || moreCount < 1 || moreSets > sets || moreSets < r.N+1) {
				t.Errorf("Count(%v) = %d and Downsets is %d, after %d and %d", more, moreCount, moreSets, count, sets)
			}
		}
	}
}

// TestArgumentsUnchanged passes slices with memory behind them, overwrites the results and calls the functions again.
func TestArgumentsUnchanged(t *testing.T) {
	for _, r := range append(samples(), cyclic()...) {
		pairs := append(slices.Clone(r.Pairs), [2]int{77, 88}, [2]int{99, 66})
		numbers := append(upTo(r.N), 55, 44)
		pairsBefore, numbersBefore := slices.Clone(pairs), slices.Clone(numbers)
		passed, order := api.Relation{N: r.N, Pairs: pairs[:len(r.Pairs)]}, numbers[:r.N]
		var previous string
		for range 2 {
			first, firstErr := First(passed)
			all, allErr := All(passed, 50)
			nth, nthErr := Nth(passed, 1)
			got := fmt.Sprint(first, firstErr, all, allErr, nth, nthErr, Is(passed, order), results(Count(passed)), results(Downsets(passed)), results(Rank(passed, order)))
			if previous != "" && got != previous {
				t.Fatalf("the results for %v have changed from %s to %s", r, previous, got)
			}
			previous = got
			for _, slice := range append(all, first, nth) {
				overwrite(slice)
			}
		}
		if !slices.Equal(pairs, pairsBefore) || !slices.Equal(numbers, numbersBefore) {
			t.Fatalf("the arguments %v have changed to %v and %v", r, pairs, numbers)
		}
	}
}

// overwrite changes the elements of a slice and the memory behind them.
func overwrite(slice []int) {
	for i := range slice[:cap(slice)] {
		slice[:cap(slice)][i] = -5
	}
}

// TestResultsShareNothing overwrites the extensions one by one.
func TestResultsShareNothing(t *testing.T) {
	for n := range 6 {
		want := permutations(n)
		all, _ := All(of(n), api.MaxRuns)
		for i, extension := range all {
			same(t, "an extension after others were overwritten", n, extension, want[i])
			overwrite(extension)
		}
	}
}

// TestManyPairs passes each pair many times.
func TestManyPairs(t *testing.T) {
	chain := inSeries(slices.Repeat([]api.Relation{of(1)}, 64)...)
	r := api.Relation{N: 64, Pairs: slices.Repeat(chain.Pairs, 100)}
	same(t, "All", "many pairs", results(All(r, 1)), results([][]int{upTo(64)}, api.OK))
	same(t, "Downsets", "many pairs", results(Downsets(r)), "[65 0]")
	same(t, "Count", "many pairs", results(Count(r)), "[1 0]")
}

// TestAdd checks the sums next to the largest number.
func TestAdd(t *testing.T) {
	for _, c := range [][3]int{
		{0, 0, 0}, {2, 3, 5}, {0, math.MaxInt, math.MaxInt}, {math.MaxInt, 0, math.MaxInt}, {math.MaxInt - 1, 1, math.MaxInt}, {1 << 62, 1<<62 - 1, math.MaxInt},
		{1, math.MaxInt, tooMany}, {math.MaxInt, 1, tooMany}, {1 << 62, 1 << 62, tooMany}, {math.MaxInt, math.MaxInt, tooMany}, {tooMany, 0, tooMany}, {0, tooMany, tooMany}, {tooMany, tooMany, tooMany}, {tooMany, 9, tooMany}, {9, tooMany, tooMany},
	} {
		same(t, "add", c[:2], add(c[0], c[1]), c[2])
	}
}

func FuzzLinext(f *testing.F) {
	f.Add(3, []byte{2, 0}, []byte{2, 0, 1}, 1)
	f.Add(17, []byte{}, []byte{0}, 0)
	f.Add(-1, []byte{255, 0}, []byte{255}, -1)
	f.Fuzz(func(t *testing.T, n int, data []byte, sequence []byte, number int) {
		r := api.Relation{N: n}
		for pair := range slices.Chunk(data, 2) {
			r.Pairs = append(r.Pairs, [2]int{int(int8(pair[0])), int(int8(pair[len(pair)-1]))})
		}
		var order []int
		for _, a := range sequence {
			order = append(order, int(int8(a)))
		}
		first, err := First(r)
		if Is(r, first) != (err == api.OK) || err == api.OK && Is(r, order) && slices.Compare(first, order) > 0 {
			t.Errorf("First(%v) = %v, %d", r, first, err)
		}
		if rank, err := Rank(r, order); (err == api.OK || err == api.ErrLimit) != Is(r, order) || err == api.OK {
			same(t, "Nth", r, results(Nth(r, rank)), results(order, api.OK))
		}
		if nth, err := Nth(r, number); err == api.OK {
			same(t, "Rank", r, results(Rank(r, nth)), results(number, api.OK))
		}
		count, err := Count(r)
		if all, allErr := All(r, 1000); allErr == api.OK && err == api.OK && len(all) != count {
			t.Errorf("All(%v) has %d extensions, Count is %d", r, len(all), count)
		}
	})
}
