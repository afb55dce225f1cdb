package intset

import (
	"math"
	"slices"
	"testing"

	"modelcheck/api"
)

// lists are slices of all shapes: nil and empty, one element, sorted, unsorted, with duplicates, and with the smallest and largest integers.
var lists = [][]int{
	nil, {}, {0}, {7}, {-7}, {0, 0}, {7, 7, 7}, {1, 2}, {2, 1}, {1, 2, 3}, {3, 2, 1}, {3, 1, 3}, {1, 1, 2, 2}, {2, 2, 1, 1},
	{-1, 0, 1}, {1, -1, 0, -1}, {5, 4, 3, 2, 1, 0, -1, -2}, {10, 9, 2, 33, 4},
	{math.MaxInt, math.MinInt}, {math.MinInt, math.MaxInt}, {math.MinInt, math.MinInt}, {math.MaxInt, 0, math.MinInt, 0, math.MaxInt},
	{1 << 32, 0, 1, 1<<32 + 1}, {api.MaxValue, api.MinValue, 1 << 31, -1<<31 - 1},
	{0, 1, 2, 3, 4, 5, 6, 7, 8, 9, 10, 11}, {12, 11, 10, 9, 8, 7, 6, 5, 4, 3, 2, 1, 0},
}

// numbers are elements of the lists and integers beside them.
var numbers = []int{
	0, 1, -1, 2, -2, 3, 4, 5, 6, 7, -7, 8, 9, 10, 11, 12, 13, 33, 34,
	math.MaxInt, math.MaxInt - 1, math.MinInt, math.MinInt + 1,
	api.MaxValue, api.MinValue, 1 << 31, -1<<31 - 1, 1 << 32, 1<<32 + 1, 1<<32 + 2,
}

// smallLists returns all slices with at most three elements from 0 to 2.
func smallLists() [][]int {
	all := [][]int{nil}
	for i := 0; i < len(all); i++ {
		if len(all[i]) < 3 {
			for n := range 3 {
				all = append(all, append(slices.Clone(all[i]), n))
			}
		}
	}
	return all
}

// members is the set that a list represents.
func members(l []int) map[int]bool {
	m := map[int]bool{}
	for _, n := range l {
		m[n] = true
	}
	return m
}

// selected returns, in increasing order, the elements of a or b that want holds for. It inserts each at its place, without the functions under test.
func selected(a, b []int, want func(inA, inB bool) bool) []int {
	inA, inB := members(a), members(b)
	var l []int
	for _, n := range slices.Concat(a, b) {
		at := 0
		for at < len(l) && l[at] < n {
			at++
		}
		if want(inA[n], inB[n]) && (at == len(l) || l[at] != n) {
			l = slices.Insert(l, at, n)
		}
	}
	return l
}

func either(inA, inB bool) bool { return inA || inB }
func both(inA, inB bool) bool   { return inA && inB }
func first(inA, inB bool) bool  { return inA && !inB }

// same reports whether two lists are equal element by element; nil and empty ones are.
func same(t *testing.T, what string, got, want []int) {
	t.Helper()
	if !slices.Equal(got, want) {
		t.Errorf("%s = %v, want %v", what, got, want)
	}
}

func TestMake(t *testing.T) {
	for _, x := range []struct{ l, want []int }{
		{nil, nil}, {[]int{}, nil}, {[]int{4}, []int{4}}, {[]int{4, 4}, []int{4}},
		{[]int{3, 1, 3}, []int{1, 3}}, {[]int{1, 2, 3}, []int{1, 2, 3}}, {[]int{3, 2, 1}, []int{1, 2, 3}},
		{[]int{0, -1, 5, -1, 0}, []int{-1, 0, 5}}, {[]int{10, 9, 100}, []int{9, 10, 100}},
		{[]int{math.MaxInt, math.MinInt, 0}, []int{math.MinInt, 0, math.MaxInt}},
		{[]int{1 << 32, 0, 1}, []int{0, 1, 1 << 32}},
	} {
		same(t, "Make", Make(x.l), x.want)
	}
	for _, l := range append(smallLists(), lists...) {
		same(t, "Make", Make(l), selected(l, nil, either))
	}
}

func TestMakeLarge(t *testing.T) {
	var l []int
	for i := range 100000 {
		// 7919 and 100000 have no common divisor, so that every number occurs once among the first.
		l = append(l, i*7919%100000, i%10)
	}
	s := Make(l)
	if len(s) != 100000 || s[0] != 0 || s[99999] != 99999 || !Valid(s) {
		t.Errorf("Make returns %d elements", len(s))
	}
	if !Has(s, 99999) || Has(s, 100000) || !Subset(l, s) || !Subset(s, l) || Subset(s, s[1:]) {
		t.Error("Has or Subset of a large set")
	}
}

func TestValid(t *testing.T) {
	for _, s := range [][]int{
		nil, {}, {0}, {-5}, {1, 2}, {-2, -1, 0}, {1, 3, 5, 7}, {math.MinInt, math.MaxInt}, {math.MinInt, 0, math.MaxInt}, {0, 1 << 32},
	} {
		if !Valid(s) {
			t.Errorf("Valid(%v) is false", s)
		}
	}
	for _, s := range [][]int{
		{1, 1}, {2, 1}, {0, 0, 1}, {0, 1, 1}, {1, 2, 2, 3}, {3, 1, 2}, {1, 3, 2}, {math.MaxInt, math.MinInt}, {math.MinInt, math.MinInt}, {1 << 32, 0},
	} {
		if Valid(s) {
			t.Errorf("Valid(%v) is true", s)
		}
	}
	for _, l := range append(smallLists(), lists...) {
		if got, want := Valid(l), slices.Equal(l, selected(l, nil, either)); got != want {
			t.Errorf("Valid(%v) = %t", l, got)
		}
	}
}

func TestHas(t *testing.T) {
	for _, x := range []struct {
		s    []int
		n    int
		want bool
	}{
		{nil, 0, false}, {[]int{}, 0, false}, {[]int{0}, 0, true}, {[]int{1}, 0, false}, {[]int{1, 2, 3}, 3, true},
		{[]int{9, 1, 5}, 9, true}, {[]int{9, 1, 5}, 5, true}, {[]int{9, 1, 5}, 4, false}, {[]int{2, 2, 2}, 2, true},
		{[]int{5, 4, 3, 2, 1}, 1, true}, {[]int{5, 4, 3, 2, 1}, 5, true}, {[]int{1 << 32}, 0, false}, {[]int{math.MaxInt, math.MinInt}, math.MinInt, true},
	} {
		if got := Has(x.s, x.n); got != x.want {
			t.Errorf("Has(%v, %d) = %t", x.s, x.n, got)
		}
	}
	for _, l := range append(smallLists(), lists...) {
		for _, n := range numbers {
			if got := Has(l, n); got != members(l)[n] {
				t.Errorf("Has(%v, %d) = %t", l, n, got)
			}
		}
	}
}

func TestAddAndRemove(t *testing.T) {
	same(t, "Add(nil, 3)", Add(nil, 3), []int{3})
	same(t, "Add([], 3)", Add([]int{}, 3), []int{3})
	same(t, "Add([3], 3)", Add([]int{3}, 3), []int{3})
	same(t, "Add([5 1 5], 3)", Add([]int{5, 1, 5}, 3), []int{1, 3, 5})
	same(t, "Add([5 1 5], 5)", Add([]int{5, 1, 5}, 5), []int{1, 5})
	same(t, "Add([1], min)", Add([]int{1}, math.MinInt), []int{math.MinInt, 1})
	same(t, "Add([1], max)", Add([]int{1}, math.MaxInt), []int{1, math.MaxInt})
	same(t, "Remove(nil, 3)", Remove(nil, 3), nil)
	same(t, "Remove([], 3)", Remove([]int{}, 3), nil)
	same(t, "Remove([3], 3)", Remove([]int{3}, 3), nil)
	same(t, "Remove([3 3], 3)", Remove([]int{3, 3}, 3), nil)
	same(t, "Remove([5 3 1 3], 3)", Remove([]int{5, 3, 1, 3}, 3), []int{1, 5})
	same(t, "Remove([5 1 5], 4)", Remove([]int{5, 1, 5}, 4), []int{1, 5})
	for _, l := range append(smallLists(), lists...) {
		for _, n := range numbers {
			same(t, "Add", Add(l, n), selected(l, []int{n}, either))
			same(t, "Remove", Remove(l, n), selected(l, []int{n}, first))
		}
	}
}

func TestUnionIntersectMinus(t *testing.T) {
	for _, x := range []struct{ a, b, union, intersect, minus []int }{
		{nil, nil, nil, nil, nil},
		{nil, []int{}, nil, nil, nil},
		{[]int{2, 1}, nil, []int{1, 2}, nil, []int{1, 2}},
		{nil, []int{2, 1}, []int{1, 2}, nil, nil},
		{[]int{1, 2, 3}, []int{2}, []int{1, 2, 3}, []int{2}, []int{1, 3}},
		{[]int{2}, []int{1, 2, 3}, []int{1, 2, 3}, []int{2}, nil},
		{[]int{5, 3, 5}, []int{4, 3, 3}, []int{3, 4, 5}, []int{3}, []int{5}},
		{[]int{1, 3, 5}, []int{2, 4, 6}, []int{1, 2, 3, 4, 5, 6}, nil, []int{1, 3, 5}},
		{[]int{3, 3}, []int{3, 3, 3}, []int{3}, []int{3}, nil},
		{[]int{math.MaxInt, math.MinInt}, []int{0, math.MaxInt}, []int{math.MinInt, 0, math.MaxInt}, []int{math.MaxInt}, []int{math.MinInt}},
	} {
		same(t, "Union", Union(x.a, x.b), x.union)
		same(t, "Intersect", Intersect(x.a, x.b), x.intersect)
		same(t, "Minus", Minus(x.a, x.b), x.minus)
	}
	for _, l := range [][][]int{smallLists(), lists} {
		for _, a := range l {
			for _, b := range l {
				same(t, "Union", Union(a, b), selected(a, b, either))
				same(t, "Intersect", Intersect(a, b), selected(a, b, both))
				same(t, "Minus", Minus(a, b), selected(a, b, first))
			}
		}
	}
}

func TestSubset(t *testing.T) {
	for _, x := range []struct {
		a, b []int
		want bool
	}{
		{nil, nil, true}, {nil, []int{}, true}, {[]int{}, nil, true}, {nil, []int{1}, true}, {[]int{1}, nil, false},
		{[]int{1, 1}, []int{1}, true}, {[]int{3, 1}, []int{1, 2, 3}, true}, {[]int{3, 4}, []int{1, 2, 3}, false},
		{[]int{0, 1}, []int{1, 2, 3}, false}, {[]int{1, 2, 3}, []int{3, 2, 1}, true}, {[]int{1, 2, 3}, []int{3, 1}, false},
		{[]int{1 << 32}, []int{0}, false}, {[]int{math.MinInt}, []int{math.MaxInt, math.MinInt}, true},
	} {
		if got := Subset(x.a, x.b); got != x.want {
			t.Errorf("Subset(%v, %v) = %t", x.a, x.b, got)
		}
	}
	for _, l := range [][][]int{smallLists(), lists} {
		for _, a := range l {
			for _, b := range l {
				if got, want := Subset(a, b), len(selected(a, b, first)) == 0; got != want {
					t.Errorf("Subset(%v, %v) = %t", a, b, got)
				}
			}
		}
	}
}

func subsets(t *testing.T, s []int) [][]int {
	t.Helper()
	all, e := Subsets(s)
	if e != api.OK {
		t.Fatalf("Subsets(%v): error %d", s, e)
	}
	return all
}

func TestSubsets(t *testing.T) {
	for _, x := range []struct {
		s    []int
		want [][]int
	}{
		{nil, [][]int{{}}},
		{[]int{}, [][]int{{}}},
		{[]int{9}, [][]int{{}, {9}}},
		{[]int{9, 9, 9}, [][]int{{}, {9}}},
		{[]int{5, 2}, [][]int{{}, {2}, {5}, {2, 5}}},
		{[]int{3, -1, 3, 10}, [][]int{{}, {-1}, {3}, {10}, {-1, 3}, {-1, 10}, {3, 10}, {-1, 3, 10}}},
		{[]int{4, 3, 2, 1}, [][]int{{}, {1}, {2}, {3}, {4}, {1, 2}, {1, 3}, {1, 4}, {2, 3}, {2, 4}, {3, 4}, {1, 2, 3}, {1, 2, 4}, {1, 3, 4}, {2, 3, 4}, {1, 2, 3, 4}}},
		{[]int{math.MaxInt, math.MinInt}, [][]int{{}, {math.MinInt}, {math.MaxInt}, {math.MinInt, math.MaxInt}}},
	} {
		if all := subsets(t, x.s); !slices.EqualFunc(all, x.want, slices.Equal[[]int]) {
			t.Errorf("Subsets(%v) = %v, want %v", x.s, all, x.want)
		}
	}
}

// upTo returns the integers from 0 to n - 1 in decreasing order.
func upTo(n int) []int {
	var l []int
	for i := range n {
		l = append(l, n-1-i)
	}
	return l
}

func TestSubsetsLimit(t *testing.T) {
	for n, want := range map[int]api.Errno{11: api.OK, 12: api.OK, 13: api.ErrLimit, 14: api.ErrLimit, 100: api.ErrLimit} {
		// Only different elements count.
		s := slices.Concat(upTo(n), upTo(n), upTo(n))
		all, e := Subsets(s)
		if e != want || e != api.OK && len(all) != 0 || e == api.OK && len(all) != 1<<n {
			t.Errorf("Subsets of %d elements: %d subsets, error %d", n, len(all), e)
		}
	}
	if all, e := Subsets(make([]int, 10000)); e != api.OK || len(all) != 2 {
		t.Errorf("Subsets of 10000 zeros: %d subsets, error %d", len(all), e)
	}
}

func TestAlgebra(t *testing.T) {
	l := smallLists()
	for _, a := range l {
		same(t, "union of a set with itself", Union(a, a), Make(a))
		same(t, "intersection of a set with itself", Intersect(a, a), Make(a))
		for _, b := range l {
			same(t, "exchanged Union", Union(a, b), Union(b, a))
			same(t, "exchanged Intersect", Intersect(a, b), Intersect(b, a))
			minus, intersect := Minus(a, b), Intersect(a, b)
			same(t, "common elements of Minus and Intersect", Intersect(minus, intersect), nil)
			same(t, "union of Minus and Intersect", Union(minus, intersect), Make(a))
			if Subset(a, b) != slices.Equal(Union(a, b), Make(b)) {
				t.Errorf("Subset and Union of %v and %v", a, b)
			}
		}
	}
}

func TestAssociativeAndDistributive(t *testing.T) {
	for _, a := range smallLists() {
		for _, b := range smallLists() {
			for _, c := range smallLists() {
				same(t, "associative Union", Union(Union(a, b), c), Union(a, Union(b, c)))
				same(t, "associative Intersect", Intersect(Intersect(a, b), c), Intersect(a, Intersect(b, c)))
				same(t, "Intersect of Union", Intersect(a, Union(b, c)), Union(Intersect(a, b), Intersect(a, c)))
				same(t, "Union of Intersect", Union(a, Intersect(b, c)), Intersect(Union(a, b), Union(a, c)))
			}
		}
	}
}

func TestPowerSet(t *testing.T) {
	for n := range 13 {
		s := upTo(n)
		all := subsets(t, s)
		if len(all) != 1<<n || len(all[0]) != 0 {
			t.Errorf("%d subsets of %d elements, the first one %v", len(all), n, all[0])
		}
		for i, a := range all {
			if !Valid(a) || !Subset(a, s) {
				t.Errorf("%v is not a subset of %v", a, s)
			}
			// An order in which every subset is larger than the previous one has no two equal subsets.
			if i > 0 && (len(all[i-1]) > len(a) || len(all[i-1]) == len(a) && slices.Compare(all[i-1], a) >= 0) {
				t.Errorf("%v comes before %v", all[i-1], a)
			}
		}
	}
}

func TestResultsAreSets(t *testing.T) {
	for _, a := range lists {
		for _, b := range lists {
			for _, s := range results(a, b) {
				if !Valid(s) {
					t.Errorf("%v is a result for %v and %v", s, a, b)
				}
			}
		}
	}
}

// results returns all slices that the functions return for a and b.
func results(a, b []int) [][]int {
	all := [][]int{Make(a), Make(b), Union(a, b), Intersect(a, b), Minus(a, b)}
	for _, n := range []int{-100, 0, 3, 100} {
		all = append(all, Add(a, n), Remove(a, n))
	}
	subsets, _ := Subsets(a)
	return append(all, subsets...)
}

// padded returns a copy of l with more memory behind it, and all of this memory.
func padded(l []int) (list, whole []int) {
	whole = append(slices.Clone(l), 71, 72, 73)
	return whole[:len(l)], whole
}

func TestArgumentsAreKept(t *testing.T) {
	for _, x := range lists {
		for _, y := range lists {
			a, wholeA := padded(x)
			b, wholeB := padded(y)
			beforeA, beforeB := slices.Clone(wholeA), slices.Clone(wholeB)
			Valid(a)
			Has(a, 3)
			Subset(a, b)
			results(a, b)
			same(t, "first argument after the calls", wholeA, beforeA)
			same(t, "second argument after the calls", wholeB, beforeB)
		}
	}
}

// scribble overwrites all memory of l, also that behind its elements.
func scribble(l []int) {
	l = l[:cap(l)]
	for i := range l {
		l[i] = -12345
	}
}

func TestResultsAreNewMemory(t *testing.T) {
	for _, x := range lists {
		for _, y := range lists {
			a, wholeA := padded(x)
			b, wholeB := padded(y)
			beforeA, beforeB := slices.Clone(wholeA), slices.Clone(wholeB)
			all, want := results(a, b), results(x, y)
			for i, l := range all {
				// A result that shares memory with an earlier one has been overwritten.
				same(t, "result after changes of the earlier ones", l, want[i])
				scribble(l)
			}
			same(t, "first argument after changes of the results", wholeA, beforeA)
			same(t, "second argument after changes of the results", wholeB, beforeB)
		}
	}
}

func TestResultsDoNotChange(t *testing.T) {
	a, wholeA := padded([]int{5, 1, 3})
	b, wholeB := padded([]int{3, 4})
	all, want := results(a, b), results([]int{5, 1, 3}, []int{3, 4})
	scribble(wholeA)
	scribble(wholeB)
	if !slices.EqualFunc(all, want, slices.Equal[[]int]) {
		t.Errorf("the results become %v when the arguments are changed, want %v", all, want)
	}
}

func FuzzSets(f *testing.F) {
	f.Add([]byte{}, []byte{}, 0)
	f.Add([]byte{3, 1, 3}, []byte{2}, 3)
	f.Fuzz(func(t *testing.T, p, q []byte, n int) {
		var a, b []int
		for _, c := range p {
			a = append(a, int(int8(c)))
		}
		for _, c := range q {
			b = append(b, int(int8(c)))
		}
		same(t, "Make", Make(a), selected(a, nil, either))
		same(t, "Add", Add(a, n), selected(a, []int{n}, either))
		same(t, "Remove", Remove(a, n), selected(a, []int{n}, first))
		same(t, "Union", Union(a, b), selected(a, b, either))
		same(t, "Intersect", Intersect(a, b), selected(a, b, both))
		same(t, "Minus", Minus(a, b), selected(a, b, first))
		if Has(a, n) != members(a)[n] || Subset(a, b) != (len(selected(a, b, first)) == 0) {
			t.Errorf("Has or Subset of %v and %v", a, b)
		}
	})
}
