package clock

import (
	"math"
	"slices"
	"testing"

	"modelcheck/api"
)

// of returns the clock with the given agents and counts in turn; it need not be valid.
func of(numbers ...int) api.Clock {
	var c api.Clock
	for pair := range slices.Chunk(numbers, 2) {
		c = append(c, api.Tick{Agent: pair[0], Count: pair[1]})
	}
	return c
}

// clocks are valid clocks: nil and empty, one tick, several ones, negative and extreme agents, and the smallest and largest counts.
var clocks = []api.Clock{
	nil, {}, of(0, 1), of(0, 2), of(1, 1), of(-1, 1), of(-1, 3), of(7, api.MaxValue), of(7, api.MaxValue-1), of(0, api.MaxValue),
	of(1, 2, 3, 1), of(1, 1, 2, 5), of(1, 1), of(1, 2, 2, 5, 3, 1), of(1, 2, 2, 5, 3, 2), of(0, 1, 1, 1, 2, 1, 3, 1),
	of(-2, 4, -1, 1, 0, 1, 7, 2), of(-2, 1, 0, 4, 8, 2), of(-3, api.MaxValue, 5, api.MaxValue),
	of(math.MinInt, 1, math.MaxInt, 1), of(math.MinInt, 2, 0, 1), of(0, 1, math.MaxInt, api.MaxValue), of(math.MinInt, 1), of(math.MaxInt, 2),
	of(1, 1, 1<<32+1, 2), of(api.MinValue-1, 1, api.MinValue, 2, api.MaxValue, 3, api.MaxValue+1, 4),
}

// invalid are clocks that are not valid: by a count, or by the order of their agents, at each position.
var invalid = []api.Clock{
	of(0, 0), of(0, -1), of(0, api.MaxValue+1), of(0, math.MaxInt), of(0, math.MinInt), of(0, 1<<32), of(0, 1<<32+1), of(0, -1<<32+1), of(-1, 0),
	of(1, 0, 2, 1, 3, 1), of(1, 1, 2, 0, 3, 1), of(1, 1, 2, 1, 3, 0), of(1, 1, 2, api.MaxValue+1), of(1, -1, 2, 1),
	of(1, 1, 1, 1), of(1, 1, 1, 2), of(1, 2, 1, 1), of(0, 1, 1, 1, 1, 1), of(1, 1, 1, 1, 2, 1), of(-1, 1, -1, 1),
	of(2, 1, 1, 1), of(1, 1, -1, 1), of(-1, 1, -2, 1), of(2, 1, 1, 1, 3, 1), of(1, 1, 3, 1, 2, 1), of(1, 1, 2, 1, 1, 1), of(3, 1, 2, 1, 1, 1),
	of(math.MaxInt, 1, math.MinInt, 1), of(math.MinInt, 1, math.MinInt, 1), of(1<<32, 1, 0, 1),
}

// agents are those of the clocks and integers beside them.
var agents = []int{
	0, 1, 2, 3, 4, 5, 6, 7, 8, 9, -1, -2, -3, -4, math.MinInt, math.MinInt + 1, math.MaxInt, math.MaxInt - 1,
	1 << 32, 1<<32 + 1, api.MinValue - 2, api.MinValue - 1, api.MinValue, api.MaxValue, api.MaxValue + 1, api.MaxValue + 2,
}

// small returns all valid clocks of the agents -1, 0 and 2 with counts of at most 2.
func small() []api.Clock {
	all := []api.Clock{nil}
	for _, agent := range []int{-1, 0, 2} {
		for _, c := range all {
			for count := 1; count <= 2; count++ {
				all = append(all, append(slices.Clone(c), api.Tick{Agent: agent, Count: count}))
			}
		}
	}
	return all
}

// counts is the map that a valid clock represents.
func counts(c api.Clock) map[int]int {
	m := map[int]int{}
	for _, tick := range c {
		m[tick.Agent] = tick.Count
	}
	return m
}

// clockOf returns the clock of a map, in which counts of 0 have no tick.
func clockOf(m map[int]int) api.Clock {
	var c api.Clock
	for agent, count := range m {
		if count > 0 {
			c = append(c, api.Tick{Agent: agent, Count: count})
		}
	}
	slices.SortFunc(c, func(x, y api.Tick) int {
		if x.Agent < y.Agent {
			return -1
		}
		return 1
	})
	return c
}

// combined returns the clock whose counts are chosen from those of a and b, computed without the functions under test.
func combined(a, b api.Clock, choose func(m, n int) int) api.Clock {
	inA, inB, m := counts(a), counts(b), map[int]int{}
	for _, tick := range slices.Concat(a, b) {
		m[tick.Agent] = choose(inA[tick.Agent], inB[tick.Agent])
	}
	return clockOf(m)
}

func larger(m, n int) int  { return max(m, n) }
func smaller(m, n int) int { return min(m, n) }

// below reports whether no count of a is larger than that of b, computed without the functions under test.
func below(a, b api.Clock) bool {
	inB := counts(b)
	for _, tick := range a {
		if tick.Count > inB[tick.Agent] {
			return false
		}
	}
	return true
}

// same reports whether two clocks have equal ticks; nil and empty ones have.
func same(t *testing.T, what string, got, want api.Clock) {
	t.Helper()
	if !slices.Equal(got, want) {
		t.Errorf("%s = %v, want %v", what, got, want)
	}
}

// pairs calls f for all pairs of clocks of a list.
func pairs(list []api.Clock, f func(a, b api.Clock)) {
	for _, a := range list {
		for _, b := range list {
			f(a, b)
		}
	}
}

func TestValid(t *testing.T) {
	for _, c := range append(small(), clocks...) {
		if !Valid(c) {
			t.Errorf("Valid(%v) is false", c)
		}
	}
	for _, c := range invalid {
		if Valid(c) {
			t.Errorf("Valid(%v) is true", c)
		}
	}
}

func TestGet(t *testing.T) {
	c := of(-2, 4, 0, 1, 7, api.MaxValue)
	for agent, want := range map[int]int{-3: 0, -2: 4, -1: 0, 0: 1, 1: 0, 6: 0, 7: api.MaxValue, 8: 0} {
		if got := Get(c, agent); got != want {
			t.Errorf("Get(%v, %d) = %d, want %d", c, agent, got, want)
		}
	}
	for _, c := range append(small(), clocks...) {
		for _, agent := range agents {
			if got, want := Get(c, agent), counts(c)[agent]; got != want {
				t.Errorf("Get(%v, %d) = %d, want %d", c, agent, got, want)
			}
		}
	}
	for _, c := range invalid {
		for _, agent := range agents {
			if got := Get(c, agent); got != 0 {
				t.Errorf("Get(%v, %d) = %d, want 0 for an invalid clock", c, agent, got)
			}
		}
	}
}

func TestAdvance(t *testing.T) {
	for _, x := range []struct {
		c     api.Clock
		agent int
		want  api.Clock
	}{
		{nil, 3, of(3, 1)},
		{api.Clock{}, -3, of(-3, 1)},
		{of(3, 1), 3, of(3, 2)},
		{of(3, 1), 2, of(2, 1, 3, 1)},
		{of(3, 1), 4, of(3, 1, 4, 1)},
		{of(-1, 2, 1, 5), 0, of(-1, 2, 0, 1, 1, 5)},
		{of(-1, 2, 1, 5), -1, of(-1, 3, 1, 5)},
		{of(-1, 2, 1, 5), 1, of(-1, 2, 1, 6)},
		{of(1, 1), math.MinInt, of(math.MinInt, 1, 1, 1)},
		{of(1, 1), math.MaxInt, of(1, 1, math.MaxInt, 1)},
		{of(1, api.MaxValue-1), 1, of(1, api.MaxValue)},
		{of(1, api.MaxValue), 1, nil},
		{of(0, 1, 1, api.MaxValue, 2, 1), 1, nil},
		{of(0, 1, 1, api.MaxValue), 0, of(0, 2, 1, api.MaxValue)},
		{of(1, api.MaxValue), 2, of(1, api.MaxValue, 2, 1)},
	} {
		same(t, "Advance", Advance(x.c, x.agent), x.want)
	}
	for _, c := range append(small(), clocks...) {
		for _, agent := range agents {
			m := counts(c)
			m[agent]++
			want := clockOf(m)
			if m[agent] > api.MaxValue {
				want = nil
			}
			same(t, "Advance", Advance(c, agent), want)
		}
	}
	for _, c := range invalid {
		for _, agent := range agents {
			if got := Advance(c, agent); got != nil {
				t.Errorf("Advance(%v, %d) = %v, want nil for an invalid clock", c, agent, got)
			}
		}
	}
}

func TestJoinAndMeet(t *testing.T) {
	for _, x := range []struct{ a, b, join, meet api.Clock }{
		{nil, nil, nil, nil},
		{nil, api.Clock{}, nil, nil},
		{nil, of(-4, 2), of(-4, 2), nil},
		{of(-4, 2), nil, of(-4, 2), nil},
		{of(1, 2, 3, 1), of(1, 1, 2, 5), of(1, 2, 2, 5, 3, 1), of(1, 1)},
		{of(5, 1), of(-5, 1), of(-5, 1, 5, 1), nil},
		{of(1, 1, 2, 3), of(1, 3, 2, 1), of(1, 3, 2, 3), of(1, 1, 2, 1)},
		{of(1, api.MaxValue), of(1, 1), of(1, api.MaxValue), of(1, 1)},
		{of(1, 1, 2, 1, 3, 1), of(2, 2), of(1, 1, 2, 2, 3, 1), of(2, 1)},
	} {
		same(t, "Join", Join(x.a, x.b), x.join)
		same(t, "Meet", Meet(x.a, x.b), x.meet)
	}
	for _, list := range [][]api.Clock{small(), clocks} {
		pairs(list, func(a, b api.Clock) {
			same(t, "Join", Join(a, b), combined(a, b, larger))
			same(t, "Meet", Meet(a, b), combined(a, b, smaller))
		})
	}
}

func TestJoinLarge(t *testing.T) {
	var a, b api.Clock
	for i := range 100000 {
		a = append(a, api.Tick{Agent: 2 * i, Count: i + 1})
		b = append(b, api.Tick{Agent: 3 * i, Count: 100000 - i})
	}
	same(t, "Join", Join(a, b), combined(a, b, larger))
	same(t, "Meet", Meet(a, b), combined(a, b, smaller))
	if !LessEq(a, Join(a, b)) || LessEq(Join(a, b), a) || !Concurrent(a, b) {
		t.Error("LessEq or Concurrent of large clocks")
	}
}

func TestLessEqAndConcurrent(t *testing.T) {
	for _, x := range []struct {
		a, b                   api.Clock
		less, more, concurrent bool
	}{
		{nil, nil, true, true, false},
		{nil, api.Clock{}, true, true, false},
		{nil, of(-3, 1), true, false, false},
		{of(0, 1), of(0, 1), true, true, false},
		{of(0, 1), of(0, 2), true, false, false},
		{of(0, 1), of(1, 1), false, false, true},
		{of(0, 1), of(0, 1, 1, 1), true, false, false},
		{of(1, 1), of(0, 1, 1, 1), true, false, false},
		{of(1, 2), of(0, 1, 1, 1), false, false, true},
		{of(1, 2, 3, 1), of(1, 1, 2, 5), false, false, true},
		{of(1, 1, 3, 1), of(1, 1, 2, 5, 3, 2), true, false, false},
		{of(1, api.MaxValue-1), of(1, api.MaxValue), true, false, false},
		{of(math.MinInt, 1), of(math.MaxInt, 1), false, false, true},
	} {
		if LessEq(x.a, x.b) != x.less || LessEq(x.b, x.a) != x.more {
			t.Errorf("LessEq of %v and %v", x.a, x.b)
		}
		if Concurrent(x.a, x.b) != x.concurrent || Concurrent(x.b, x.a) != x.concurrent {
			t.Errorf("Concurrent of %v and %v", x.a, x.b)
		}
	}
	for _, list := range [][]api.Clock{small(), clocks} {
		pairs(list, func(a, b api.Clock) {
			if got, want := LessEq(a, b), below(a, b); got != want {
				t.Errorf("LessEq(%v, %v) = %t", a, b, got)
			}
			if got, want := Concurrent(a, b), !below(a, b) && !below(b, a); got != want {
				t.Errorf("Concurrent(%v, %v) = %t", a, b, got)
			}
		})
	}
}

// refuses reports an error if a function of two clocks has another result than that for invalid arguments.
func refuses(t *testing.T, a, b api.Clock) {
	t.Helper()
	if got := Join(a, b); got != nil {
		t.Errorf("Join(%v, %v) = %v, want nil", a, b, got)
	}
	if got := Meet(a, b); got != nil {
		t.Errorf("Meet(%v, %v) = %v, want nil", a, b, got)
	}
	if LessEq(a, b) {
		t.Errorf("LessEq(%v, %v) is true", a, b)
	}
	if Concurrent(a, b) {
		t.Errorf("Concurrent(%v, %v) is true", a, b)
	}
}

func TestInvalidClocks(t *testing.T) {
	for _, bad := range invalid {
		for _, c := range append(small(), clocks...) {
			refuses(t, bad, c)
			refuses(t, c, bad)
		}
	}
	pairs(invalid, func(a, b api.Clock) { refuses(t, a, b) })
}

func TestPartialOrder(t *testing.T) {
	all := append(small(), clocks...)
	for _, a := range all {
		if !LessEq(nil, a) || !LessEq(a, a) || Concurrent(a, a) {
			t.Errorf("%v is not above the empty clock and itself", a)
		}
	}
	pairs(all, func(a, b api.Clock) {
		if LessEq(a, b) && LessEq(b, a) && !slices.Equal(a, b) {
			t.Errorf("%v and %v are less than or equal to each other", a, b)
		}
		for _, c := range all {
			if LessEq(a, b) && LessEq(b, c) && !LessEq(a, c) {
				t.Errorf("%v, %v, %v: not transitive", a, b, c)
			}
		}
	})
}

func TestBounds(t *testing.T) {
	for _, list := range [][]api.Clock{small(), clocks} {
		pairs(list, func(a, b api.Clock) {
			join, meet := Join(a, b), Meet(a, b)
			if !Valid(join) || !Valid(meet) {
				t.Errorf("Join or Meet of %v and %v is not valid", a, b)
			}
			if !LessEq(a, join) || !LessEq(b, join) || !LessEq(meet, a) || !LessEq(meet, b) {
				t.Errorf("Join %v and Meet %v are not bounds of %v and %v", join, meet, a, b)
			}
			for _, c := range list {
				if (LessEq(a, c) && LessEq(b, c)) != LessEq(join, c) {
					t.Errorf("Join(%v, %v) = %v is not the least bound, see %v", a, b, join, c)
				}
				if (LessEq(c, a) && LessEq(c, b)) != LessEq(c, meet) {
					t.Errorf("Meet(%v, %v) = %v is not the greatest bound, see %v", a, b, meet, c)
				}
			}
		})
	}
}

func TestLatticeLaws(t *testing.T) {
	list := small()
	pairs(list, func(a, b api.Clock) {
		same(t, "Join in the other order", Join(b, a), Join(a, b))
		same(t, "Meet in the other order", Meet(b, a), Meet(a, b))
		same(t, "absorption by Join", Join(a, Meet(a, b)), a)
		same(t, "absorption by Meet", Meet(a, Join(a, b)), a)
		for _, c := range list {
			same(t, "associative Join", Join(Join(a, b), c), Join(a, Join(b, c)))
			same(t, "associative Meet", Meet(Meet(a, b), c), Meet(a, Meet(b, c)))
		}
	})
	for _, a := range append(list, clocks...) {
		same(t, "Join with itself", Join(a, a), a)
		same(t, "Meet with itself", Meet(a, a), a)
		same(t, "Join with the empty clock", Join(a, nil), a)
		same(t, "Meet with the empty clock", Meet(a, nil), nil)
	}
}

// stamps returns the clocks of a message log without errors.
func stamps(t *testing.T, agents, from []int) []api.Clock {
	t.Helper()
	stamped, err := Stamps(agents, from)
	if err != api.OK || len(stamped) != len(agents) {
		t.Fatalf("Stamps(%v, %v): %d clocks, error %d", agents, from, len(stamped), err)
	}
	return stamped
}

func TestStamps(t *testing.T) {
	for _, x := range []struct {
		agents, from []int
		want         []api.Clock
	}{
		{nil, nil, nil},
		{[]int{}, nil, nil},
		{[]int{4}, []int{-1}, []api.Clock{of(4, 1)}},
		{[]int{1, 2, 1}, []int{-1, 0, 1}, []api.Clock{of(1, 1), of(1, 1, 2, 1), of(1, 2, 2, 1)}},
		{[]int{-1, -1, -1}, []int{-1, -1, -1}, []api.Clock{of(-1, 1), of(-1, 2), of(-1, 3)}},
		{[]int{3, -2, 0}, []int{-1, -1, -1}, []api.Clock{of(3, 1), of(-2, 1), of(0, 1)}},
		{[]int{3, -2, 0}, []int{-1, 0, 0}, []api.Clock{of(3, 1), of(-2, 1, 3, 1), of(0, 1, 3, 1)}},
		{[]int{5, 5, 5}, []int{-1, 0, 0}, []api.Clock{of(5, 1), of(5, 2), of(5, 3)}},
		{[]int{1, 1, 2, 2}, []int{-1, -1, 0, 1}, []api.Clock{of(1, 1), of(1, 2), of(1, 1, 2, 1), of(1, 2, 2, 2)}},
		{[]int{1, 1, 2, 2}, []int{-1, -1, 1, 0}, []api.Clock{of(1, 1), of(1, 2), of(1, 2, 2, 1), of(1, 2, 2, 2)}},
		{[]int{math.MaxInt, math.MinInt}, []int{-1, 0}, []api.Clock{of(math.MaxInt, 1), of(math.MinInt, 1, math.MaxInt, 1)}},
	} {
		got := stamps(t, x.agents, x.from)
		if !slices.EqualFunc(got, x.want, slices.Equal[api.Clock]) {
			t.Errorf("Stamps(%v, %v) = %v, want %v", x.agents, x.from, got, x.want)
		}
	}
}

// noMessages returns the slice from of a log of n events without messages.
func noMessages(n int) []int {
	return slices.Repeat([]int{-1}, n)
}

func TestStampsErrors(t *testing.T) {
	with := func(from []int, i, sender int) []int {
		from[i] = sender
		return from
	}
	const most = api.MaxLength
	for _, x := range []struct {
		agents, from []int
		want         api.Errno
	}{
		{nil, []int{-1}, api.ErrArg}, {[]int{1}, nil, api.ErrArg}, {[]int{1, 2}, []int{-1}, api.ErrArg}, {[]int{1}, []int{-1, 0}, api.ErrArg},
		{make([]int, most), noMessages(most), api.OK}, {make([]int, most+1), noMessages(most + 1), api.ErrLimit}, {make([]int, 3*most), noMessages(3 * most), api.ErrLimit},
		{make([]int, most+1), noMessages(most), api.ErrArg}, {make([]int, most+2), noMessages(most + 1), api.ErrArg},
		{make([]int, most+1), with(noMessages(most+1), 0, -2), api.ErrLimit}, {make([]int, most+1), with(noMessages(most+1), 5, 5), api.ErrLimit},
		{[]int{1}, []int{-2}, api.ErrArg}, {[]int{1}, []int{0}, api.ErrArg}, {[]int{1}, []int{1}, api.ErrArg},
		{[]int{1}, []int{math.MinInt}, api.ErrArg}, {[]int{1}, []int{math.MaxInt}, api.ErrArg}, {[]int{1}, []int{1<<32 - 1}, api.ErrArg}, {[]int{1}, []int{-1<<32 - 1}, api.ErrArg},
		{[]int{1, 2, 3}, []int{-1, 0, 1}, api.OK}, {[]int{1, 2, 3}, []int{-1, 0, 2}, api.ErrArg}, {[]int{1, 2, 3}, []int{-1, 0, 3}, api.ErrArg},
		{[]int{1, 2, 3}, []int{-1, 1, 0}, api.ErrArg}, {[]int{1, 2, 3}, []int{-1, 2, -1}, api.ErrArg}, {[]int{1, 2, 3}, []int{-1, -2, 1}, api.ErrArg}, {[]int{1, 2, 3}, []int{-1, 0, -3}, api.ErrArg},
		{make([]int, most), with(noMessages(most), most-1, most-2), api.OK}, {make([]int, most), with(noMessages(most), most-1, most-1), api.ErrArg},
	} {
		got, err := Stamps(x.agents, x.from)
		if err != x.want {
			t.Errorf("Stamps of %d and %d events: error %d, want %d", len(x.agents), len(x.from), err, x.want)
		}
		if err != api.OK && len(got) != 0 {
			t.Errorf("Stamps returns %d clocks with the error %d", len(got), err)
		}
	}
}

// causes returns, for each event, whether each event can reach it, computed by the definition of causality.
func causes(agents, from []int) [][]bool {
	reach := make([][]bool, len(agents))
	for j := range agents {
		reach[j] = make([]bool, len(agents))
		reach[j][j] = true
		for i := range j {
			if agents[i] != agents[j] && from[j] != i {
				continue
			}
			for k := range i + 1 {
				reach[j][k] = reach[j][k] || reach[i][k]
			}
		}
	}
	return reach
}

// checkCounts compares the clocks of a log with the numbers of events of each agent that reach its events.
func checkCounts(t *testing.T, agents, from []int) {
	t.Helper()
	stamped, reach := stamps(t, agents, from), causes(agents, from)
	for j := range agents {
		past := map[int]int{}
		for i := range agents {
			if reach[j][i] {
				past[agents[i]]++
			}
		}
		same(t, "clock of an event", stamped[j], clockOf(past))
	}
}

// checkOrder compares the order of the clocks of a log with the causality of its events.
func checkOrder(t *testing.T, agents, from []int) {
	t.Helper()
	stamped, reach := stamps(t, agents, from), causes(agents, from)
	for j := range agents {
		for i := range agents {
			if LessEq(stamped[i], stamped[j]) != reach[j][i] {
				t.Errorf("log %v, %v: LessEq of the clocks of events %d and %d is not %t", agents, from, i, j, reach[j][i])
			}
			if Concurrent(stamped[i], stamped[j]) != (!reach[j][i] && !reach[i][j]) {
				t.Errorf("log %v, %v: Concurrent of the clocks of events %d and %d", agents, from, i, j)
			}
		}
	}
}

// everyLog calls f for every log that extends a log by events of the agents -1, 0 and 4, up to size events.
func everyLog(agents, from []int, size int, f func(agents, from []int)) {
	f(agents, from)
	if len(agents) == size {
		return
	}
	for _, agent := range []int{-1, 0, 4} {
		for sender := -1; sender < len(agents); sender++ {
			everyLog(append(slices.Clone(agents), agent), append(slices.Clone(from), sender), size, f)
		}
	}
}

func TestCausalityOfSmallLogs(t *testing.T) {
	logs := 0
	everyLog(nil, nil, 5, func(agents, from []int) {
		logs++
		checkCounts(t, agents, from)
		checkOrder(t, agents, from)
	})
	if want := 1 + 3*1 + 9*2 + 27*6 + 81*24 + 243*120; logs != want {
		t.Errorf("%d logs, want %d", logs, want)
	}
}

func TestCausalityOfLargeLogs(t *testing.T) {
	for _, x := range []struct{ agent, sender func(i int) int }{
		{func(i int) int { return i*i%11 - 5 }, func(i int) int { return i*7919%(i+1) - 1 }},
		{func(i int) int { return i * 31 % 64 }, func(i int) int { return i*i*104729%(i+1) - 1 }},
		{func(i int) int { return 7 }, func(i int) int { return -1 }},
		{func(i int) int { return -i }, func(i int) int { return i - 1 }},
		{func(i int) int { return i * 200 % 512 }, func(i int) int { return -1 }},
		{func(i int) int { return i % 2 }, func(i int) int { return max(-1, i-3) }},
	} {
		var agents, from []int
		for i := range api.MaxLength {
			agents = append(agents, x.agent(i))
			from = append(from, x.sender(i))
		}
		checkCounts(t, agents, from)
		// All pairs of events of the whole log would take seconds.
		checkOrder(t, agents[:200], from[:200])
	}
}

// padded returns a copy of l with more memory behind it, and all of this memory.
func padded[T any](l []T, rest ...T) (list, whole []T) {
	whole = append(slices.Clone(l), rest...)
	return whole[:len(l)], whole
}

// paddedClock puts ticks behind a clock that would change a result if they were read.
func paddedClock(c api.Clock) (clock, whole api.Clock) {
	return padded(c, api.Tick{Agent: math.MaxInt - 1, Count: 71}, api.Tick{Agent: -9, Count: 72})
}

// results returns all clocks that the functions return for a and b.
func results(a, b api.Clock) []api.Clock {
	all := []api.Clock{Join(a, b), Meet(a, b)}
	for _, agent := range []int{-100, -1, 0, 1, 2, 3, 7, 100} {
		all = append(all, Advance(a, agent), Advance(b, agent))
	}
	return all
}

// scribble overwrites all memory of c, also that behind its ticks.
func scribble(c api.Clock) {
	c = c[:cap(c)]
	for i := range c {
		c[i] = api.Tick{Agent: -12345, Count: -67890}
	}
}

func TestArgumentsAreKept(t *testing.T) {
	pairs(slices.Concat(clocks, invalid), func(x, y api.Clock) {
		a, wholeA := paddedClock(x)
		b, wholeB := paddedClock(y)
		beforeA, beforeB := slices.Clone(wholeA), slices.Clone(wholeB)
		Valid(a)
		Get(a, 3)
		LessEq(a, b)
		Concurrent(a, b)
		results(a, b)
		same(t, "first argument after the calls", wholeA, beforeA)
		same(t, "second argument after the calls", wholeB, beforeB)
	})
}

func TestResultsAreNewMemory(t *testing.T) {
	pairs(clocks, func(x, y api.Clock) {
		a, wholeA := paddedClock(x)
		b, wholeB := paddedClock(y)
		beforeA, beforeB := slices.Clone(wholeA), slices.Clone(wholeB)
		all, want := results(a, b), results(x, y)
		for i, c := range all {
			// A result that shares memory with an earlier one has been overwritten.
			same(t, "result after changes of the earlier ones", c, want[i])
			scribble(c)
		}
		same(t, "first argument after changes of the results", wholeA, beforeA)
		same(t, "second argument after changes of the results", wholeB, beforeB)
	})
}

func TestResultsDoNotChange(t *testing.T) {
	pairs(clocks, func(x, y api.Clock) {
		a, wholeA := paddedClock(x)
		b, wholeB := paddedClock(y)
		all, want := results(a, b), results(x, y)
		scribble(wholeA)
		scribble(wholeB)
		if !slices.EqualFunc(all, want, slices.Equal[api.Clock]) {
			t.Errorf("the results become %v when the arguments %v and %v are changed, want %v", all, x, y, want)
		}
	})
}

func TestStampsMemory(t *testing.T) {
	agents, wholeAgents := padded([]int{1, 2, 1, 1, 3, 2, 3}, 71, 72)
	from, wholeFrom := padded([]int{-1, 0, 1, -1, 2, -1, -1}, 73, 74)
	beforeAgents, beforeFrom := slices.Clone(wholeAgents), slices.Clone(wholeFrom)
	all, want := stamps(t, agents, from), stamps(t, agents, from)
	if !slices.Equal(wholeAgents, beforeAgents) || !slices.Equal(wholeFrom, beforeFrom) {
		t.Errorf("Stamps changes its arguments to %v and %v", wholeAgents, wholeFrom)
	}
	clear(wholeAgents)
	clear(wholeFrom)
	for i, c := range all {
		same(t, "clock after changes of the arguments and the earlier clocks", c, want[i])
		scribble(c)
	}
}

func FuzzClocks(f *testing.F) {
	f.Add([]byte{}, []byte{}, 0)
	f.Add([]byte{1, 2, 3, 1}, []byte{1, 1, 2, 5}, 3)
	f.Add([]byte{3, 1, 1, 2}, []byte{1, 0}, -1)
	f.Fuzz(func(t *testing.T, p, q []byte, agent int) {
		a, b := clockFrom(p), clockFrom(q)
		if !Valid(a) || !Valid(b) {
			refuses(t, a, b)
			return
		}
		same(t, "Join", Join(a, b), combined(a, b, larger))
		same(t, "Meet", Meet(a, b), combined(a, b, smaller))
		if LessEq(a, b) != below(a, b) || Concurrent(a, b) != (!below(a, b) && !below(b, a)) {
			t.Errorf("LessEq or Concurrent of %v and %v", a, b)
		}
		if Get(a, agent) != counts(a)[agent] || Get(Advance(a, agent), agent) != Get(a, agent)+1 {
			t.Errorf("Get or Advance of %v and %d", a, agent)
		}
	})
}

// clockFrom returns a clock with a tick for every two bytes; it need not be valid.
func clockFrom(text []byte) api.Clock {
	var c api.Clock
	for pair := range slices.Chunk(text, 2) {
		if len(pair) == 2 {
			c = append(c, api.Tick{Agent: int(int8(pair[0])), Count: int(pair[1])})
		}
	}
	return c
}
