package tests

import (
	"math"
	"slices"
	"testing"

	"loop.example/g01075/impl"
)

func TestOutOf(t *testing.T) {
	x := house()
	for k, edges := range []string{"0:0:0 0:1:1", "1:0:1 1:0:2 1:2:2 1:4:3", "2:1:1 2:3:2", "3:2:1", "4:1:0"} {
		expect(t, impl.OutOf, in(x, k), edgesFrom(wordsFrom(edges)...), impl.OK)
	}
	for _, k := range noIndices(5) {
		expect(t, impl.OutOf, in(x, k), nil, impl.ErrRange)
	}
	expect(t, impl.OutOf, in(ltsFrom("2 0|a|0:1:1"), 1), nil, impl.OK)
	expect(t, impl.OutOf, in(ltsFrom("1 0|-|-"), 0), nil, impl.OK)
	expect(t, impl.OutOf, in(ltsFrom("1 0|-|-"), 1), nil, impl.ErrRange)
	expect(t, impl.OutOf, in(full(11, 300), 7), full(11, 300).Edges[280:], impl.OK)
	expect(t, impl.OutOf, in(full(11, 300), 39), nil, impl.OK)
	expect(t, impl.OutOf, in(full(11, 300), 40), nil, impl.ErrRange)
}

func TestSuccessorsOf(t *testing.T) {
	x := house()
	for _, c := range []struct {
		k     int64
		label string
		want  []int64
	}{
		{0, "tau", []int64{0}}, {0, "a", []int64{1}}, {0, "b", nil}, {1, "tau", []int64{1, 2}}, {1, "a", nil}, {1, "a(1)", []int64{2}}, {1, "a(1,2)", nil},
		{1, "b", []int64{3}}, {2, "a", []int64{1}}, {2, "a(1,2)", []int64{2}}, {2, "tau", nil}, {3, "a(1)", []int64{1}}, {4, "a", []int64{0}}, {4, "b", nil},
	} {
		expect(t, impl.SuccessorsOf, in(x, c.k, c.label), c.want, impl.OK)
	}
	for _, label := range []string{"c", "a(2)", "a(1,3)", "b(1)", "", "a()", "a(01)", "-", "tau(1)", "A", "\xff", "a|b", "0", "1"} {
		expect(t, impl.SuccessorsOf, in(x, 1, label), nil, impl.ErrNotFound)
		// A number that is no state comes first.
		for _, k := range noIndices(5) {
			expect(t, impl.SuccessorsOf, in(x, k, label), nil, impl.ErrRange)
			expect(t, impl.SuccessorsOf, in(x, k, "a"), nil, impl.ErrRange)
		}
	}
	expect(t, impl.SuccessorsOf, in(ltsFrom("1 0|-|-"), 0, "tau"), nil, impl.OK)
	expect(t, impl.SuccessorsOf, in(ltsFrom("1 0|-|-"), 0, "a"), nil, impl.ErrNotFound)
	expect(t, impl.SuccessorsOf, in(ltsFrom("1 0|a|-"), 0, "a"), nil, impl.OK)
	expect(t, impl.SuccessorsOf, in(full(11, 300), 0, "tau"), counted(40), impl.OK)
	expect(t, impl.SuccessorsOf, in(full(11, 300), 7, "tau"), counted(20), impl.OK)
	expect(t, impl.SuccessorsOf, in(full(11, 300), 0, "nk"), nil, impl.OK)
	expect(t, impl.SuccessorsOf, in(full(11, 300), 0, "nl"), nil, impl.ErrNotFound)
}

// An explored system has its text, and beside it its reachable states, the text of their part, and its deadlocks.
var reachCases = []struct {
	text      string
	states    []int64
	part      string
	deadlocks []int64
}{
	{"2 0|a|0:1:1", []int64{0, 1}, "2 0|a|0:1:1", []int64{1}},
	{"1 0|-|-", []int64{0}, "1 0|-|-", []int64{0}},
	{"1 0|a b|-", []int64{0}, "1 0|a b|-", []int64{0}},
	{"1 0|-|0:0:0", []int64{0}, "1 0|-|0:0:0", nil},
	{"3 1|a|0:1:1 1:1:2", []int64{1, 2}, "2 0|a|0:1:1", []int64{2}},
	// The initial state is not the first one of its part, and no edge has the label b.
	{"4 3|a b|1:1:1 3:0:0 3:1:1", []int64{0, 1, 3}, "3 2|a b|1:1:1 2:0:0 2:1:1", []int64{0}},
	// No edge leads to the states 1 and 2 from outside; from them, edges lead to reachable states and to deadlocks.
	{"5 0|a|0:1:4 1:1:2 2:0:0 2:1:1 2:1:3", []int64{0, 4}, "2 0|a|0:1:1", []int64{4}},
	{"5 0|a|0:1:4 1:1:2 2:0:0 2:1:1 2:1:3 4:0:0", []int64{0, 4}, "2 0|a|0:1:1 1:0:0", nil},
	// States without edges: three reachable ones, one that is not.
	{"6 2|a|2:0:0 2:1:0 2:1:4 4:0:5", []int64{0, 2, 4, 5}, "4 1|a|1:0:0 1:1:0 1:1:2 2:0:3", []int64{0, 5}},
	{"2 1|a|0:1:1", []int64{1}, "1 0|a|-", []int64{1}},
	{"40 39|-|0:0:39", []int64{39}, "1 0|-|-", []int64{39}},
	{"3 0|-|0:0:2 1:0:0 2:0:0", []int64{0, 2}, "2 0|-|0:0:1 1:0:0", nil},
	{"5 1|a a(1) a(1,2) b|0:0:0 0:1:1 1:0:1 1:0:2 1:2:2 1:4:3 2:1:1 2:3:2 3:2:1 4:1:0", []int64{1, 2, 3}, "3 0|a a(1) a(1,2) b|0:0:0 0:0:1 0:2:1 0:4:2 1:1:0 1:3:1 2:2:0", nil},
}

func TestReachableStatesAndParts(t *testing.T) {
	for _, c := range reachCases {
		x := ltsFrom(c.text)
		expect(t, impl.ReachableStates, in(x), c.states, impl.OK)
		expect(t, impl.ReachablePart, in(x), ltsFrom(c.part), c.states, impl.OK)
		expect(t, impl.DeadlocksOf, in(x), c.deadlocks, impl.OK)
		// The part is a system all of whose states are reachable.
		part := ltsFrom(c.part)
		expect(t, impl.ReachablePart, in(part), part, counted(int(part.States)), impl.OK)
	}
	expect(t, impl.ReachableStates, in(full(11, 300)), []int64{39}, impl.OK)
	expect(t, impl.ReachablePart, in(full(11, 300)), impl.Lts{States: 1, Labels: full(11, 0).Labels}, []int64{39}, impl.OK)
	x := full(11, 300)
	x.Initial = 0
	expect(t, impl.ReachablePart, in(x), x, counted(40), impl.OK)
	expect(t, impl.DeadlocksOf, in(x), counted(40)[8:], impl.OK)
}

func TestIsDeterministicLts(t *testing.T) {
	for text, want := range map[string]bool{
		"1 0|-|-": true, "1 0|a|-": true, "2 0|a|0:1:1": true, "1 0|a b|0:1:0 0:2:0": true, "2 0|a a(0) a(1)|0:1:0 0:2:1 0:3:1": true,
		"2 0|a|0:1:1 1:1:1": true, "2 0|a b|0:1:0 0:2:0 1:1:0": true, "2 0|a b|0:2:0 1:2:0": true,
		"1 0|-|0:0:0": false, "2 0|a|0:0:1": false, "2 0|a|0:1:0 1:0:0": false,
		"2 0|a|0:1:0 0:1:1": false, "3 0|a b|0:1:0 0:2:0 0:2:2": false, "3 0|a|0:1:1 1:1:0 1:1:2": false,
		// Internal edges and edges with one label in states that no path leads to.
		"3 0|a|0:1:1 2:0:0": false, "3 0|a|0:1:1 2:1:0 2:1:1": false, "2 1|a|0:1:0 0:1:1": false, "2 1|a|0:0:0": false,
		// The last edge of one state and the first one of the next have one label.
		"3 0|a|0:1:2 1:1:0 2:1:1": true,
	} {
		expect(t, impl.IsDeterministicLts, in(ltsFrom(text)), want)
	}
	expect(t, impl.IsDeterministicLts, in(house()), false)
	expect(t, impl.IsDeterministicLts, in(full(11, 0)), true)
	expect(t, impl.IsDeterministicLts, in(full(11, 300)), false)
	// With as many edges as there may be, where all labels but tau lead from each of 27 states.
	x := impl.Lts{States: 29, Labels: append([]string{"tau"}, manyNames(11)...)}
	for i := range int64(300) {
		x.Edges = append(x.Edges, impl.Edge{From: i / 11, Label: 1 + i%11, To: 27 - i/11})
	}
	expect(t, impl.IsDeterministicLts, in(x), true)
	for i := range x.Edges {
		double := copied(x)
		if i%11 > 0 {
			double.Edges[i].Label--
			double.Edges[i].To++
			expect(t, impl.IsDeterministicLts, in(double), false)
		}
		// An edge with a label that leads to another state is as good.
		other := copied(x)
		other.Edges[i].To = 28
		expect(t, impl.IsDeterministicLts, in(other), true)
	}
}

// TestLargeNumbersOfStates looks at systems whose numbers would overflow, which are not valid.
func TestLargeNumbersOfStates(t *testing.T) {
	for _, n := range []int64{math.MaxInt64, math.MinInt64, 41, 1 << 32} {
		x := house()
		x.States = n
		expect(t, impl.OutOf, in(x, 0), nil, impl.ErrInvalid)
		expect(t, impl.UnionLts, in(x, x), nil, impl.ErrInvalid)
		expect(t, impl.ProductLts, in(x, x, nil), nil, impl.ErrInvalid)
	}
}

// TestStatesOfRandomLtss compares with sketches and relaxed distances.
func TestStatesOfRandomLtss(t *testing.T) {
	t.Parallel()
	c := tally{}
	for _, x := range slices.Concat(validLtss(), smallLtss(600), largeLtss(100), labelledLtss(400)) {
		var states, deadlocks []int64
		for k, n := range distancesIn(x) {
			if n >= 0 {
				states = append(states, int64(k))
			}
		}
		deterministic := !slices.ContainsFunc(x.Edges, func(e impl.Edge) bool { return e.Label == 0 })
		for k := range x.States {
			byLabel := make([][]int64, len(x.Labels))
			var edges []impl.Edge
			for _, e := range x.Edges {
				if e.From == k {
					edges = append(edges, e)
					byLabel[e.Label] = append(byLabel[e.Label], e.To)
				}
			}
			expect(t, impl.OutOf, in(x, k), edges, impl.OK)
			for i, label := range x.Labels {
				expect(t, impl.SuccessorsOf, in(x, k, label), byLabel[i], impl.OK)
				deterministic = deterministic && len(byLabel[i]) < 2
			}
			if len(edges) == 0 && slices.Contains(states, k) {
				deadlocks = append(deadlocks, k)
			}
		}
		expect(t, impl.ReachableStates, in(x), states, impl.OK)
		expect(t, impl.DeadlocksOf, in(x), deadlocks, impl.OK)
		expect(t, impl.ReachablePart, in(x), sketchOf(x).reachable().lts(), states, impl.OK)
		expect(t, impl.IsDeterministicLts, in(x), deterministic)
		c["deterministic"] += int(oneIf(deterministic && len(x.Edges) > 2))
		c["deadlocks"] += len(deadlocks)
		c["no deadlocks"] += int(oneIf(len(deadlocks) == 0))
		c["parts"] += int(oneIf(len(states) > 2 && len(states) < int(x.States)))
		c["moved"] += int(oneIf(x.Initial > 0 && states[0] < x.Initial))
	}
	c.expect(t, tally{"deterministic": 20, "deadlocks": 300, "no deadlocks": 100, "parts": 200, "moved": 100})
}
