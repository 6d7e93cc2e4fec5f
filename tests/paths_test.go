package tests

import (
	"math"
	"slices"
	"strings"
	"testing"

	"loop.example/g01075/impl"
)

func TestDistancesOf(t *testing.T) {
	for text, want := range map[string][]int64{
		// Without edges, with an initial state that is not 0, and with states that no path leads to.
		"1 0|-|-": {0}, "3 0|-|-": {0, -1, -1}, "3 2|a|-": {-1, -1, 0}, "3 1|a|0:1:1 0:1:2": {-1, 0, -1},
		// A loop, two edges side by side, an edge back, and ways of different lengths.
		"1 0|-|0:0:0": {0}, "2 1|a|1:0:0 1:1:0 1:1:1": {1, 0}, "2 0|a|0:1:1 1:0:0": {0, 1}, "3 0|a|0:1:1 1:1:2": {0, 1, 2}, "3 2|a|0:1:0 1:1:0 2:1:1": {2, 1, 0},
		"4 0|a|0:0:1 0:1:3 1:0:2 2:0:3 3:0:2": {0, 1, 2, 1}, "5 4|a|0:0:1 1:0:2 2:0:3 4:0:0 4:1:2": {1, 2, 1, 2, 0},
		"5 0|a|0:1:1 1:1:0 2:0:3 3:0:4 4:0:0 4:0:2": {0, 1, -1, -1, -1}, "5 1|a|0:0:1 1:0:1 2:0:0 3:0:1 3:0:2 4:0:1": {-1, 0, -1, -1, -1},
	} {
		x := ltsFrom(text)
		expect(t, impl.DistancesOf, in(x), want, impl.OK)
		if defined := distancesIn(x); !same(defined, want) {
			t.Errorf("%q: defined as %v, and expected as %v", text, defined, want)
		}
	}
	expect(t, impl.DistancesOf, in(house()), []int64{-1, 0, 1, 1, -1}, impl.OK)
	// A chain through all 40 states, backwards and forwards, and all states side by side.
	for first, step := range map[int64]int64{0: 1, 39: -1} {
		x := impl.Lts{States: 40, Initial: first, Labels: []string{"tau"}}
		for k := range int64(40) {
			if next := k + step; next >= 0 && next < 40 {
				x.Edges = append(x.Edges, impl.Edge{From: k, To: next})
			}
		}
		want, path := counted(40), counted(39)
		if first == 39 {
			slices.Reverse(want)
			slices.Reverse(path)
		}
		expect(t, impl.DistancesOf, in(x), want, impl.OK)
		expectPath(t, x, []int64{39 - first}, path, 39-first, strings.Repeat("tau ", 39))
	}
	wide := full(0, 40)
	wide.Initial = 0
	expect(t, impl.DistancesOf, in(wide), append([]int64{0}, repeated(39, 1)...), impl.OK)
	expect(t, impl.DistancesOf, in(full(0, 300)), append(repeated(39, -1), 0), impl.OK)
}

// expectPath checks the shortest path to some states, and what the path is.
func expectPath(t *testing.T, x impl.Lts, targets, path []int64, end int64, labels string) {
	t.Helper()
	expect(t, impl.ShortestPath, in(x, targets), path, impl.OK)
	expect(t, impl.EndOfPath, in(x, path), end, impl.OK)
	expect(t, impl.PathLabels, in(x, path), strings.Fields(labels), impl.OK)
	if least, code := leastPath(x, targets); !same(least, path) || code != impl.OK {
		t.Errorf("to %v in %q: defined as %v, and expected as %v", targets, exactLtsText(x), least, path)
	}
}

func TestShortestPath(t *testing.T) {
	x := ltsFrom("3 0|a|0:1:1 1:1:2")
	expectPath(t, x, []int64{2}, []int64{0, 1}, 2, "a a")
	expectPath(t, x, []int64{1}, []int64{0}, 1, "a")
	expectPath(t, x, []int64{1, 2}, []int64{0}, 1, "a")
	// The initial state, alone and among others, also with an edge to itself.
	for _, targets := range [][]int64{{0}, {0, 1}, {0, 2}, {0, 1, 2}} {
		expectPath(t, x, targets, nil, 0, "")
		expectPath(t, ltsFrom("3 0|a|0:0:0 0:1:1 1:1:2"), targets, nil, 0, "")
	}
	expectPath(t, ltsFrom("1 0|-|-"), []int64{0}, nil, 0, "")
	expectPath(t, house(), []int64{0, 1, 4}, nil, 1, "")
	expectPath(t, house(), []int64{2}, []int64{3}, 2, "tau")
	expectPath(t, house(), []int64{3}, []int64{5}, 3, "b")
	expectPath(t, house(), []int64{0, 3, 4}, []int64{5}, 3, "b")
	// Several states with paths of equal length: the least path decides, and neither the number of the state nor the last edge.
	x = ltsFrom("5 0|a b|0:1:3 0:2:1 1:0:0 3:0:4 3:2:2")
	expectPath(t, x, []int64{1, 3}, []int64{0}, 3, "a")
	expectPath(t, x, []int64{2, 4}, []int64{0, 3}, 4, "a tau")
}

// TestShortestPathOfSeveral has several shortest paths to one state, which differ in edges and labels.
func TestShortestPathOfSeveral(t *testing.T) {
	// Two edges side by side: tau is the first label.
	expectPath(t, ltsFrom("2 0|a b|0:1:1 0:2:1"), []int64{1}, []int64{0}, 1, "a")
	expectPath(t, ltsFrom("2 0|a b|0:0:0 0:0:1 0:2:1"), []int64{1}, []int64{1}, 1, "tau")
	// Two ways: by the lesser label, and with one label by the lesser state.
	expectPath(t, ltsFrom("4 0|a b c|0:1:2 0:2:1 1:1:3 2:3:3"), []int64{3}, []int64{0, 3}, 3, "a c")
	expectPath(t, ltsFrom("4 0|a b c|0:1:1 0:1:2 1:3:3 2:1:3"), []int64{3}, []int64{0, 2}, 3, "a c")
	// The first edge of the least path leads to a greater state, and a lesser one is nowhere on a shortest path.
	expectPath(t, ltsFrom("5 0|a b|0:0:1 0:1:4 0:2:2 1:0:1 2:0:3 4:2:3"), []int64{3}, []int64{1, 5}, 3, "a b")
	// Longer paths with lesser edges do not count.
	expectPath(t, ltsFrom("4 0|a b|0:0:1 0:2:3 1:0:2 2:0:3"), []int64{3}, []int64{1}, 3, "b")
	expectPath(t, ltsFrom("4 0|a b|0:0:1 0:2:3 1:0:2 2:0:3"), []int64{2, 3}, []int64{1}, 3, "b")
	// Two states and two ways to each: of four paths of length 2 the least one.
	x := ltsFrom("5 4|a b|0:1:3 0:2:2 1:1:2 1:1:3 4:1:1 4:2:0")
	expectPath(t, x, []int64{2, 3}, []int64{4, 2}, 2, "a a")
	expectPath(t, x, []int64{3}, []int64{4, 3}, 3, "a a")
	expectPath(t, x, []int64{0, 2}, []int64{5}, 0, "b")
	// Three steps, of which the second decides.
	x = ltsFrom("6 0|a b|0:1:1 1:1:3 1:2:2 2:1:4 3:2:4 4:0:5")
	expectPath(t, x, []int64{5}, []int64{0, 1, 4, 5}, 5, "a a b tau")
}

// notStateLists returns lists that are not strictly increasing ones of states of a system with four states.
func notStateLists() [][]int64 {
	return [][]int64{
		// Not increasing, and equal.
		{1, 0}, {0, 3, 2}, {2, 1}, {1, 1}, {0, 0}, {3, 3}, {1, 2, 2}, repeated(1000, 1), counted(1000),
		// Negative, and the number of states.
		{-1}, {-1, 1}, {4}, {1, 4}, {0, 4}, {1, 5}, {40}, {math.MinInt64}, {math.MinInt64, 1}, {math.MaxInt64}, {1, math.MaxInt64}, {1, -1},
	}
}

func TestShortestPathErrors(t *testing.T) {
	x := ltsFrom("4 1|a|0:1:2 1:1:1 1:1:2 2:0:1 3:1:0")
	// These go before what is not found.
	for _, targets := range notStateLists() {
		expect(t, impl.ShortestPath, in(x, targets), nil, impl.ErrRange)
	}
	for _, targets := range [][]int64{nil, {0}, {3}, {0, 3}} {
		expect(t, impl.ShortestPath, in(x, targets), nil, impl.ErrNotFound)
	}
	expectPath(t, x, []int64{0, 1, 2, 3}, nil, 1, "")
	expectPath(t, x, []int64{0, 2, 3}, []int64{2}, 2, "a")
	expect(t, impl.ShortestPath, in(ltsFrom("1 0|-|-"), nil), nil, impl.ErrNotFound)
	expect(t, impl.ShortestPath, in(ltsFrom("2 0|-|1:0:0"), []int64{1}), nil, impl.ErrNotFound)
	expect(t, impl.ShortestPath, in(full(0, 300), counted(40)), nil, impl.OK)
	expect(t, impl.ShortestPath, in(full(0, 300), counted(39)), nil, impl.ErrNotFound)
	expect(t, impl.ShortestPath, in(full(0, 300), counted(41)), nil, impl.ErrRange)
}

func TestEndOfPathAndPathLabels(t *testing.T) {
	// Edges: 0 is a loop of 0, 1 to 3 leave 1, 4 and 5 leave 2.
	x := ltsFrom("4 1|a b(1) c|0:0:0 1:0:1 1:1:2 1:2:0 2:0:1 2:3:2")
	for _, c := range []struct {
		path   []int64
		end    int64
		labels string
	}{
		{nil, 1, ""}, {[]int64{1}, 1, "tau"}, {[]int64{2}, 2, "a"}, {[]int64{3}, 0, "b(1)"}, {[]int64{3, 0, 0}, 0, "b(1) tau tau"}, {[]int64{1, 1, 2, 5, 5, 4, 3}, 0, "tau tau a c c tau b(1)"},
		{[]int64{2, 4, 2, 4, 2}, 2, "a tau a tau a"}, {slices.Repeat([]int64{2, 4}, 5000), 1, strings.Repeat("a tau ", 5000)},
	} {
		expect(t, impl.EndOfPath, in(x, c.path), c.end, impl.OK)
		expect(t, impl.PathLabels, in(x, c.path), strings.Fields(c.labels), impl.OK)
	}
	check := func(x impl.Lts, path []int64, code int64) {
		t.Helper()
		expect(t, impl.EndOfPath, in(x, path), 0, code)
		expect(t, impl.PathLabels, in(x, path), nil, code)
	}
	// Paths that begin elsewhere, or are interrupted: at the beginning, in the middle, and at the end.
	for _, path := range [][]int64{{0}, {4}, {5}, {0, 0}, {4, 2}, {0, 3}, {2, 2}, {2, 3}, {2, 0}, {3, 1}, {2, 4, 5}, {1, 1, 2, 3, 0}, {3, 0, 0, 4}, append(repeated(1000, 1), 4)} {
		check(x, path, impl.ErrOrder)
	}
	// Numbers that are no index, before and behind a fault of the order.
	for _, k := range []int64{-1, 6, 7, 300, math.MinInt64, math.MaxInt64} {
		for _, path := range [][]int64{{k}, {1, k}, {k, 1}, {2, 4, k}, {0, k}, {k, 0}, {4, 5, k}, {2, 2, k}, {2, k, 2}, {k, 2, 2}, {2, 2, 2, 4, k, 0}} {
			check(x, path, impl.ErrRange)
		}
	}
	for _, x := range []impl.Lts{ltsFrom("1 0|-|-"), ltsFrom("3 2|a|-")} {
		expect(t, impl.EndOfPath, in(x, nil), x.Initial, impl.OK)
		expect(t, impl.PathLabels, in(x, nil), nil, impl.OK)
		for _, k := range []int64{0, -1, 1} {
			check(x, []int64{k}, impl.ErrRange)
		}
	}
	// As many edges as there may be: the last index, and one more.
	most := full(0, 300)
	most.Initial = 7
	expect(t, impl.EndOfPath, in(most, []int64{299}), 19, impl.OK)
	check(most, []int64{300}, impl.ErrRange)
	check(most, []int64{299, 0}, impl.ErrOrder)
}

// noLabels returns texts that are no labels.
func noLabels() []string {
	return []string{"", " ", "A", "1", "a ", " a", "a(", "a()", "a(64)", "a(01)", "a(-1)", "a(1,2,3)", "tau(0)", "tau ", "abcdefghijk", "\xff", "a b", strings.Repeat("a", 1000)}
}

func TestReplayLabels(t *testing.T) {
	x := ltsFrom("6 2|a a(1) b|0:1:1 0:1:3 1:0:1 1:2:4 2:0:0 2:1:0 2:1:3 2:1:5 3:1:0 3:3:2 5:3:1 5:3:2")
	for _, c := range []struct {
		labels string
		states []int64
	}{
		{"", []int64{2}}, {"tau", []int64{0}}, {"a", []int64{0, 3, 5}}, {"a a", []int64{0, 1, 3}}, {"tau a", []int64{1, 3}}, {"a b", []int64{1, 2}}, {"a b a", []int64{0, 3, 5}},
		{"a b tau", []int64{0, 1}}, {"a b a(1)", []int64{4}}, {"a b tau tau", []int64{1}}, {"a a b b", nil}, {"b", nil}, {"a(1)", nil}, {"tau tau", nil}, {"a b a(1) tau", nil},
		// Labels that no edge has, also where it does not matter any more.
		{"c", nil}, {"a c", nil}, {"a(2)", nil}, {"a(1,1)", nil}, {"b c", nil}, {"a b a(1) a c tau", nil}, {strings.Repeat("tau ", 1000), nil},
		{strings.Repeat("a ", 999), []int64{0, 1, 3}},
	} {
		labels := strings.Fields(c.labels)
		if c.states == nil {
			expect(t, impl.ReplayLabels, in(x, labels), nil, impl.ErrNotFound)
		} else {
			expect(t, impl.ReplayLabels, in(x, labels), c.states, impl.OK)
		}
		if len(labels) > 10 {
			continue
		}
		var defined []int64
		for k := range x.States {
			if isReplayed(x, labels, k) {
				defined = append(defined, k)
			}
		}
		if !same(defined, c.states) && len(defined)+len(c.states) > 0 {
			t.Errorf("%q: defined as %v, and expected as %v", labels, defined, c.states)
		}
		// What is no label is found wherever it stands, also behind the labels that end nowhere.
		for _, text := range noLabels() {
			for at := range len(labels) + 1 {
				expect(t, impl.ReplayLabels, in(x, slices.Insert(slices.Clone(labels), at, text)), nil, impl.ErrRange)
			}
		}
	}
	// All 40 states are reached by one label, and by many.
	all := full(1, 40)
	all.Initial = 0
	expect(t, impl.ReplayLabels, in(all, []string{"tau"}), counted(40), impl.OK)
	expect(t, impl.ReplayLabels, in(all, slices.Repeat([]string{"tau"}, 50)), counted(40), impl.OK)
	expect(t, impl.ReplayLabels, in(all, []string{"tau", "na"}), nil, impl.ErrNotFound)
	expect(t, impl.ReplayLabels, in(ltsFrom("3 1|-|-"), nil), []int64{1}, impl.OK)
	expect(t, impl.ReplayLabels, in(ltsFrom("3 1|-|-"), []string{"tau"}), nil, impl.ErrNotFound)
}

// expectReplayed checks the states of a linear process behind some labels.
func expectReplayed(t *testing.T, l impl.Linear, labels []string, code int64, states ...[]int64) {
	t.Helper()
	expect(t, impl.ReplayLinear, in(l, labels), states, code)
	if defined, other := replayedStates(l, labels); !same(defined, states) && len(states) > 0 || other != code {
		t.Errorf("%q in %q: defined as %v, code %d", labels, exactText(l), defined, other)
	}
	for _, text := range noLabels()[:6] {
		for at := range min(len(labels), 5) + 1 {
			expect(t, impl.ReplayLinear, in(l, slices.Insert(slices.Clone(labels), at, text)), nil, impl.ErrRange)
		}
	}
}

func TestReplayLinear(t *testing.T) {
	l := lin("linear 1: 0", "sum - if v0<2 do a then v0+1")
	expectReplayed(t, l, nil, impl.OK, []int64{0})
	expectReplayed(t, l, []string{"a"}, impl.OK, []int64{1})
	expectReplayed(t, l, []string{"a", "a"}, impl.OK, []int64{2})
	for _, labels := range []string{"a a a", "b", "tau", "a b", "a(0)", "a(1)", "a a tau", "a a a a a a", "b a", strings.Repeat("a ", 1000)} {
		expectReplayed(t, l, strings.Fields(labels), impl.ErrNotFound)
	}
	// States are in lexicographic order, and each is there once.
	l = lin("linear 2: 9,9", "sum 2,1 if 1 do a then 2-v2;1-v3", "sum 3 if v0 do a then v0-1;10*v2", "sum 1 if v0<9 do b(v2) then v0;v2", "sum - if v1=20 do tau then 0;0")
	expectReplayed(t, l, []string{"a"}, impl.OK, []int64{0, 0}, []int64{0, 1}, []int64{1, 0}, []int64{1, 1}, []int64{2, 0}, []int64{2, 1}, []int64{8, 0}, []int64{8, 10}, []int64{8, 20}, []int64{8, 30})
	expectReplayed(t, l, []string{"a", "b(0)"}, impl.OK, []int64{0, 0}, []int64{1, 0}, []int64{2, 0}, []int64{8, 0})
	expectReplayed(t, l, []string{"a", "b(1)"}, impl.OK, []int64{0, 1}, []int64{1, 1}, []int64{2, 1}, []int64{8, 1})
	expectReplayed(t, l, []string{"a", "tau"}, impl.OK, []int64{0, 0})
	expectReplayed(t, l, []string{"a", "b"}, impl.ErrNotFound)
	expectReplayed(t, l, []string{"b(0)"}, impl.ErrNotFound)
	expectReplayed(t, l, []string{"tau"}, impl.ErrNotFound)
	// Without parameters and summands.
	expectReplayed(t, impl.Linear{}, nil, impl.OK, nil)
	expectReplayed(t, impl.Linear{}, []string{"a"}, impl.ErrNotFound)
	expectReplayed(t, lin("linear 0: -", "sum 1 if v0 do a(v0) then -", "sum - if 1 do tau then -"), []string{"a(1)", "tau", "a(1)"}, impl.OK, nil)
	expectReplayed(t, impl.Linear{Parameters: 21, Start: counted(21)}, nil, impl.OK, counted(21))
	// The states of all other labels do not count: there may be more than can be explored.
	l = lin("linear 1: 0", "sum - if 1 do a then v0+1", "sum 7,7 if 1 do b then v1*8+v2")
	expectReplayed(t, l, slices.Repeat([]string{"a"}, 130), impl.OK, []int64{2})
	expect(t, impl.ExploreLinear, in(l), nil, nil, impl.ErrFull)
}

// TestReplayLinearLimit reaches MaxStates states behind some of the labels, and one more.
func TestReplayLinearLimit(t *testing.T) {
	for n, code := range map[int]int64{40: impl.OK, 41: impl.ErrFull} {
		lines := []string{"linear 2: 0,0", "sum 7,4 if 1 do a then 1;v2*5+v3", "sum - if v0 do b then 0;0", "sum - if v0 do d then v0;v1", "sum - if v0&v1=3 do e then 7;7"}
		if n == 41 {
			lines = append(lines, "sum - if v1=0 do a then 1;63")
		}
		l := lin(lines...)
		states := [][]int64{}
		for v := range int64(40) {
			states = append(states, []int64{1, v})
		}
		check := func(labels string, states ...[]int64) {
			t.Helper()
			if code != impl.OK {
				states = nil
			}
			expectReplayed(t, l, strings.Fields(labels), code, states...)
		}
		check("a", states...)
		check("a d", states...)
		check("a d d d", states...)
		// All later states are fewer, or as many again.
		check("a b", []int64{0, 0})
		check("a e", []int64{7, 7})
		check("a b a d", states...)
		check("a d e b", []int64{0, 0})
		// None are left later: too many states go first.
		late := max(code, impl.ErrNotFound)
		for _, labels := range []string{"a c", "a c a", "a b b", "a tau", "a e d c"} {
			expectReplayed(t, l, strings.Fields(labels), late)
		}
		// Nothing is followed behind the label that leads nowhere.
		for _, labels := range []string{"c a", "b a", "tau a", "d a a", "c", "e a", "a(1) a"} {
			expectReplayed(t, l, strings.Fields(labels), impl.ErrNotFound)
		}
		expectReplayed(t, l, nil, impl.OK, []int64{0, 0})
	}
	// Too many states only behind the last label, and only behind one in the middle.
	l := lin("linear 2: 0,0", "sum 5 if v0=0 do a then 1;v2", "sum 7 if v0=1 do a then 2;v1*8+v2", "sum - if v0=2 do a then 3;7")
	expectReplayed(t, l, []string{"a"}, impl.OK, []int64{1, 0}, []int64{1, 1}, []int64{1, 2}, []int64{1, 3}, []int64{1, 4}, []int64{1, 5})
	expectReplayed(t, l, []string{"a", "a"}, impl.ErrFull)
	expectReplayed(t, l, []string{"a", "a", "a"}, impl.ErrFull)
	expectReplayed(t, l, []string{"a", "a", "a", "a"}, impl.ErrFull)
	l.Summands[0].Sums[0] = 4
	expectReplayed(t, l, []string{"a", "a", "a"}, impl.OK, []int64{3, 7})
	expectReplayed(t, l, []string{"a", "a", "a", "a"}, impl.ErrNotFound)
}

// TestExamplesOfChapter10 takes the example of the document.
func TestExamplesOfChapter10(t *testing.T) {
	l := lin("linear 1: 0", "sum - if v0<2 do a then v0+1")
	expect(t, impl.ExploreLinear, in(l), ltsFrom("3 0|a|0:1:1 1:1:2"), singles(0, 1, 2), impl.OK)
	expect(t, impl.DeadlockTrace, in(l), []string{"a", "a"}, impl.OK)
}
