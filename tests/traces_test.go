package tests

import (
	"fmt"
	"slices"
	"strings"
	"testing"

	"loop.example/g01075/impl"
)

func TestTraceConstants(t *testing.T) {
	if !same([]int64{impl.MaxTraceLength, impl.MaxTraces}, []int64{12, 200}) {
		t.Error("limits")
	}
}

// traceExample is the system of the chapter's example.
func traceExample() impl.Lts { return ltsFrom("3 0|a b|0:0:1 0:1:0 1:2:2") }

// TestTraceExamples has the examples of the chapter.
func TestTraceExamples(t *testing.T) {
	x := traceExample()
	expect(t, impl.InternalClosure, in(x, []int64{0}), []int64{0, 1}, impl.OK)
	expect(t, impl.DeterminizeLts, in(x), ltsFrom("2 0|a b|0:1:0 0:2:1"), [][]int64{{0, 1}, {2}}, impl.OK)
	expect(t, impl.CountTraces, in(x, 1), 2, impl.OK)
	expect(t, impl.CountTraces, in(x, 2), 2, impl.OK)
	expect(t, impl.TracesOf, in(x, 2), [][]string{{}, {"a"}, {"b"}, {"a", "a"}, {"a", "b"}}, impl.OK)
}

// hall is a system with internal edges before labels, behind them, several in a row, in a circle and from a state to itself.
// Its initial state is 3, and no path leads to the state 7.
func hall() impl.Lts {
	return ltsFrom("8 3|a a(1) b c|0:0:1 1:0:2 2:0:0 2:2:4 3:0:5 3:3:4 4:0:4 4:3:3 5:0:6 6:1:0 7:0:3 7:1:7")
}

func TestInternalClosure(t *testing.T) {
	for _, c := range []struct{ states, want []int64 }{
		{nil, nil}, {[]int64{0}, []int64{0, 1, 2}}, {[]int64{1}, []int64{0, 1, 2}}, {[]int64{2}, []int64{0, 1, 2}}, {[]int64{3}, []int64{3, 5, 6}}, {[]int64{4}, []int64{4}}, {[]int64{5}, []int64{5, 6}}, {[]int64{6}, []int64{6}},
		{[]int64{7}, []int64{3, 5, 6, 7}}, {[]int64{1, 6}, []int64{0, 1, 2, 6}}, {[]int64{4, 5, 6}, []int64{4, 5, 6}}, {[]int64{2, 7}, []int64{0, 1, 2, 3, 5, 6, 7}}, {counted(8), counted(8)},
	} {
		expect(t, impl.InternalClosure, in(hall(), c.states), c.want, impl.OK)
	}
	x := ltsFrom("4 1|a|0:1:2 1:1:1 1:1:2 2:0:1 3:1:0")
	expect(t, impl.InternalClosure, in(x, []int64{2, 3}), []int64{1, 2, 3}, impl.OK)
	for _, states := range notStateLists() {
		expect(t, impl.InternalClosure, in(x, states), nil, impl.ErrRange)
	}
	// All 40 states of one row, from its first state and from its last one, and of a system without edges.
	row := impl.Lts{States: 40, Labels: []string{"tau"}}
	for k := range int64(39) {
		row.Edges = append(row.Edges, impl.Edge{From: k, To: k + 1})
	}
	expect(t, impl.InternalClosure, in(row, []int64{0}), counted(40), impl.OK)
	expect(t, impl.InternalClosure, in(row, []int64{39}), []int64{39}, impl.OK)
	expect(t, impl.InternalClosure, in(row, counted(40)), counted(40), impl.OK)
	expect(t, impl.InternalClosure, in(full(11, 0), counted(40)), counted(40), impl.OK)
	expect(t, impl.InternalClosure, in(full(11, 0), counted(41)), nil, impl.ErrRange)
	expect(t, impl.InternalClosure, in(full(11, 300), []int64{0}), counted(40), impl.OK)
}

// afterCases has traces of the hall, written with blanks between their labels, with the states behind them, and lists of
// labels that are no traces.
var afterCases = []struct {
	trace  string
	states []int64
}{
	{"", []int64{3, 5, 6}}, {"a", []int64{0, 1, 2}}, {"b", []int64{4}}, {"a a(1)", []int64{4}}, {"b b", []int64{3, 5, 6}}, {"b b a", []int64{0, 1, 2}}, {"a a(1) b", []int64{3, 5, 6}}, {"a a(1) b b", []int64{4}},
	{"a a(1) b a a(1) b b b", []int64{3, 5, 6}}, {strings.Repeat("b ", 1000), []int64{3, 5, 6}}, {strings.Repeat("b ", 999), []int64{4}},
	{"a(1)", nil}, {"a a", nil}, {"a b", nil}, {"b a", nil}, {"b a(1)", nil}, {"a a(1) a(1)", nil}, {"b b b a", nil}, {strings.Repeat("b ", 999) + "a", nil},
	// Labels without edges, and labels that are none of Labels, also ahead of others and behind those at which the trace ends.
	{"c", nil}, {"a c", nil}, {"c a", nil}, {"d", nil}, {"a(0)", nil}, {"a(1,1)", nil}, {"b(1)", nil}, {"taus", nil}, {"d a", nil}, {"a d", nil}, {"a d a(1)", nil}, {"a a d", nil}, {"a a a(2) b", nil},
}

func TestAfterTrace(t *testing.T) {
	for _, c := range afterCases {
		trace, code := strings.Fields(c.trace), int64(impl.OK)
		if c.states == nil {
			code = impl.ErrNotFound
		}
		expect(t, impl.AfterTrace, in(hall(), trace), c.states, code)
		if defined := tracerOf(hall()).after(trace); !same(defined, c.states) && len(defined)+len(c.states) > 0 {
			t.Errorf("%q: defined as %v, and expected as %v", trace, defined, c.states)
		}
	}
	expect(t, impl.AfterTrace, in(ltsFrom("1 0|-|-"), nil), []int64{0}, impl.OK)
	expect(t, impl.AfterTrace, in(ltsFrom("1 0|-|-"), []string{"a"}), nil, impl.ErrNotFound)
	expect(t, impl.AfterTrace, in(ltsFrom("40 39|-|0:0:39 39:0:39"), nil), []int64{39}, impl.OK)
	expect(t, impl.AfterTrace, in(ltsFrom("40 39|a|39:1:0"), []string{"a"}), []int64{0}, impl.OK)
	expect(t, impl.AfterTrace, in(ltsFrom("40 39|a|39:1:0"), []string{"a", "a"}), nil, impl.ErrNotFound)
	expect(t, impl.AfterTrace, in(ltsFrom("3 2|a|0:1:1 1:1:0"), []string{"a"}), nil, impl.ErrNotFound)
}

// TestTracesOfInvisibleLabels puts texts that are no visible labels anywhere into traces, and behind their ends.
func TestTracesOfInvisibleLabels(t *testing.T) {
	for _, text := range append(noLabels(), "tau") {
		for _, c := range afterCases {
			trace := strings.Fields(c.trace)
			for at := range min(len(trace), 9) + 1 {
				changed := slices.Insert(slices.Clone(trace), at, text)
				expect(t, impl.AfterTrace, in(hall(), changed), nil, impl.ErrRange)
				expect(t, impl.IsCompletedTrace, in(hall(), changed), false, impl.ErrRange)
			}
		}
	}
}

func TestIsCompletedTrace(t *testing.T) {
	for _, c := range []struct {
		text, trace string
		want        bool
	}{
		{"3 0|a b|0:0:1 0:1:0 1:2:2", "b", true}, {"3 0|a b|0:0:1 0:1:0 1:2:2", "a", false}, {"3 0|a b|0:0:1 0:1:0 1:2:2", "", false}, {"3 0|a b|0:0:1 0:1:0 1:2:2", "a a a b", true},
		{"1 0|-|-", "", true}, {"1 0|a|-", "", true}, {"2 1|a|0:1:1", "", true}, {"2 0|a|0:1:1", "", false}, {"2 0|a|0:1:1", "a", true},
		// The state without edges is behind internal edges: of the initial state, of a label, and of several.
		{"2 0|-|0:0:1", "", true}, {"3 0|a|0:0:1 0:1:0 1:0:2", "", true}, {"4 0|a|0:1:1 1:0:2 2:0:3", "a", true}, {"5 0|a|0:0:1 1:1:2 2:0:2 2:0:3 3:0:4", "a", true},
		// The trace can go on by internal edges alone: around a circle, and from a state to itself.
		{"1 0|-|0:0:0", "", false}, {"2 0|-|0:0:1 1:0:0", "", false}, {"2 0|a|0:1:1 1:0:1", "a", false}, {"3 0|a|0:1:1 1:0:2 2:0:1", "a", false}, {"3 0|a|0:1:1 1:0:2 2:1:1", "a", false},
		// One of several states is without edges, the first one or the last one.
		{"3 0|a|0:1:1 0:1:2 2:1:2", "a", true}, {"3 0|a|0:1:1 0:1:2 1:1:1", "a", true}, {"3 0|a|0:1:1 0:1:2 1:1:1 2:0:2", "a", false}, {"3 2|a|1:1:1 2:1:0 2:1:1", "a a", false},
		// The state without edges is behind another trace, or no path leads to it.
		{"3 0|a|0:0:2 0:1:1 1:1:1", "", true}, {"3 0|a|0:0:2 0:1:1 1:1:1", "a", false}, {"2 0|a|0:1:0", "a", false}, {"3 0|a|0:1:1 1:1:0", "a", false},
	} {
		x, trace := ltsFrom(c.text), strings.Fields(c.trace)
		expect(t, impl.IsCompletedTrace, in(x, trace), c.want, impl.OK)
		expect(t, impl.IsCompletedTrace, in(x, append(trace, "c")), false, impl.ErrNotFound)
		expect(t, impl.IsCompletedTrace, in(x, append(trace, "c", "a")), false, impl.ErrNotFound)
		expect(t, impl.IsCompletedTrace, in(x, append(trace, "c", "tau")), false, impl.ErrRange)
	}
	for _, c := range afterCases {
		// All states of the hall have edges.
		code := int64(impl.OK)
		if c.states == nil {
			code = impl.ErrNotFound
		}
		expect(t, impl.IsCompletedTrace, in(hall(), strings.Fields(c.trace)), false, code)
	}
}

// determinizedCases has texts of systems, those of the deterministic ones, and the sets.
var determinizedCases = []struct {
	text, want string
	sets       [][]int64
}{
	{"1 0|-|-", "1 0|-|-", [][]int64{{0}}},
	{"1 0|a b|-", "1 0|a b|-", [][]int64{{0}}},
	{"40 39|-|-", "1 0|-|-", [][]int64{{39}}},
	{"2 1|a|1:1:0", "2 0|a|0:1:1", [][]int64{{1}, {0}}},
	{"1 0|a|0:0:0 0:1:0", "1 0|a|0:1:0", [][]int64{{0}}},
	// Internal edges alone: in a row, in a circle, and from a state to itself.
	{"3 0|-|0:0:1 1:0:2", "1 0|-|-", [][]int64{{0, 1, 2}}},
	{"4 1|a|0:0:1 1:0:3 2:1:2 3:0:0", "1 0|a|-", [][]int64{{0, 1, 3}}},
	{"2 1|-|1:0:1", "1 0|-|-", [][]int64{{1}}},
	// Before a label, behind it, and both.
	{"3 0|a|0:0:1 1:1:2", "2 0|a|0:1:1", [][]int64{{0, 1}, {2}}},
	{"3 0|a|0:1:1 1:0:2", "2 0|a|0:1:1", [][]int64{{0}, {1, 2}}},
	{"4 0|a|0:0:1 1:1:2 2:0:3", "2 0|a|0:1:1", [][]int64{{0, 1}, {2, 3}}},
	{"8 3|a a(1) b c|0:0:1 1:0:2 2:0:0 2:2:4 3:0:5 3:3:4 4:0:4 4:3:3 5:0:6 6:1:0 7:0:3 7:1:7", "3 0|a a(1) b c|0:1:1 0:3:2 1:2:2 2:3:0", [][]int64{{3, 5, 6}, {0, 1, 2}, {4}}},
	// Equal sets that are found over different labels, from one state and from several ones.
	{"2 0|a b|0:1:1 0:2:1", "2 0|a b|0:1:1 0:2:1", [][]int64{{0}, {1}}},
	{"4 0|a b|0:1:1 0:1:2 0:2:1 0:2:2 1:1:3 2:2:3", "3 0|a b|0:1:1 0:2:1 1:1:2 1:2:2", [][]int64{{0}, {1, 2}, {3}}},
	{"4 0|a b c|0:1:1 0:2:2 0:3:3 1:1:2 2:1:2 3:1:1 3:1:2", "5 0|a b c|0:1:1 0:2:2 0:3:3 1:1:2 2:1:2 3:1:4 4:1:2", [][]int64{{0}, {1}, {2}, {3}, {1, 2}}},
	// Sets that have some states in common, one of which contains the other.
	{"3 0|a b|0:1:0 0:1:1 0:2:1 1:1:2", "5 0|a b|0:1:1 0:2:2 1:1:3 1:2:2 2:1:4 3:1:3 3:2:2", [][]int64{{0}, {0, 1}, {1}, {0, 1, 2}, {2}}},
	// Numbered as they are found: by label, though the states of the sets are in another order.
	{"4 0|a b c|0:1:3 0:2:2 0:3:1", "4 0|a b c|0:1:1 0:2:2 0:3:3", [][]int64{{0}, {3}, {2}, {1}}},
	{"3 2|a b|2:1:1 2:2:0", "3 0|a b|0:1:1 0:2:2", [][]int64{{2}, {1}, {0}}},
	// All those of one state come first, and then those of the next one: 0 leads to 4 and 3, 4 to 2, and 3 to 1.
	{"5 0|a b|0:1:4 0:2:3 3:1:1 4:1:2", "5 0|a b|0:1:1 0:2:2 1:1:3 2:1:4", [][]int64{{0}, {4}, {3}, {2}, {1}}},
	// The states 1 to 3 have edges, but no path leads to them.
	{"4 0|a b|1:1:1 2:0:0 3:1:0", "1 0|a b|-", [][]int64{{0}}},
	// Labels without edges in between.
	{"2 0|a b c|0:2:1", "2 0|a b c|0:2:1", [][]int64{{0}, {1}}},
	{"2 0|a a(1) a(1,2) aa|0:1:0 0:2:1 0:4:0 1:3:1", "2 0|a a(1) a(1,2) aa|0:1:0 0:2:1 0:4:0 1:3:1", [][]int64{{0}, {1}}},
}

func TestDeterminizeLts(t *testing.T) {
	for i, c := range determinizedCases {
		x, want := ltsFrom(c.text), ltsFrom(c.want)
		expect(t, impl.DeterminizeLts, in(x), want, c.sets, impl.OK)
		if defined, sets, code := determinized(x); !same(defined, want) || !same(sets, c.sets) || code != impl.OK {
			t.Errorf("case %d: defined as %q %v, code %d", i, exactLtsText(defined), sets, code)
		}
		// A deterministic system whose states are numbered as they are found stays as it is.
		var alone [][]int64
		for _, k := range counted(len(c.sets)) {
			alone = append(alone, []int64{k})
		}
		expect(t, impl.DeterminizeLts, in(want), want, alone, impl.OK)
	}
	expect(t, impl.DeterminizeLts, in(full(11, 300)), impl.Lts{States: 1, Labels: full(11, 0).Labels}, [][]int64{{39}}, impl.OK)
	x := full(11, 300)
	x.Initial = 0
	expect(t, impl.DeterminizeLts, in(x), impl.Lts{States: 1, Labels: x.Labels}, [][]int64{counted(40)}, impl.OK)
}

// lasso returns a system with some states in a row of edges with the label a, which has one set more: by b, the last state
// leads to the last two ones.
func lasso(states int64) impl.Lts {
	s := sketch{initial: "0"}
	for k := range states {
		s.states = append(s.states, fmt.Sprint(k))
		if k > 0 {
			s.edges = append(s.edges, arrow{fmt.Sprint(k - 1), "a", fmt.Sprint(k)})
		}
	}
	last, before := s.states[states-1], s.states[states-2]
	s.edges = append(s.edges, arrow{last, "b", last}, arrow{last, "b", before})
	s.labels = []string{"a", "b"}
	return s.lts()
}

// doubling returns a system that tells for 2 to the n - 1 sets what the last n labels were.
func doubling(n int64) impl.Lts {
	s := sketch{states: []string{"0"}, initial: "0", labels: []string{"a", "b"}, edges: []arrow{{"0", "a", "0"}, {"0", "b", "0"}, {"0", "a", "1"}}}
	for k := int64(1); k < n; k++ {
		s.states = append(s.states, fmt.Sprint(k))
		if k > 1 {
			s.edges = append(s.edges, arrow{fmt.Sprint(k - 1), "a", fmt.Sprint(k)}, arrow{fmt.Sprint(k - 1), "b", fmt.Sprint(k)})
		}
	}
	return s.lts()
}

// fan returns a system of which the deterministic one has 297 edges and some more: all of 27 sets lead by each label to
// one, and the last set has the others.
func fan(more int) impl.Lts {
	labels := manyNames(11)
	s := sketch{initial: "s0", labels: labels, states: []string{"hub", "end"}, edges: []arrow{{"hub", labels[1], "end"}}}
	for _, label := range labels {
		if label != labels[1] {
			s.edges = append(s.edges, arrow{"hub", label, "hub"})
		}
	}
	for k := range 26 {
		name := fmt.Sprint("s", k)
		s.states = append(s.states, name)
		s.edges = append(s.edges, arrow{name, "tau", "hub"})
		if k > 0 {
			s.edges = append(s.edges, arrow{fmt.Sprint("s", k-1), labels[0], name})
		}
	}
	for _, label := range labels[:more] {
		s.edges = append(s.edges, arrow{"end", label, "end"})
	}
	return s.lts()
}

// tooLargeLtss returns valid systems whose deterministic ones have more states or edges than there may be.
func tooLargeLtss() []impl.Lts {
	return []impl.Lts{lasso(40), fan(4), fan(11), doubling(7), doubling(40)}
}

// largestLtss returns systems whose deterministic ones have as many states or edges as there may be, or just less.
func largestLtss() []impl.Lts {
	return []impl.Lts{lasso(39), fan(3), fan(2), doubling(6), ring(40, "a")}
}

func TestDeterminizeLtsLimits(t *testing.T) {
	for i, size := range [][2]int{{40, 41}, {28, 300}, {28, 299}, {32, 64}, {40, 40}} {
		x := largestLtss()[i]
		want, sets, code := determinized(x)
		if !isLts(x) || code != impl.OK || len(sets) != size[0] || len(want.Edges) != size[1] {
			t.Errorf("system %d: %d sets, %d edges, code %d", i, len(sets), len(want.Edges), code)
		}
		expect(t, impl.DeterminizeLts, in(x), want, sets, impl.OK)
	}
	for i, x := range tooLargeLtss() {
		if _, _, code := determinized(x); !isLts(x) || code != impl.ErrFull {
			t.Errorf("system %d: code %d", i, code)
		}
		expect(t, impl.DeterminizeLts, in(x), nil, nil, impl.ErrFull)
		expect(t, impl.MinimalTraces, in(x), nil, impl.ErrFull)
		// The states behind traces do not need the deterministic system.
		first := x.Labels[1]
		behind := tracerOf(x).after([]string{first})
		expect(t, impl.AfterTrace, in(x, []string{first}), behind, impl.OK)
		expect(t, impl.IsCompletedTrace, in(x, []string{first}), false, impl.OK)
		for _, n := range []int64{0, 1, 12} {
			expect(t, impl.CountTraces, in(x, n), nil, impl.ErrFull)
			expect(t, impl.TracesOf, in(x, n), nil, impl.ErrFull)
		}
		for _, n := range noIndices(13) {
			expect(t, impl.CountTraces, in(x, n), nil, impl.ErrRange)
			expect(t, impl.TracesOf, in(x, n), nil, impl.ErrRange)
		}
	}
}
