package tests

import (
	"fmt"
	"math/rand/v2"
	"slices"
	"testing"

	"loop.example/g01075/impl"
)

// traced returns a system with some states, at most so many edges, some of which are internal, and few labels.
func (m *maker) traced(states int64, edges int) impl.Lts {
	labels := [][]string{{"a"}, {"a", "b"}, {"a", "a(1)"}, {"a", "b", "c"}}[m.r.IntN(4)]
	s := sketchOf(impl.Lts{States: states, Initial: m.r.Int64N(states), Labels: append([]string{"tau"}, labels...)})
	for range edges {
		s.edges = append(s.edges, m.someArrow(s))
	}
	return s.lts()
}

func (m *maker) someState(s sketch) string { return s.states[m.r.IntN(len(s.states))] }

func (m *maker) someArrow(s sketch) arrow {
	return arrow{m.someState(s), s.labels[m.r.IntN(len(s.labels))], m.someState(s)}
}

// disguised returns a system with the same traces and other states, labels and edges.
func (m *maker) disguised(x impl.Lts) impl.Lts {
	s := sketchOf(x)
	for _, e := range slices.Clone(s.edges) {
		more := fmt.Sprint("more", len(s.states))
		switch m.r.IntN(6) {
		case 0:
			// An internal edge before the label, or behind it.
			s.states, s.edges = append(s.states, more), append(s.edges, arrow{e.from, "tau", more}, arrow{more, e.label, e.to})
		case 1:
			s.states, s.edges = append(s.states, more), append(s.edges, arrow{e.from, e.label, more}, arrow{more, "tau", e.to})
		case 2:
			// The trace may also end here.
			s.states, s.edges = append(s.states, more), append(s.edges, arrow{e.from, e.label, more})
		case 3:
			s.edges = append(s.edges, arrow{e.from, "tau", e.from})
		}
	}
	if m.r.IntN(2) == 0 {
		// Nothing leads to this state, and no edge has the label.
		s.edges = append(s.edges, arrow{"lost", "tau", m.someState(s)}, arrow{"lost", s.labels[len(s.labels)-1], "lost"})
		s.states, s.labels = append(s.states, "lost"), append(s.labels, "unused")
	}
	m.r.Shuffle(len(s.states), func(i, k int) { s.states[i], s.states[k] = s.states[k], s.states[i] })
	return s.lts()
}

// winding returns a system with some states, of which most have one edge with each of two labels, and some have more.
func (m *maker) winding(states int64) impl.Lts {
	s := sketchOf(impl.Lts{States: states, Initial: m.r.Int64N(states), Labels: []string{"tau", "a", "b"}})
	for _, k := range s.states {
		for _, label := range []string{"a", "a", "b", "b", "tau"} {
			if m.r.IntN(2) == 0 && (label != "tau" || m.r.IntN(3) == 0) {
				s.edges = append(s.edges, arrow{k, label, m.someState(s)})
			}
		}
	}
	return s.lts()
}

// tracedLtss returns systems whose deterministic ones are seldom too large, and windingLtss larger ones, the same ones in
// every run.
func tracedLtss(n int) []impl.Lts {
	m := maker{r: rand.New(rand.NewPCG(99, 100))}
	var list []impl.Lts
	for range n {
		list = append(list, m.traced(1+m.r.Int64N(6), m.r.IntN(14)))
	}
	return list
}

func windingLtss(n int) []impl.Lts {
	m := maker{r: rand.New(rand.NewPCG(107, 108))}
	var list []impl.Lts
	for range n {
		list = append(list, m.winding(3+m.r.Int64N(8)))
	}
	return list
}

// tracedPairs returns pairs of systems, some of which have the same traces, or nearly the same ones.
func tracedPairs(n int) [][2]impl.Lts {
	m := maker{r: rand.New(rand.NewPCG(101, 102))}
	var list [][2]impl.Lts
	for len(list) < n {
		x, other := m.traced(1+m.r.Int64N(6), m.r.IntN(14)), m.traced(1+m.r.Int64N(6), 4+m.r.IntN(14))
		if m.r.IntN(2) == 0 {
			x, other = m.winding(3+m.r.Int64N(7)), m.winding(3+m.r.Int64N(7))
		}
		s := sketchOf(x)
		switch i := m.r.IntN(max(len(s.edges), 1)); m.r.IntN(9) {
		case 0, 1:
			s = sketchOf(other)
		case 2, 3:
			s.edges = append(s.edges, m.someArrow(s))
		case 4, 5:
			s.edges = append(s.edges[:i], s.edges[min(i+1, len(s.edges)):]...)
		case 6, 7:
			// An edge leads to another state.
			if len(s.edges) > 0 {
				s.edges[i].to = m.someState(s)
			}
		}
		if y := m.disguised(s.lts()); isLts(y) {
			list = append(list, [2]impl.Lts{x, y})
		}
	}
	return list
}

// someTrace returns visible labels, most of which are those of a path, with perhaps one more somewhere.
func someTrace(r *rand.Rand, x impl.Lts) []string {
	trace := slices.DeleteFunc(someLabels(r, x), func(label string) bool { return label == "tau" })
	if r.IntN(4) == 0 {
		trace = slices.Insert(trace, r.IntN(len(trace)+1), []string{"a", "a(1)", "b", "d"}[r.IntN(4)])
	}
	return trace
}

func TestPromise13StatesBehindTraces(t *testing.T) {
	t.Parallel()
	r := rand.New(rand.NewPCG(103, 104))
	c := tally{}
	for _, x := range slices.Concat(tracedLtss(800), windingLtss(200), smallLtss(200), largeLtss(40), largestLtss(), tooLargeLtss(), []impl.Lts{hall(), house()}) {
		for range 4 {
			trace := someTrace(r, x)
			var states []int64
			completed := false
			for k := range x.States {
				if hasTrace(x, trace, k) {
					states = append(states, k)
					completed = completed || !slices.ContainsFunc(x.Edges, func(e impl.Edge) bool { return e.From == k })
				}
			}
			code := int64(impl.OK)
			if len(states) == 0 {
				code = impl.ErrNotFound
			}
			expect(t, impl.AfterTrace, in(x, trace), states, code)
			expect(t, impl.IsCompletedTrace, in(x, trace), completed, code)
			if after := tracerOf(x).after(trace); !slices.Equal(after, states) {
				t.Fatalf("%q in %q: %v and %v", trace, exactLtsText(x), after, states)
			}
			c[impl.CodeName(code)]++
			c["several"] += int(oneIf(len(states) > 1))
			c["completed"] += int(oneIf(completed && len(trace) > 0))
			c["long"] += int(oneIf(code == impl.OK && len(trace) > 2))
		}
	}
	c.expect(t, tally{"ok": 2000, "not-found": 400, "several": 800, "completed": 300, "long": 500})
}

func TestPromise13ClosuresOfSomeStates(t *testing.T) {
	t.Parallel()
	r := rand.New(rand.NewPCG(105, 106))
	more := 0
	for _, x := range slices.Concat(tracedLtss(500), labelledLtss(200), largeLtss(40)) {
		for range 3 {
			states := someTargets(r, x)
			want := listOf(tracerOf(x).internal.rowOf(rowFrom(states, x.States)))
			expect(t, impl.InternalClosure, in(x, states), want, impl.OK)
			more += int(oneIf(len(want) > len(states)))
		}
	}
	if more < 500 {
		t.Error("too few cases:", more)
	}
}

// TestPromise13DeterministicSystems also takes systems with many sets.
func TestPromise13DeterministicSystems(t *testing.T) {
	t.Parallel()
	c := tally{}
	for _, x := range slices.Concat(tracedLtss(1000), windingLtss(600), labelledLtss(300), smallLtss(200), largeLtss(60), validLtss()) {
		want, sets, code := determinized(x)
		expect(t, impl.DeterminizeLts, in(x), want, sets, code)
		least, _ := leastOf(x)
		expect(t, impl.MinimalTraces, in(x), least, code)
		c[impl.CodeName(code)]++
		if code != impl.OK {
			continue
		}
		if !impl.IsDeterministicLts(want) {
			t.Fatalf("%q", exactLtsText(want))
		}
		c["many sets"] += int(oneIf(len(sets) > int(x.States)))
		c["several states"] += int(oneIf(slices.ContainsFunc(sets[1:], func(set []int64) bool { return len(set) > 1 })))
		c["less"] += int(oneIf(least.States < want.States && least.States > 1))
	}
	c.expect(t, tally{"ok": 1800, "full": 10, "many sets": 50, "several states": 500, "less": 200})
}

// TestPromise13ATraceIsOneOfExactlyOne checks each trace that tells systems apart, and that no lesser one does.
func TestPromise13ATraceIsOneOfExactlyOne(t *testing.T) {
	t.Parallel()
	c := tally{}
	for _, p := range tracedPairs(2000) {
		a, b := p[0], p[1]
		inA, code := soughtIn(b, a, inSecondAlone)
		inB, _ := soughtIn(a, b, inSecondAlone)
		if code != impl.OK {
			c["full"]++
			continue
		}
		checkCompared(t, a, b, inA, inB)
		equal, trace, _ := impl.EqualTraces(a, b)
		if isOfA, isOfB := len(tracerOf(a).after(trace)) > 0, len(tracerOf(b).after(trace)) > 0; equal != (isOfA && isOfB) || !isOfA && !isOfB {
			t.Fatalf("%q tells %q and %q apart", trace, exactLtsText(a), exactLtsText(b))
		}
		c["equal"] += int(oneIf(equal))
		c["one way"] += int(oneIf((len(inA) == 0) != (len(inB) == 0)))
		c["no way"] += int(oneIf(len(inA) > 0 && len(inB) > 0))
		c["long"] += int(oneIf(len(trace) > 3))
		// All traces that come before this one are traces of both, or of none.
		one, codeA := tracesIn(a, len(trace))
		two, codeB := tracesIn(b, len(trace))
		if !equal && codeA == impl.OK && codeB == impl.OK {
			c["before"] += checkBefore(t, one, two, trace)
		}
	}
	c.expect(t, tally{"equal": 600, "one way": 500, "no way": 120, "long": 80, "before": 4000})
}

// checkBefore checks that two lists in order are equal before a trace that one of them has, and returns how many come before.
func checkBefore(t *testing.T, one, two [][]string, trace []string) int {
	t.Helper()
	isTrace := func(other []string) bool { return slices.Equal(other, trace) }
	i, k := slices.IndexFunc(one, isTrace), slices.IndexFunc(two, isTrace)
	if (i < 0) == (k < 0) || !same(one[:max(i, k)], two[:max(i, k)]) {
		t.Fatalf("%q is not the first difference of %q and %q", trace, one, two)
	}
	return max(i, k)
}

func TestPromise13MinimalSystemsAreEqualExactlyIfTheTracesAre(t *testing.T) {
	t.Parallel()
	c := tally{}
	for _, p := range tracedPairs(2500) {
		equal, _, code := impl.EqualTraces(p[0], p[1])
		if code != impl.OK {
			c["full"]++
			continue
		}
		var least [2]impl.Lts
		for i, x := range p {
			m, code := impl.MinimalTraces(x)
			if again, _, _ := impl.EqualTraces(m, x); code != impl.OK || !impl.IsDeterministicLts(m) || !again {
				t.Fatalf("%q has not the traces of %q", impl.LtsText(m), exactLtsText(x))
			}
			least[i] = m
		}
		if impl.SameLts(least[0], least[1]) != equal {
			t.Fatalf("%q and %q: %q and %q", exactLtsText(p[0]), exactLtsText(p[1]), impl.LtsText(least[0]), impl.LtsText(least[1]))
		}
		c["equal"] += int(oneIf(equal && len(least[0].Edges) > 1))
		c["different"] += int(oneIf(!equal))
		c["alike"] += int(oneIf(!equal && least[0].States == least[1].States && len(least[0].Edges) == len(least[1].Edges)))
	}
	c.expect(t, tally{"equal": 500, "different": 800, "alike": 50})
}

// smallestLtss returns all systems with two states and any edges with tau, a and b.
func smallestLtss() []impl.Lts {
	var list []impl.Lts
	for bits := range 1 << 12 {
		x := impl.Lts{States: 2, Labels: []string{"tau", "a", "b"}}
		for i := range int64(12) {
			if bits>>i&1 == 1 {
				x.Edges = append(x.Edges, impl.Edge{From: i / 6, Label: i / 2 % 3, To: i % 2})
			}
		}
		list = append(list, x)
	}
	return list
}

// TestPromise13AllSmallestSystems lists their traces: two systems of at most three sets that differ do so by one of at most
// six labels.
func TestPromise13AllSmallestSystems(t *testing.T) {
	t.Parallel()
	leastOnes, tracesOf := map[string]string{}, map[string]string{}
	kinds := map[string]impl.Lts{}
	for _, x := range smallestLtss() {
		traces, _ := tracesIn(x, 6)
		m, code := impl.MinimalTraces(x)
		text, key := impl.LtsText(m), fmt.Sprint(traces)
		if known, other := leastOnes[key], tracesOf[text]; code != impl.OK || known != "" && known != text || other != "" && other != key {
			t.Fatalf("%q: %q, and %q has the same traces", exactLtsText(x), text, known)
		}
		leastOnes[key], tracesOf[text], kinds[text] = text, key, x
	}
	compared := 0
	for _, a := range kinds {
		for _, b := range kinds {
			one, _ := tracesIn(a, 6)
			two, _ := tracesIn(b, 6)
			equal, trace, _ := impl.EqualTraces(a, b)
			if equal != same(one, two) {
				t.Fatalf("%q and %q", exactLtsText(a), exactLtsText(b))
			}
			if !equal {
				compared += checkBefore(t, one, two, trace)
			}
		}
	}
	if len(kinds) < 40 || compared < 3000 {
		t.Error("too few cases:", len(kinds), compared)
	}
}

func TestPromise13CountedTracesAreListed(t *testing.T) {
	t.Parallel()
	c := tally{}
	for _, x := range slices.Concat(tracedLtss(400), windingLtss(200), smallLtss(100), largeLtss(20), largestLtss()) {
		d, _, code := determinized(x)
		counts := repeated(13, 0)
		if code == impl.OK {
			counts = countsIn(d)
		}
		for n := range 13 {
			expect(t, impl.CountTraces, in(x, n), counts[n], code)
		}
		for _, n := range []int{0, 1, 2, 4, 7, 12} {
			want, other := tracesIn(x, n)
			if code != impl.OK {
				want, other = nil, code
			}
			expect(t, impl.TracesOf, in(x, n), want, other)
			c[impl.CodeName(other)]++
			c["listed"] += len(want)
		}
	}
	c.expect(t, tally{"ok": 2000, "full": 200, "listed": 20000})
}

func TestPromise13CommonTracesAreThoseOfBoth(t *testing.T) {
	t.Parallel()
	c := tally{}
	for _, p := range tracedPairs(1500) {
		code := checkCommon(t, p[0], p[1])
		c[impl.CodeName(code)]++
		one, codeA := tracesIn(p[0], 4)
		two, codeB := tracesIn(p[1], 4)
		if code != impl.OK || codeA != impl.OK || codeB != impl.OK {
			continue
		}
		common, _ := impl.CommonTraces(p[0], p[1])
		both := slices.DeleteFunc(slices.Clone(one), func(trace []string) bool {
			return !slices.ContainsFunc(two, func(other []string) bool { return slices.Equal(trace, other) })
		})
		if list, _ := tracesIn(common, 4); !same(list, both) {
			t.Fatalf("%q and %q: %q has not the traces %q", exactLtsText(p[0]), exactLtsText(p[1]), exactLtsText(common), both)
		}
		c["less than both"] += int(oneIf(len(both) < len(one) && len(both) < len(two) && len(both) > 1))
	}
	c.expect(t, tally{"ok": 1200, "full": 5, "less than both": 50})
}
