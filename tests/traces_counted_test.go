package tests

import (
	"strings"
	"testing"

	"loop.example/g01075/impl"
)

// pyramid returns a system in which a and b lead from each state k to the one before it, so that 2 to the k + 1, less 1,
// traces begin there, the empty one included. From the initial state, which is the last one, more labels lead to others.
func pyramid(height int64, others ...int64) impl.Lts {
	s := sketchOf(impl.Lts{States: height + 1, Initial: height, Labels: []string{"tau"}})
	for k := range height {
		s.edges = append(s.edges, arrow{s.states[k+1], "a", s.states[k]}, arrow{s.states[k+1], "b", s.states[k]})
	}
	s.labels = []string{"a", "b"}
	for i, k := range others {
		label := manyNames(len(others))[i]
		s.labels = append(s.labels, label)
		s.edges = append(s.edges, arrow{s.initial, label, s.states[k]})
	}
	return s.lts()
}

func TestCountTraces(t *testing.T) {
	for _, c := range []struct {
		x      impl.Lts
		counts []int64
	}{
		{traceExample(), repeated(13, 2)},
		{ltsFrom("1 0|a|0:1:0"), repeated(13, 1)},
		// Without edges, and with internal ones alone.
		{ltsFrom("1 0|-|-"), nil}, {ltsFrom("1 0|a b|-"), nil}, {ltsFrom("1 0|-|0:0:0"), nil}, {ltsFrom("3 1|a|0:1:1 1:0:2 2:0:1"), nil}, {full(11, 300), nil},
		{ltsFrom("1 0|a b|0:1:0 0:2:0"), []int64{1, 2, 4, 8, 16, 32, 64, 128, 256, 512, 1024, 2048, 4096}},
		{ltsFrom("2 0|a b|0:1:0 0:2:1 1:1:0"), []int64{1, 2, 3, 5, 8, 13, 21, 34, 55, 89, 144, 233, 377}},
		// A trace counts once, also if several paths have it.
		{ltsFrom("3 0|a|0:1:1 0:1:2 1:1:0 2:1:0"), repeated(13, 1)}, {ltsFrom("2 0|a|0:0:1 0:1:0 1:1:0 1:1:1"), repeated(13, 1)}, {ltsFrom("4 0|a b|0:1:1 0:1:2 1:1:3 2:2:3"), []int64{1, 1, 2}},
		{pyramid(6), []int64{1, 2, 4, 8, 16, 32, 64}}, {pyramid(3, 1, 0), []int64{1, 4, 6, 8}}, {doubling(6), []int64{1, 2, 4, 8, 16, 32, 64, 128, 256, 512, 1024, 2048, 4096}},
		{ring(40, "a"), repeated(13, 1)}, {pyramid(12), []int64{1, 2, 4, 8, 16, 32, 64, 128, 256, 512, 1024, 2048, 4096}},
	} {
		c.counts = append(c.counts, repeated(13, 0)[len(c.counts):]...)
		c.counts[0] = 1
		for n, want := range c.counts {
			expect(t, impl.CountTraces, in(c.x, n), want, impl.OK)
		}
		for _, n := range noIndices(13) {
			expect(t, impl.CountTraces, in(c.x, n), nil, impl.ErrRange)
		}
		if d, _, _ := determinized(c.x); !same(countsIn(d), c.counts) {
			t.Errorf("%q: defined as %v, and expected as %v", exactLtsText(c.x), countsIn(d), c.counts)
		}
	}
	// As many as there may be: each of 11 labels at each of 12 places.
	most := impl.Lts{States: 1, Labels: append([]string{"tau"}, manyNames(11)...)}
	for label := range int64(11) {
		most.Edges = append(most.Edges, impl.Edge{Label: label + 1})
	}
	expect(t, impl.CountTraces, in(most, 12), 3138428376721, impl.OK)
}

// wordsOf returns the empty trace and others, which are written with blanks between them and dots between their labels.
func wordsOf(text string) [][]string {
	traces := [][]string{{}}
	for _, trace := range strings.Fields(text) {
		traces = append(traces, strings.Split(trace, "."))
	}
	return traces
}

func TestTracesOf(t *testing.T) {
	for _, c := range []struct {
		text string
		n    int64
		want string
	}{
		{"3 0|a b|0:0:1 0:1:0 1:2:2", 0, ""}, {"3 0|a b|0:0:1 0:1:0 1:2:2", 1, "a b"}, {"3 0|a b|0:0:1 0:1:0 1:2:2", 3, "a b a.a a.b a.a.a a.a.b"},
		{"1 0|-|-", 0, ""}, {"1 0|-|-", 12, ""}, {"1 0|a b|0:0:0", 12, ""}, {"2 1|a|0:1:1", 12, ""}, {"2 0|a|0:1:1", 12, "a"},
		{"1 0|a|0:1:0", 4, "a a.a a.a.a a.a.a.a"}, {"3 2|a b|0:0:1 1:2:0 2:1:0", 3, "a a.b a.b.b"},
		// Once each, also if several paths have them, and in the order of labels, which is not that of states.
		{"4 0|a b|0:1:1 0:1:2 1:1:3 2:1:3 2:2:3", 2, "a a.a a.b"}, {"4 0|a b|0:1:3 0:2:1 1:1:2 3:2:2", 2, "a b a.b b.a"},
		{"3 0|a a(1) a(1,2) aa b(3)|0:1:1 0:3:2 0:4:1 0:5:1 1:2:2 2:5:2", 2, "a a(1,2) aa b(3) a.a(1) a(1,2).b(3) aa.a(1) b(3).a(1)"},
		// Longer ones come behind all shorter ones.
		{"3 0|a b|0:1:1 0:2:2 1:1:1", 3, "a b a.a a.a.a"}, {"2 0|a b|0:1:0 0:2:1 1:1:0", 2, "a b a.a a.b b.a"},
	} {
		x, want := ltsFrom(c.text), wordsOf(c.want)
		expect(t, impl.TracesOf, in(x, c.n), want, impl.OK)
		if defined, code := tracesIn(x, int(c.n)); !same(defined, want) || code != impl.OK {
			t.Errorf("%q: defined as %q, code %d", c.text, defined, code)
		}
		for _, n := range noIndices(13) {
			expect(t, impl.TracesOf, in(x, n), nil, impl.ErrRange)
		}
	}
}

// TestTracesOfLimit has as many traces as there may be, and one more, of few and of many labels.
func TestTracesOfLimit(t *testing.T) {
	eleven := impl.Lts{States: 1, Labels: append([]string{"tau"}, manyNames(11)...)}
	for label := range int64(11) {
		eleven.Edges = append(eleven.Edges, impl.Edge{Label: label + 1})
	}
	for _, c := range []struct {
		x     impl.Lts
		n     int64
		count int
	}{
		{pyramid(6, 5, 2, 1), 6, 200}, {pyramid(6, 5, 2, 1), 12, 200}, {pyramid(6, 5, 2, 1, 0), 6, 201}, {pyramid(6, 5, 2, 1, 0), 12, 201}, {pyramid(6, 5, 2, 1, 0), 5, 105},
		{pyramid(6, 5, 2, 0, 0, 0), 7, 200}, {pyramid(6, 5, 2, 0, 0, 0, 0), 7, 201}, {pyramid(7), 6, 127}, {pyramid(7), 7, 255},
		{eleven, 0, 1}, {eleven, 1, 12}, {eleven, 2, 133}, {eleven, 3, 1464}, {eleven, 12, 3452271214393}, {ring(40, "a"), 12, 13}, {doubling(6), 6, 127}, {doubling(6), 7, 255},
	} {
		want, code := tracesIn(c.x, int(c.n))
		if (code == impl.OK) != (c.count <= 200) || code == impl.OK && len(want) != c.count {
			t.Errorf("%q up to %d: %d traces, code %d", exactLtsText(c.x), c.n, len(want), code)
		}
		if c.count <= 200 {
			expect(t, impl.TracesOf, in(c.x, c.n), want, impl.OK)
		} else {
			expect(t, impl.TracesOf, in(c.x, c.n), nil, impl.ErrFull)
		}
	}
}
