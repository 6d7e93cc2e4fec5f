package tests

import (
	"slices"
	"strings"
	"testing"

	"loop.example/g01075/impl"
)

// checkCompared compares the traces of two systems both ways, where the first trace that only one of them has is empty if
// there is none. It also checks that this is what the definition says.
func checkCompared(t *testing.T, a, b impl.Lts, inAAlone, inBAlone []string) {
	t.Helper()
	expect(t, impl.IncludesTraces, in(a, b), len(inBAlone) == 0, inBAlone, impl.OK)
	expect(t, impl.IncludesTraces, in(b, a), len(inAAlone) == 0, inAAlone, impl.OK)
	first := inAAlone
	if len(first) == 0 || len(inBAlone) > 0 && (len(inBAlone) < len(first) || len(inBAlone) == len(first) && slices.Compare(inBAlone, first) < 0) {
		first = inBAlone
	}
	expect(t, impl.EqualTraces, in(a, b), len(first) == 0, first, impl.OK)
	expect(t, impl.EqualTraces, in(b, a), len(first) == 0, first, impl.OK)
	for _, x := range [][2]impl.Lts{{a, b}, {b, a}} {
		if !isLts(x[0]) {
			t.Fatalf("%+v should be valid", x[0])
		}
		want := map[bool][]string{true: inBAlone, false: inAAlone}[same(x[0], a)]
		alone, code := soughtIn(x[0], x[1], inSecondAlone)
		one, other := soughtIn(x[0], x[1], inOneAlone)
		if !slices.Equal(alone, want) || !slices.Equal(one, first) || code != impl.OK || other != impl.OK {
			t.Errorf("%q and %q: defined as %q and %q, and expected as %q and %q", exactLtsText(x[0]), exactLtsText(x[1]), alone, one, want, first)
		}
	}
}

func TestComparedTraces(t *testing.T) {
	example := exactLtsText(traceExample())
	for _, c := range []struct{ a, b, inA, inB string }{
		{example, "1 0|a|0:1:0", "b", ""},
		{"1 0|-|-", "1 0|-|-", "", ""},
		{"1 0|-|-", "2 1|a|1:1:1", "", "a"},
		// Neither includes the other: told apart by labels that the other one does not have, the first one or the last one.
		{"1 0|a|0:1:0", "1 0|b|0:1:0", "a", "b"},
		{"2 0|a b|0:1:1 1:2:0", "2 0|a c|0:1:1 1:2:0", "a b", "a c"},
		{"1 0|a(1)|0:1:0", "1 0|a(2)|0:1:0", "a(1)", "a(2)"},
		{"1 0|a|0:1:0", "1 0|a(0)|0:1:0", "a", "a(0)"},
		{"1 0|b|0:1:0", "1 0|a b c|0:1:0 0:2:0 0:3:0", "", "a"},
		{"1 0|b|0:1:0", "1 0|b c|0:1:0 0:2:0", "", "c"},
		// By the first, by the last, and by a label in between, which both have.
		{"2 0|a b c|0:2:0 0:3:0 1:1:1", "1 0|a b c|0:1:0 0:2:0 0:3:0", "", "a"},
		{"2 0|a b c|0:1:0 0:2:0 1:3:1", "1 0|a b c|0:1:0 0:2:0 0:3:0", "", "c"},
		{"2 0|a b c|0:1:0 0:3:0 1:2:1", "1 0|a b c|0:1:0 0:2:0 0:3:0", "", "b"},
		// Of several that are as short, the least one, which neither the state nor the order of finding decides.
		{"3 0|a b|0:1:2 0:2:1", "3 0|a b|0:1:2 0:2:1 1:1:1 2:2:2", "", "a b"},
		{"3 0|a b|0:1:2 0:2:1", "3 0|a b|0:1:2 0:2:1 1:1:1", "", "b a"},
		{"3 0|a b|0:1:1 0:2:2", "5 0|a b|0:1:2 0:2:1 1:1:3 1:2:4 2:1:4 2:2:3", "", "a a"},
		{"5 0|a b c|0:1:3 0:2:1 1:3:4", "5 0|a b c|0:1:1 0:2:3 1:2:4", "b c", "a b"},
		{"2 0|a a(1) aa|0:1:1 0:2:1 0:3:1", "2 0|a a(1) aa|0:1:1 0:2:1 0:3:1 1:2:0 1:3:0", "", "a a(1)"},
		// Shorter ones come before lesser ones.
		{"4 0|a b|0:1:1 0:2:0 1:1:2 2:1:3", "3 0|a b|0:1:1 1:1:2", "b", ""},
		{"4 0|a b|0:1:1 1:1:2 2:1:3", "4 0|a b|0:1:1 0:2:2 1:1:2", "a a a", "b"},
		{"4 0|a b|0:1:1 1:1:2 1:2:1 2:1:3", "4 0|a b|0:1:1 1:1:2 1:2:1 2:2:3", "a a a", "a a b"},
		// Inclusion one way and the other way round, and a difference behind a circle.
		{"2 0|a|0:1:1", "3 0|a|0:1:1 1:1:2", "", "a a"},
		{"3 0|a|0:1:1 1:1:2 2:1:0", "3 0|a b|0:1:1 1:1:2 2:1:0 2:2:2", "", "a a b"},
		{"2 0|a b|0:1:0 0:2:1", "2 0|a b|0:1:0 0:2:1 1:1:0", "", "b a"},
		// Internal edges before a label and behind it.
		{"4 0|a b|0:0:1 1:1:2 2:0:3 3:2:0", "2 0|a b|0:1:1 1:2:0", "", ""},
		{"4 0|a b|0:0:1 1:1:2 2:0:3 3:2:0", "2 0|a b|0:1:1 1:2:1", "a b a", "a b b"},
		{"3 0|a b|0:0:1 0:1:0 1:2:2", "3 0|a b|0:0:1 1:1:0 1:2:2", "", ""},
		{"3 0|a b|0:0:1 0:1:0 1:2:2", "3 0|a b|0:0:1 1:0:0 1:1:0 1:2:2 2:0:2", "", ""},
		// What an internal edge leaves behind is in another state than what it leads to.
		{"4 0|a b c|0:0:1 0:1:2 1:2:3", "2 0|a b|0:1:1 0:2:1", "", ""},
		{"4 0|a b|0:1:1 0:1:2 1:1:3 2:2:3", "3 0|a b|0:1:1 1:1:2 1:2:2", "", ""},
	} {
		checkCompared(t, ltsFrom(c.a), ltsFrom(c.b), strings.Fields(c.inA), strings.Fields(c.inB))
	}
}

// equalTexts has lists of systems with the same traces.
var equalTexts = [][]string{
	// Other labels without edges, other internal edges, other states, and states and edges that no path leads to.
	{
		"1 0|-|-", "1 0|a b|-", "1 0|-|0:0:0", "2 1|c|0:1:0", "40 20|-|20:0:21 21:0:20", "3 0|a b|1:1:2 2:2:0", "2 0|-|0:0:1",
	},
	{
		"1 0|a|0:1:0", "1 0|a b c|0:1:0", "1 0|a|0:0:0 0:1:0", "2 0|a|0:1:1 1:1:0", "2 1|a|0:1:1 1:1:0", "2 0|a|0:0:1 1:1:0", "2 0|a|0:1:1 1:0:0", "3 0|a|0:1:1 1:1:2 2:1:1", "2 0|a|0:1:0 0:1:1", "2 0|a b|0:1:0 1:2:0", "3 2|a|0:0:2 1:1:0 2:0:1",
	},
	{
		"2 0|a b|0:1:0 0:2:1", "3 0|a b|0:0:1 0:1:0 1:2:2", "4 3|a b c|0:2:1 1:0:2 3:0:0 3:1:3 2:0:1", "3 0|a b|0:1:0 0:1:1 0:2:2 1:2:2", "5 0|a b|0:1:1 0:2:2 1:1:0 1:2:4 3:1:3",
	},
	{
		"4 0|a b c|0:1:1 1:2:2 1:3:3", "5 0|a b c|0:1:1 0:1:2 1:2:3 2:3:4", "3 0|a b c|0:1:1 1:2:2 1:3:2", "4 3|a b c|0:2:1 0:3:1 2:0:0 3:1:2", "6 0|a b c|0:1:1 1:0:2 1:0:3 2:2:4 3:3:5",
	},
}

// equalLtss returns the systems of equalTexts, with their edges in order.
func equalLtss() [][]impl.Lts {
	var all [][]impl.Lts
	for _, texts := range equalTexts {
		var list []impl.Lts
		for _, text := range texts {
			list = append(list, sketchOf(ltsFrom(text)).lts())
		}
		all = append(all, list)
	}
	return all
}

func TestEqualTraces(t *testing.T) {
	all := equalLtss()
	for _, list := range all {
		for _, a := range list {
			for _, b := range list {
				checkCompared(t, a, b, nil, nil)
			}
		}
	}
	for i, list := range all {
		for _, a := range list {
			for _, other := range all[i+1:] {
				inA, _ := soughtIn(other[0], a, inSecondAlone)
				inB, _ := soughtIn(a, other[0], inSecondAlone)
				checkCompared(t, a, other[0], inA, inB)
			}
		}
	}
}

// TestLongTraces has differences behind as many labels as the systems allow.
func TestLongTraces(t *testing.T) {
	row := func(states int64) impl.Lts {
		x := ring(states, "a")
		x.Edges = x.Edges[:states-1]
		return x
	}
	as := func(n int) []string { return slices.Repeat([]string{"a"}, n) }
	checkCompared(t, row(40), row(39), as(39), nil)
	checkCompared(t, row(40), ring(1, "a"), nil, as(40))
	checkCompared(t, row(2), ring(40, "a"), nil, as(2))
	checkCompared(t, ring(39, "a"), ring(40, "a"), nil, nil)
	// A ring of which the last state alone can do b, and a greater one of which all but the last one can: both are at their
	// last states for the first time when the one has gone round as often as the other one has states.
	for _, n := range []int64{1, 2, 5, 19, 30} {
		last := marked(n, func(k int64) bool { return k == n-1 })
		others := marked(n+1, func(k int64) bool { return k < n })
		checkCompared(t, last, others, append(as(int(n*(n+1)-1)), "b"), map[bool][]string{true: nil, false: {"b"}}[n == 1])
	}
}

// marked returns a ring of states, from some of which b leads to a state without edges.
func marked(states int64, isMarked func(k int64) bool) impl.Lts {
	s := sketchOf(ring(states, "a"))
	s.labels, s.states = append(s.labels, "b"), append(s.states, "end")
	for k := range states {
		if isMarked(k) {
			s.edges = append(s.edges, arrow{s.states[k], "b", "end"})
		}
	}
	return s.lts()
}

// TestComparedTracesLimits has systems whose deterministic ones are too large, both, the first, or the second.
func TestComparedTracesLimits(t *testing.T) {
	for _, x := range tooLargeLtss() {
		for _, f := range []any{impl.IncludesTraces, impl.EqualTraces} {
			expect(t, f, in(x, x), nil, nil, impl.ErrFull)
			for _, other := range append(largestLtss(), traceExample(), ltsFrom("1 0|-|-"), lasso(40)) {
				expect(t, f, in(x, other), nil, nil, impl.ErrFull)
				expect(t, f, in(other, x), nil, nil, impl.ErrFull)
			}
		}
		for _, other := range append(largestLtss(), traceExample(), ltsFrom("1 0|-|-"), lasso(40)) {
			expect(t, impl.CommonTraces, in(x, other), nil, impl.ErrFull)
			expect(t, impl.CommonTraces, in(other, x), nil, impl.ErrFull)
		}
	}
	largest := largestLtss()
	for i, a := range largest {
		for _, b := range largest[i:] {
			inA, code := soughtIn(b, a, inSecondAlone)
			inB, other := soughtIn(a, b, inSecondAlone)
			if code != impl.OK || other != impl.OK {
				t.Error("not too large:", i, code, other)
			}
			checkCompared(t, a, b, inA, inB)
		}
	}
}
