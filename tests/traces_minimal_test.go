package tests

import (
	"testing"

	"loop.example/g01075/impl"
)

func TestMinimalTraces(t *testing.T) {
	for text, want := range map[string]string{
		exactLtsText(traceExample()): "2 0|a b|0:1:0 0:2:1",
		"1 0|-|-":                    "1 0|-|-",
		// Labels that no edge has, or none that a path leads to.
		"1 0|a b|-":                 "1 0|-|-",
		"3 0|a b c|0:2:1 2:1:1":     "2 0|b|0:1:1",
		"3 2|a b c|0:1:1 2:3:2":     "1 0|c|0:1:0",
		"1 0|a b c|0:0:0 0:3:0":     "1 0|c|0:1:0",
		"40 39|-|0:0:39":            "1 0|-|-",
		"3 0|a|0:0:1 1:0:2 2:0:0":   "1 0|-|-",
		"2 1|a|1:1:0":               "2 0|a|0:1:1",
		"4 0|a|0:0:1 1:1:2 2:0:3":   "2 0|a|0:1:1",
		"3 0|a|0:1:1 0:1:2 1:1:0":   "1 0|a|0:1:0",
		"3 0|a b|0:1:0 0:1:1 1:2:2": "3 0|a b|0:1:1 1:1:1 1:2:2",
		// States that only differ in their numbers: side by side, one behind the other, and two of three.
		"3 0|a b|0:1:1 0:2:2":                     "2 0|a b|0:1:1 0:2:1",
		"5 0|a b c|0:1:1 0:2:2 1:3:3 2:3:4":       "3 0|a b c|0:1:1 0:2:1 1:3:2",
		"5 0|a b c|0:1:1 0:2:2 1:3:1 2:3:2":       "2 0|a b c|0:1:1 0:2:1 1:3:1",
		"4 0|a b c|0:1:1 0:2:2 0:3:3 1:1:1 3:1:3": "3 0|a b c|0:1:1 0:2:2 0:3:1 1:1:1",
		"3 0|a|0:1:1 1:1:2 2:1:2":                 "1 0|a|0:1:0",
		"3 0|a b|0:1:1 1:1:2 2:2:2":               "3 0|a b|0:1:1 1:1:2 2:2:2",
		// States that differ in what is two labels away alone.
		"6 0|a b c|0:1:1 0:2:2 1:3:3 2:3:4 3:1:5": "5 0|a b c|0:1:1 0:2:2 1:3:3 2:3:4 3:1:4",
		// Circles, also those that can be gone round in fewer states.
		"2 0|a b|0:1:1 1:2:0":                                   "2 0|a b|0:1:1 1:2:0",
		"4 0|a b|0:1:1 1:2:2 2:1:3 3:2:0":                       "2 0|a b|0:1:1 1:2:0",
		"6 5|a b|0:2:1 1:1:2 2:1:3 3:2:4 4:1:5 5:1:0":           "3 0|a b|0:1:1 1:2:2 2:1:0",
		"6 0|a b|0:1:1 1:1:2 2:2:3 3:1:4 4:1:5 5:2:0":           "3 0|a b|0:1:1 1:1:2 2:2:0",
		"6 0|a b|0:1:1 1:2:2 2:1:3 3:2:4 4:1:5 5:2:4":           "2 0|a b|0:1:1 1:2:0",
		"3 0|a b|0:1:1 0:2:2 1:1:1 1:2:1 2:1:2 2:2:2":           "1 0|a b|0:1:0 0:2:0",
		"4 0|a b|0:1:1 0:2:2 1:1:3 1:2:2 2:1:3 2:2:1 3:1:3":     "3 0|a b|0:1:1 0:2:1 1:1:2 1:2:1 2:1:2",
		"5 0|a b c|0:1:1 0:3:4 1:1:2 2:1:0 4:2:4":               "4 0|a b c|0:1:1 0:3:2 1:1:3 2:2:2 3:1:0",
		"3 0|a|0:1:1 1:1:2 2:1:0":                               "1 0|a|0:1:0",
		"5 4|a a(1) b(0,1)|0:2:1 1:3:2 2:3:1 3:1:3 4:1:4 4:2:0": "3 0|a a(1) b(0,1)|0:1:0 0:2:1 1:2:2 2:3:2",
		// Numbered as they are found, by labels and not by the states of the sets.
		"4 0|a b c|0:1:3 0:2:2 0:3:1 1:1:1 2:2:2 3:3:3": "4 0|a b c|0:1:1 0:2:2 0:3:3 1:3:1 2:2:2 3:1:3",
	} {
		x, expected := ltsFrom(text), ltsFrom(want)
		defined, code := leastOf(x)
		if !same(defined, expected) || code != impl.OK {
			t.Errorf("%q: defined as %q, code %d, and expected as %q", text, exactLtsText(defined), code, want)
		}
		expect(t, impl.MinimalTraces, in(x), expected, impl.OK)
		expect(t, impl.MinimalTraces, in(expected), expected, impl.OK)
	}
}

func TestMinimalTracesAreTheSame(t *testing.T) {
	for i, list := range equalLtss() {
		want, _ := leastOf(list[0])
		if exactLtsText(want) != []string{"1 0|-|-", "1 0|a|0:1:0", "2 0|a b|0:1:0 0:2:1", "3 0|a b c|0:1:1 1:2:2 1:3:2"}[i] {
			t.Errorf("%+v", want)
		}
		for _, x := range list {
			expect(t, impl.MinimalTraces, in(x), want, impl.OK)
		}
	}
	for _, x := range largestLtss() {
		want, _ := leastOf(x)
		expect(t, impl.MinimalTraces, in(x), want, impl.OK)
	}
	// No two of these 40 states have the same traces; of a ring, all have.
	x := lasso(39)
	x.Edges, x.Labels = x.Edges[:38], x.Labels[:2]
	expect(t, impl.MinimalTraces, in(x), impl.Lts{States: 39, Labels: x.Labels, Edges: x.Edges}, impl.OK)
	expect(t, impl.MinimalTraces, in(ring(40, "a")), ltsFrom("1 0|a|0:1:0"), impl.OK)
}

// checkCommon compares common traces, both ways, with what the definition says, and returns the code.
func checkCommon(t *testing.T, a, b impl.Lts) int64 {
	t.Helper()
	if !isLts(a) || !isLts(b) {
		t.Fatalf("%+v and %+v should be valid", a, b)
	}
	want, code := commonOf(a, b)
	expect(t, impl.CommonTraces, in(a, b), want, code)
	expect(t, impl.CommonTraces, in(b, a), want, code)
	return code
}

func TestCommonTraces(t *testing.T) {
	for _, c := range [][3]string{
		{"3 0|a b|0:0:1 0:1:0 1:2:2", "1 0|a|0:1:0", "1 0|a|0:1:0"},
		{"3 0|a b|0:0:1 0:1:0 1:2:2", "3 0|a b|0:0:1 0:1:0 1:2:2", "2 0|a b|0:1:0 0:2:1"},
		// No label in common, no label at all, and one name with different values.
		{"1 0|a|0:1:0", "1 0|b|0:1:0", "1 0|-|-"},
		{"1 0|-|-", "1 0|-|-", "1 0|-|-"},
		{"1 0|-|0:0:0", "2 0|a b|0:1:1 1:2:0", "1 0|-|-"},
		{"1 0|a(1)|0:1:0", "1 0|a(2)|0:1:0", "1 0|-|-"},
		{"1 0|a|0:1:0", "1 0|a(0) a(0,0)|0:1:0 0:2:0", "1 0|-|-"},
		{"1 0|a a(1) a(2)|0:1:0 0:2:0 0:3:0", "3 0|a(1) a(2) a(3)|0:1:1 0:3:2 1:2:0 2:2:2", "2 0|a(1) a(2)|0:1:1 1:2:0"},
		{"1 0|a(1) b(1)|0:1:0 0:2:0", "1 0|a(1) b|0:1:0 0:2:0", "1 0|a(1)|0:1:0"},
		// One of both without edges, or with labels alone that the other one also has.
		{"1 0|a|0:1:0", "1 0|a|-", "1 0|-|-"},
		{"2 0|a|0:1:1", "3 0|a|0:1:1 1:1:2", "2 0|a|0:1:1"},
		{"3 0|a b|0:1:1 1:2:2", "3 0|a b|0:1:1 0:2:1 1:1:2", "2 0|a|0:1:1"},
		// Internal edges do not meet, and a label of another trace does not help.
		{"3 0|a b|0:0:1 1:1:0 1:0:2", "4 0|a b|0:1:1 1:0:2 2:1:3 2:2:0", "3 0|a|0:1:1 1:1:2"},
		{"3 0|a b c|0:1:1 1:2:2", "4 0|a b c|0:1:1 0:2:2 1:3:3 2:1:3", "2 0|a|0:1:1"},
		// Circles of 2 and 3 labels, and a minimal system that is less than both.
		{"2 0|a b|0:1:1 1:1:0 1:2:0", "3 0|a b|0:1:1 1:1:2 1:2:2 2:1:0", "6 0|a b|0:1:1 1:1:2 1:2:2 2:1:3 3:1:4 4:1:5 5:1:0"},
		{"2 0|a|0:1:1 1:1:0", "3 0|a|0:1:1 1:1:2 2:1:0", "1 0|a|0:1:0"},
		{"4 0|a b c|0:1:1 0:2:2 1:1:3 2:1:3 2:3:3", "1 0|a b|0:1:0 0:2:0", "3 0|a b|0:1:1 0:2:1 1:1:2"},
		// Numbered as they are found in the result.
		{"3 2|a b|2:1:1 2:2:0", "4 3|a b|3:1:0 3:2:1 0:1:2 1:1:2", "2 0|a b|0:1:1 0:2:1"},
		{"4 1|a b c|0:3:0 1:1:3 1:2:2 1:3:0 2:2:2 3:1:3", "1 0|a b c|0:1:0 0:2:0 0:3:0", "4 0|a b c|0:1:1 0:2:2 0:3:3 1:1:1 2:2:2 3:3:3"},
	} {
		a, b := sketchOf(ltsFrom(c[0])).lts(), sketchOf(ltsFrom(c[1])).lts()
		expect(t, impl.CommonTraces, in(a, b), ltsFrom(c[2]), impl.OK)
		checkCommon(t, a, b)
	}
	for _, x := range append(largestLtss(), hall()) {
		expect(t, impl.CommonTraces, in(x, ltsFrom("1 0|-|-")), ltsFrom("1 0|-|-"), impl.OK)
	}
}

// many returns a ring in which each of some labels leads from each state to the next one, and the first one of some more
// labels from the first state.
func many(states int64, labels, more int) impl.Lts {
	s := sketchOf(ring(states, "z"))
	s.labels, s.edges = manyNames(labels), nil
	for k := range states {
		for _, label := range s.labels {
			s.edges = append(s.edges, arrow{s.states[k], label, s.states[(k+1)%states]})
		}
	}
	for _, label := range manyNames(labels + more)[labels:] {
		s.labels = append(s.labels, label)
		s.edges = append(s.edges, arrow{"0", label, s.states[1%states]})
	}
	return s.lts()
}

// TestCommonTracesLimits has products that are as large as a valid system may be, and larger.
func TestCommonTracesLimits(t *testing.T) {
	names := manyNames(12)
	labelled := func(labels ...string) impl.Lts {
		return impl.Lts{States: 1, Labels: append([]string{"tau"}, labels...)}
	}
	for i, c := range []struct {
		a, b impl.Lts
		code int64
	}{
		// Of states, 40 and more; b of both at their first states leads to one more state than 40.
		{ring(5, "a"), ring(8, "a"), impl.OK}, {ring(40, "a"), ring(40, "a"), impl.OK}, {ring(40, "a"), ring(20, "a"), impl.OK}, {ring(6, "a"), ring(7, "a"), impl.ErrFull}, {ring(39, "a"), ring(40, "a"), impl.ErrFull},
		{marked(5, isFirst), marked(8, isFirst), impl.ErrFull}, {marked(5, isFirst), ring(8, "a"), impl.OK}, {marked(3, isFirst), marked(13, isFirst), impl.OK},
		// Of edges, 300 and more.
		{many(5, 10, 0), many(6, 10, 0), impl.OK}, {many(5, 10, 1), many(6, 10, 1), impl.ErrFull}, {many(5, 10, 1), many(6, 10, 0), impl.OK}, {many(5, 11, 0), many(6, 11, 0), impl.ErrFull}, {many(5, 11, 0), many(6, 10, 0), impl.OK},
		// Of labels, 11 beside tau, whether or not an edge has them.
		{labelled(names[:6]...), labelled(names[6:11]...), impl.OK}, {labelled(names[:6]...), labelled(names[6:12]...), impl.ErrFull}, {labelled(names[:11]...), labelled(names[:11]...), impl.OK},
		{labelled(names[:11]...), labelled(names[11]), impl.ErrFull}, {labelled(names[:11]...), labelled(), impl.OK}, {labelled(names[:11]...), labelled(names[10], names[11]), impl.ErrFull},
		// Less than 300 edges of both become some, though each system alone has as many as it may have.
		{fan(3), fan(2), impl.OK}, {fan(3), ltsFrom("1 0|a|0:1:0"), impl.ErrFull}, {lasso(39), ring(2, "a"), impl.OK},
		// What is too large before it is made minimal, and would not be then.
		{ring(40, "a"), ring(39, "a"), impl.ErrFull}, {ring(7, "a"), ring(6, "a"), impl.ErrFull},
	} {
		if code := checkCommon(t, c.a, c.b); code != c.code {
			t.Errorf("case %d: code %d, and %d expected", i, code, c.code)
		}
	}
}

func isFirst(k int64) bool { return k == 0 }
