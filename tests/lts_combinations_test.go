package tests

import (
	"slices"
	"testing"

	"loop.example/g01075/impl"
)

func TestUsedLabels(t *testing.T) {
	for text, want := range map[string]string{
		"1 0|a b|0:2:0": "1 0|b|0:1:0", "1 0|a b|-": "1 0|-|-", "1 0|-|-": "1 0|-|-", "1 0|a|0:0:0": "1 0|-|0:0:0", "2 1|a a(0) a(1) b|0:0:1 0:2:0 1:4:1": "2 1|a(0) b|0:0:1 0:1:0 1:2:1",
		"1 0|a b|0:1:0 0:2:0": "1 0|a b|0:1:0 0:2:0",
		// Edges from states that no path leads to count as well.
		"3 0|a b c|0:2:0 2:3:1": "3 0|b c|0:1:0 2:2:1",
	} {
		expect(t, impl.UsedLabels, in(ltsFrom(text)), ltsFrom(want), impl.OK)
	}
	expect(t, impl.UsedLabels, in(house()), house(), impl.OK)
	expect(t, impl.UsedLabels, in(full(11, 300)), full(0, 300), impl.OK)
	last := full(11, 300)
	last.Edges[299].Label = 11
	want := full(0, 300)
	want.Labels, want.Edges[299].Label = []string{"tau", "nk"}, 1
	expect(t, impl.UsedLabels, in(last), want, impl.OK)
}

func TestHideLabels(t *testing.T) {
	x := "3 1|a a(1) a(1,2) aa b|0:0:1 0:1:1 0:2:1 1:3:2 1:5:2 2:4:0 2:4:2 2:5:2"
	for _, c := range []struct {
		text  string
		names []string
		want  string
	}{
		{x, nil, x},
		{x, []string{"c"}, x},
		{x, []string{"z", "c", "z"}, x},
		// All values of a name are hidden, names that begin with it are not, and equal edges are one.
		{x, []string{"a"}, "3 1|aa b|0:0:1 1:0:2 1:2:2 2:1:0 2:1:2 2:2:2"},
		{x, []string{"b"}, "3 1|a a(1) a(1,2) aa|0:0:1 0:1:1 0:2:1 1:0:2 1:3:2 2:0:2 2:4:0 2:4:2"},
		{x, []string{"aa"}, "3 1|a a(1) a(1,2) b|0:0:1 0:1:1 0:2:1 1:3:2 1:4:2 2:0:0 2:0:2 2:4:2"},
		{x, []string{"b", "a", "b"}, "3 1|aa|0:0:1 1:0:2 2:0:2 2:1:0 2:1:2"},
		{x, []string{"z", "b", "aa", "a", "a"}, "3 1|-|0:0:1 1:0:2 2:0:0 2:0:2"},
		// Labels without edges are hidden, or stay.
		{"1 0|a b|-", []string{"b"}, "1 0|a|-"},
		{"1 0|a b|-", []string{"a", "b"}, "1 0|-|-"},
		{"1 0|-|0:0:0", []string{"a"}, "1 0|-|0:0:0"},
		{"2 0|a|0:1:1", []string{"a"}, "2 0|-|0:0:1"},
	} {
		expect(t, impl.HideLabels, in(ltsFrom(c.text), c.names), ltsFrom(c.want), impl.OK)
	}
	for _, names := range notActionLists() {
		expect(t, impl.HideLabels, in(house(), names), nil, impl.ErrRange)
	}
	for _, names := range actionLists() {
		expect(t, impl.HideLabels, in(house(), names), sketchOf(house()).hidden(names).lts(), impl.OK)
	}
	expect(t, impl.HideLabels, in(full(11, 300), manyNames(11)), full(0, 300), impl.OK)
	expect(t, impl.HideLabels, in(full(11, 300), manyNames(26)[10:]), full(10, 300), impl.OK)
}

func TestRenameLabels(t *testing.T) {
	x := "2 0|a a(1) a(1,2) aa b b(1)|0:0:1 0:1:1 0:2:0 0:4:1 0:5:1 0:6:0 1:2:0 1:3:0 1:6:1"
	for _, c := range []struct{ text, from, to, want string }{
		{"1 0|a(1) c|0:1:0 0:2:0", "a", "d", "1 0|c d(1)|0:1:0 0:2:0"},
		{x, "a", "a", x},
		{x, "c", "c", x},
		{x, "c", "d", x},
		{x, "c", "a", x},
		{x, "tauu", "a", x},
		// Labels that go before and behind others.
		{x, "a", "c", "2 0|aa b b(1) c c(1) c(1,2)|0:0:1 0:1:1 0:2:1 0:3:0 0:4:1 0:5:0 1:3:1 1:5:0 1:6:0"},
		{x, "aa", "a", "2 0|a a(1) a(1,2) b b(1)|0:0:1 0:1:1 0:2:0 0:4:1 0:5:0 1:2:0 1:3:0 1:5:1"},
		// Labels that become equal, and edges that do.
		{x, "b", "a", "2 0|a a(1) a(1,2) aa|0:0:1 0:1:1 0:2:0 0:4:1 1:2:0 1:2:1 1:3:0"},
		{x, "a", "b", "2 0|aa b b(1) b(1,2)|0:0:1 0:1:1 0:2:1 0:3:0 1:3:0 1:3:1 1:4:0"},
		{x, "b", "abcdefghij", "2 0|a a(1) a(1,2) aa abcdefghij abcdefghij(1)|0:0:1 0:1:1 0:2:0 0:4:1 0:5:1 0:6:0 1:2:0 1:3:0 1:6:1"},
		{"1 0|b|-", "b", "a", "1 0|a|-"},
		{"1 0|a b|-", "b", "a", "1 0|a|-"},
		{"1 0|-|0:0:0", "a", "b", "1 0|-|0:0:0"},
		{"1 0|a|0:1:0", "a", "taus", "1 0|taus|0:1:0"},
	} {
		expect(t, impl.RenameLabels, in(ltsFrom(c.text), c.from, c.to), ltsFrom(c.want), impl.OK)
	}
	for _, name := range append(noNames(), "tau", "a(1)", "tau(0)") {
		expect(t, impl.RenameLabels, in(house(), name, "a"), nil, impl.ErrRange)
		expect(t, impl.RenameLabels, in(house(), "a", name), nil, impl.ErrRange)
		expect(t, impl.RenameLabels, in(house(), "z", name), nil, impl.ErrRange)
		expect(t, impl.RenameLabels, in(house(), name, name), nil, impl.ErrRange)
	}
	expect(t, impl.RenameLabels, in(full(11, 300), "na", "z"), sketchOf(full(11, 300)).renamed("na", "z").lts(), impl.OK)
}

// ring returns a system with some states in a ring and one label.
func ring(states int64, label string) impl.Lts {
	x := impl.Lts{States: states, Labels: []string{"tau", label}}
	for k := range states {
		x.Edges = append(x.Edges, impl.Edge{From: k, Label: 1, To: (k + 1) % states})
	}
	return x
}

func TestUnionLts(t *testing.T) {
	for _, c := range [][3]string{
		{"2 0|a|0:1:1", "1 0|b|0:1:0", "3 0|a b|0:1:1 2:2:2"},
		{"1 0|b|0:1:0", "2 0|a|0:1:1", "3 0|a b|0:2:0 1:1:2"},
		{"1 0|-|-", "1 0|-|-", "2 0|-|-"},
		{"1 0|a|-", "1 0|b|-", "2 0|a b|-"},
		{"2 1|a b|0:0:1 1:2:0", "3 2|a(0) b|0:2:2 2:0:2 2:1:1", "5 1|a a(0) b|0:0:1 1:3:0 2:3:4 4:0:4 4:2:3"},
		{"2 1|a|1:1:0", "2 0|a|1:1:0", "4 1|a|1:1:0 3:1:2"},
	} {
		expect(t, impl.UnionLts, in(ltsFrom(c[0]), ltsFrom(c[1])), ltsFrom(c[2]), impl.OK)
	}
	expect(t, impl.UnionLts, in(house(), house()), unionOf(sketchOf(house()), sketchOf(house())).lts(), impl.OK)
}

func TestUnionLtsLimits(t *testing.T) {
	for _, c := range [][3]int64{{39, 1, impl.OK}, {1, 39, impl.OK}, {20, 20, impl.OK}, {40, 1, impl.ErrFull}, {1, 40, impl.ErrFull}, {20, 21, impl.ErrFull}, {40, 40, impl.ErrFull}} {
		checkUnion(t, ring(c[0], "a"), ring(c[1], "b"), c[2])
	}
	// Of labels, 11 beside tau; those of both systems are there once.
	names := manyNames(13)
	with := func(names []string) impl.Lts { return impl.Lts{States: 2, Labels: append([]string{"tau"}, names...)} }
	for _, c := range []struct {
		a, b []string
		code int64
	}{
		{names[:6], names[6:11], impl.OK}, {names[:6], names[6:12], impl.ErrFull}, {names[:11], names[:11], impl.OK}, {names[:11], names[5:11], impl.OK},
		{names[:11], names[1:12], impl.ErrFull}, {names[:11], nil, impl.OK}, {nil, names[:11], impl.OK}, {names[11:12], names[:11], impl.ErrFull},
	} {
		checkUnion(t, with(c.a), with(c.b), c.code)
	}
	// Of edges, 300, as none of one system is equal to one of the other.
	dense := func(edges int) impl.Lts {
		x := impl.Lts{States: 18, Labels: []string{"tau"}}
		for i := range int64(edges) {
			x.Edges = append(x.Edges, impl.Edge{From: i / 18, To: i % 18})
		}
		return x
	}
	for _, c := range [][3]int{{150, 150, impl.OK}, {150, 151, impl.ErrFull}, {300, 0, impl.OK}, {0, 300, impl.OK}, {300, 1, impl.ErrFull}, {1, 300, impl.ErrFull}, {300, 300, impl.ErrFull}} {
		checkUnion(t, dense(c[0]), dense(c[1]), int64(c[2]))
	}
}

func checkUnion(t *testing.T, a, b impl.Lts, code int64) {
	t.Helper()
	if !isLts(a) || !isLts(b) {
		t.Fatalf("%+v and %+v should be valid", a, b)
	}
	want, expected := unionOf(sketchOf(a), sketchOf(b)).limited()
	if expected != code {
		t.Fatalf("%+v and %+v: code %d", a, b, expected)
	}
	expect(t, impl.UnionLts, in(a, b), want, code)
}

func TestProductLts(t *testing.T) {
	for _, c := range []struct {
		a, b   string
		shared []string
		want   string
	}{
		{"2 0|a|0:1:1", "1 0|a|0:1:0", []string{"a"}, "2 0|a|0:1:1"},
		{"2 0|a|0:1:1", "1 0|a|0:1:0", nil, "2 0|a|0:1:0 0:1:1 1:1:1"},
		{"1 0|-|-", "1 0|-|-", nil, "1 0|-|-"},
		// The pairs 0 1 and 1 0 are not reachable: 0 0 and 1 1 become 0 and 1.
		{"2 0|a|0:1:1", "2 0|a|0:1:1", []string{"a"}, "2 0|a|0:1:1"},
		// The initial pair is the last one, or one in between.
		{"2 1|a|1:1:0", "2 1|a|1:1:0", []string{"a"}, "2 1|a|1:1:0"},
		{"2 1|a|1:1:0", "2 0|b|0:1:1", nil, "4 2|a b|0:2:1 2:1:0 2:2:3 3:1:1"},
		// A shared name that only one system has, or none, leads nowhere, but its labels are there.
		{"2 0|a|0:1:1", "2 0|b|0:1:1", []string{"a"}, "2 0|a b|0:2:1"},
		{"2 0|a|0:1:1", "2 0|b|0:1:1", []string{"b", "a", "b"}, "1 0|a b|-"},
		{"2 0|a|0:1:1", "2 0|b|0:1:1", []string{"c", "z"}, "4 0|a b|0:1:2 0:2:1 1:1:3 2:2:3"},
		{"2 0|a|0:1:1", "1 0|-|-", []string{"a"}, "1 0|a|-"},
		{"1 0|-|-", "2 0|a|0:1:1", []string{"a"}, "1 0|a|-"},
		// One shared name with different values.
		{"3 0|a a(1)|0:1:1 0:2:2", "3 0|a(1) a(2)|0:1:1 0:2:2", []string{"a"}, "2 0|a a(1) a(2)|0:2:1"},
		{"2 0|a(1)|0:1:1", "2 0|a(2)|0:1:1", []string{"a"}, "1 0|a(1) a(2)|-"},
		{"2 0|a(1)|0:1:1", "2 0|a(1)|0:1:1", []string{"b"}, "4 0|a(1)|0:1:1 0:1:2 1:1:3 2:1:3"},
		// Several edges of both with one shared label.
		{"3 0|a|0:1:1 0:1:2", "3 0|a|0:1:1 0:1:2", []string{"a"}, "5 0|a|0:1:1 0:1:2 0:1:3 0:1:4"},
		// Equal moves of both that are not shared lead to one state by one edge only if it is the same one.
		{"1 0|a|0:1:0", "1 0|a|0:1:0", nil, "1 0|a|0:1:0"},
		{"1 0|a|0:1:0", "1 0|a|0:1:0", []string{"a"}, "1 0|a|0:1:0"},
		// Internal edges are never done together.
		{"2 0|-|0:0:1", "2 0|-|0:0:1", []string{"a"}, "4 0|-|0:0:1 0:0:2 1:0:3 2:0:3"},
		{"1 0|-|0:0:0", "1 0|-|0:0:0", nil, "1 0|-|0:0:0"},
		{"2 0|a|0:0:1 1:1:0", "2 0|a|0:0:1 1:1:0", []string{"a"}, "4 0|a|0:0:1 0:0:2 1:0:3 2:0:3 3:1:0"},
		// Names that begin alike.
		{"2 0|aa|0:1:1", "2 0|aa|0:1:1", []string{"a"}, "4 0|aa|0:1:1 0:1:2 1:1:3 2:1:3"},
		{"2 0|a|0:1:1", "2 0|a|0:1:1", []string{"aa"}, "4 0|a|0:1:1 0:1:2 1:1:3 2:1:3"},
	} {
		expect(t, impl.ProductLts, in(ltsFrom(c.a), ltsFrom(c.b), c.shared), ltsFrom(c.want), impl.OK)
		checkProduct(t, ltsFrom(c.a), ltsFrom(c.b), c.shared)
	}
	for _, names := range notActionLists() {
		expect(t, impl.ProductLts, in(house(), house(), names), nil, impl.ErrRange)
		// The product would not be valid either.
		expect(t, impl.ProductLts, in(full(11, 300), ring(40, "a"), names), nil, impl.ErrRange)
	}
	for _, names := range actionLists() {
		checkProduct(t, house(), house(), names)
		checkProduct(t, house(), ring(3, "a"), names)
	}
}

// checkProduct compares a product with that of sketches, and returns its code.
func checkProduct(t *testing.T, a, b impl.Lts, shared []string) int64 {
	t.Helper()
	if !isLts(a) || !isLts(b) {
		t.Fatalf("%+v and %+v should be valid", a, b)
	}
	want, code := productOf(sketchOf(a), sketchOf(b), shared).reachable().limited()
	expect(t, impl.ProductLts, in(a, b, shared), want, code)
	return code
}

func TestProductLtsLimits(t *testing.T) {
	// Rings have all pairs, or those of a ring if they go round together.
	for _, c := range []struct {
		a, b   int64
		shared []string
		code   int64
	}{
		{5, 8, nil, impl.OK}, {8, 5, nil, impl.OK}, {40, 1, nil, impl.OK}, {1, 40, nil, impl.OK}, {6, 7, nil, impl.ErrFull}, {2, 21, nil, impl.ErrFull}, {40, 40, nil, impl.ErrFull},
		{40, 40, []string{"a"}, impl.OK}, {5, 8, []string{"a"}, impl.OK}, {39, 40, []string{"a"}, impl.ErrFull}, {6, 7, []string{"a"}, impl.ErrFull}, {40, 8, []string{"a"}, impl.OK},
	} {
		if code := checkProduct(t, ring(c.a, "a"), ring(c.b, "a"), c.shared); code != c.code {
			t.Errorf("%+v: code %d", c, code)
		}
	}
	// A ring of 5 and one of 8 states have 40 pairs, and an edge that both do together leads to one more.
	a, b := ring(5, "a"), ring(8, "b")
	for _, x := range []*impl.Lts{&a, &b} {
		x.States++
		x.Labels = append(x.Labels, "c")
		x.Edges = slices.Insert(x.Edges, 1, impl.Edge{From: 0, Label: 2, To: x.States - 1})
	}
	for _, c := range []struct {
		a, b impl.Lts
		code int64
	}{{a, b, impl.ErrFull}, {b, a, impl.ErrFull}, {ring(5, "a"), b, impl.OK}, {a, ring(8, "b"), impl.OK}} {
		if code := checkProduct(t, c.a, c.b, []string{"c"}); code != c.code {
			t.Errorf("%+v: code %d", c, code)
		}
	}
}

// TestProductLtsLimitOfLabels has labels of both systems, of which some are in both, and which no edge has.
func TestProductLtsLimitOfLabels(t *testing.T) {
	names := manyNames(13)
	for _, c := range []struct {
		a, b []string
		code int64
	}{
		{names[:6], names[6:11], impl.OK}, {names[:6], names[6:12], impl.ErrFull}, {names[:11], names[:11], impl.OK}, {names[:11], names[5:11], impl.OK},
		{names[:11], names[1:12], impl.ErrFull}, {names[:11], nil, impl.OK}, {nil, names[:11], impl.OK}, {names[11:12], names[:11], impl.ErrFull},
	} {
		for _, shared := range [][]string{nil, names} {
			a, b := impl.Lts{States: 2, Labels: append([]string{"tau"}, c.a...)}, impl.Lts{States: 2, Labels: append([]string{"tau"}, c.b...)}
			if code := checkProduct(t, a, b, shared); code != c.code {
				t.Errorf("%+v: code %d", c, code)
			}
		}
	}
}

// dense returns a system of 17 states with internal edges from each state to each one, without some at the end, and some
// edges with the label a that lead from a state to itself.
func dense(missing, loops int) impl.Lts {
	s := sketchOf(impl.Lts{States: 17, Labels: []string{"tau", "a"}})
	for _, from := range s.states {
		for _, to := range s.states {
			s.edges = append(s.edges, arrow{from, "tau", to})
		}
	}
	s.edges = s.edges[:289-missing]
	for _, k := range s.states[:loops] {
		s.edges = append(s.edges, arrow{k, "a", k})
	}
	return s.lts()
}

// TestProductLtsLimitOfEdges adds edges that lead from each state to itself, of which some are there already.
func TestProductLtsLimitOfEdges(t *testing.T) {
	for _, c := range []struct {
		missing, loops int
		loop           string
		code           int64
	}{
		{0, 11, "1 0|-|-", impl.OK}, {0, 11, "1 0|-|0:0:0", impl.OK}, {0, 11, "1 0|a|0:1:0", impl.ErrFull}, {6, 17, "1 0|a|0:1:0", impl.OK},
		{6, 16, "1 0|a|0:1:0", impl.OK}, {6, 0, "1 0|a|0:1:0", impl.OK}, {5, 11, "1 0|a|0:1:0", impl.ErrFull}, {5, 0, "1 0|b|0:1:0", impl.ErrFull}, {6, 0, "1 0|b|0:1:0", impl.OK},
		{6, 1, "1 0|b|0:1:0", impl.ErrFull}, {6, 16, "1 0|-|0:0:0", impl.OK}, {1, 12, "1 0|-|0:0:0", impl.ErrFull}, {1, 11, "1 0|-|0:0:0", impl.OK},
	} {
		a, b := dense(c.missing, c.loops), ltsFrom(c.loop)
		for _, code := range []int64{checkProduct(t, a, b, nil), checkProduct(t, b, a, nil), checkProduct(t, a, b, []string{"c"})} {
			if code != c.code {
				t.Errorf("%+v: code %d", c, code)
			}
		}
	}
	// With a shared, there is no edge more.
	if code := checkProduct(t, dense(0, 11), ltsFrom("1 0|a|0:1:0"), []string{"a"}); code != impl.OK {
		t.Error(code)
	}
}
