package tests

import (
	"fmt"
	"math"
	"slices"
	"strings"
	"testing"

	"loop.example/g01075/impl"
)

func TestLtsConstants(t *testing.T) {
	if !same([]int64{impl.MaxStates, impl.MaxLabels, impl.MaxEdges}, []int64{40, 12, 300}) {
		t.Error("limits")
	}
}

type changeOfLts = func(x *impl.Lts)

// house is a system with all kinds of labels and edges: loops, edges back and side by side, a state without edges, one that
// no path leads to, and an initial state that is not 0.
func house() impl.Lts {
	return ltsFrom("5 1|a a(1) a(1,2) b|0:0:0 0:1:1 1:0:1 1:0:2 1:2:2 1:4:3 2:1:1 2:3:2 3:2:1 4:1:0")
}

// changedLtss returns copies of a system with one change each.
func changedLtss(x impl.Lts, changes ...changeOfLts) []impl.Lts {
	var list []impl.Lts
	for _, change := range changes {
		changed := copied(x)
		change(&changed)
		list = append(list, changed)
	}
	return list
}

// full returns a system with 40 states, some labels beside tau, and some edges.
func full(labels, edges int) impl.Lts {
	x := impl.Lts{States: 40, Initial: 39, Labels: append([]string{"tau"}, manyNames(labels)...)}
	for i := range int64(edges) {
		x.Edges = append(x.Edges, impl.Edge{From: i / 40, Label: 0, To: i % 40})
	}
	return x
}

// validLtss returns systems that reach the limits.
func validLtss() []impl.Lts {
	list := []impl.Lts{house(), full(0, 0), full(11, 0), full(0, 300), full(11, 300)}
	for _, text := range []string{
		"1 0|-|-", "1 0|-|0:0:0", "2 1|-|-", "40 0|-|39:0:39", "40 39|-|0:0:0", "2 0|a|0:1:1", "3 0|a|0:1:1 1:1:2", "1 0|a|-",
		// Labels are in the order of bytes, and those with tau in them are no tau.
		"1 0|a a(0) a(0,0) a(1) a(10) a(2) a0 ta taus tav|0:0:0 0:10:0", "1 0|a(63,63) a(7) abcdefghij|0:1:0 0:2:0 0:3:0",
		// Edges that differ in one number, and those whose other numbers are greater.
		"3 0|a|0:0:0 0:0:1 0:1:0 1:0:0", "3 0|a|0:0:2 0:1:1 1:0:0", "3 0|a|0:1:2 1:0:1 2:0:0",
	} {
		list = append(list, ltsFrom(text))
	}
	return list
}

// invalidLtss returns systems that break one rule each.
func invalidLtss() []impl.Lts {
	list := []impl.Lts{{}, full(12, 0), full(0, 301), full(12, 301), {Labels: []string{"tau"}}, {States: math.MaxInt64, Labels: []string{"tau"}}, {States: 1}, {States: 1, Labels: []string{"a"}}}
	for _, text := range []string{
		"0 0|-|-", "-1 0|-|-", "41 0|-|-", "64 0|-|-", "1000000 0|-|-", "1 1|-|-", "1 -1|-|-", "5 5|-|-", "40 40|-|-", "40 41|-|-", "0 -1|-|-",
		"1 0|tau|-", "1 0|tau a|-", "1 0|a tau|-", "1 0|b a|-", "1 0|a a|-", "1 0|a(2) a(10)|-", "1 0|a0 a(0)|-", "1 0|a b a|-",
		"1 0|A|-", "1 0|1|-", "1 0|a()|-", "1 0|a(64)|-", "1 0|a(01)|-", "1 0|a(1,2,3)|-", "1 0|a(-1)|-", "1 0|tau(0)|-", "1 0|abcdefghijk|-", "1 0|a(|-", "1 0|\xff|-",
		"2 0|a|0:1:2", "2 0|a|0:1:-1", "2 0|a|2:1:0", "2 0|a|-1:1:0", "2 0|a|0:2:1", "2 0|a|0:-1:1", "2 0|a|0:1:1 0:1:2", "2 0|a|0:1:1 2:0:0", "2 0|a|-1:0:0 0:1:1", "2 0|-|0:1:1",
		"2 0|a|0:1:1 0:1:1", "2 0|a|0:1:1 0:1:0", "2 0|a|0:1:0 0:0:1", "2 0|a|1:0:0 0:1:1", "2 0|a|0:0:0 0:0:1 0:0:1", "2 0|a|0:0:0 1:0:1 0:1:1", "2 0|a|0:1:1 0:0:0 1:0:0",
	} {
		list = append(list, ltsFrom(text))
	}
	for _, label := range []string{"", " ", "a b", "tau", "a(1, 2)"} {
		list = append(list, changedLtss(house(), func(x *impl.Lts) { x.Labels[1] = label })...)
		list = append(list, changedLtss(house(), func(x *impl.Lts) { x.Labels = append(x.Labels, label) })...)
	}
	return append(list, changedLtss(house(),
		func(x *impl.Lts) { x.Labels = x.Labels[1:] },
		func(x *impl.Lts) { x.Labels = x.Labels[:4] },
		func(x *impl.Lts) { x.Labels = nil },
		func(x *impl.Lts) { x.Labels[0] = "" },
		func(x *impl.Lts) { x.Labels = make([]string, 1000) },
		func(x *impl.Lts) { x.States = 4 },
		func(x *impl.Lts) { x.States = math.MinInt64 },
		func(x *impl.Lts) { x.Initial = math.MinInt64 },
		func(x *impl.Lts) { x.Initial = math.MaxInt64 },
		func(x *impl.Lts) {
			x.Edges[9] = impl.Edge{From: math.MaxInt64, Label: math.MaxInt64, To: math.MaxInt64}
		},
		func(x *impl.Lts) {
			x.Edges[0] = impl.Edge{From: math.MinInt64, Label: math.MinInt64, To: math.MinInt64}
		},
		func(x *impl.Lts) { x.Edges = make([]impl.Edge, 1000) })...)
}

func TestValidLts(t *testing.T) {
	for _, x := range validLtss() {
		expect(t, impl.ValidLts, in(x), true)
		if !isLts(x) {
			t.Errorf("%+v should be valid", x)
		}
	}
	for _, x := range invalidLtss() {
		expect(t, impl.ValidLts, in(x), false)
		if isLts(x) {
			t.Errorf("%+v should not be valid", x)
		}
	}
}

func TestLtsText(t *testing.T) {
	for _, text := range []string{
		"1 0|-|-", "2 1|-|0:0:1", "40 39|a|-", "2 0|a|0:1:1", "3 0|a|0:1:1 1:1:2", "5 1|a a(1) a(1,2) b|0:0:0 0:1:1 1:0:1 1:0:2 1:2:2 1:4:3 2:1:1 2:3:2 3:2:1 4:1:0",
	} {
		expect(t, impl.LtsText, in(ltsFrom(text)), text)
	}
	for _, x := range validLtss() {
		expect(t, impl.LtsText, in(x), exactLtsText(x))
	}
	for _, x := range invalidLtss() {
		expect(t, impl.LtsText, in(x), "")
	}
	if text := impl.LtsText(full(11, 300)); strings.Count(text, ":") != 600 || strings.Count(text, "|") != 2 || strings.Count(text, " ") != 1+10+299 {
		t.Error(text)
	}
}

// differentLtss returns systems that differ from one another, most of them in one place only.
func differentLtss() []impl.Lts {
	list := append(changedLtss(house(),
		func(x *impl.Lts) { x.States++ },
		func(x *impl.Lts) { x.States = -5 },
		func(x *impl.Lts) { x.Initial = 0 },
		func(x *impl.Lts) { x.Initial = math.MinInt64 },
		func(x *impl.Lts) { x.Labels[0] = "" },
		func(x *impl.Lts) { x.Labels[4] = "c" },
		func(x *impl.Lts) { x.Labels[1], x.Labels[2] = x.Labels[2], x.Labels[1] },
		func(x *impl.Lts) { x.Labels = append(x.Labels, "c") },
		func(x *impl.Lts) { x.Labels = append(x.Labels, "") },
		func(x *impl.Lts) { x.Labels = x.Labels[:4] },
		func(x *impl.Lts) { x.Labels = nil },
		func(x *impl.Lts) { x.Edges[9].From++ },
		func(x *impl.Lts) { x.Edges[0].Label++ },
		func(x *impl.Lts) { x.Edges[5].To-- },
		func(x *impl.Lts) { x.Edges[0], x.Edges[9] = x.Edges[9], x.Edges[0] },
		func(x *impl.Lts) { slices.Reverse(x.Edges) },
		func(x *impl.Lts) { x.Edges = append(x.Edges, x.Edges[9]) },
		func(x *impl.Lts) { x.Edges = append(x.Edges, impl.Edge{}) },
		func(x *impl.Lts) { x.Edges = x.Edges[1:] },
		func(x *impl.Lts) { x.Edges = nil }), house())
	return append(list, validLtss()[1:]...)
}

func TestSameLts(t *testing.T) {
	list := append(differentLtss(), impl.Lts{}, impl.Lts{Labels: []string{""}}, impl.Lts{Edges: []impl.Edge{{}}}, impl.Lts{States: 1}, impl.Lts{Initial: 1})
	for i, a := range list {
		for k, b := range list {
			expect(t, impl.SameLts, in(a, b), i == k)
		}
	}
	// Lists that are empty are equal to those that are nil, whether or not the systems are valid.
	for _, x := range []impl.Lts{{}, {States: 1, Labels: []string{"tau"}}} {
		for _, edges := range [][]impl.Edge{nil, {}, make([]impl.Edge, 0, 5)} {
			for _, labels := range [][]string{nil, {}, make([]string, 0, 5)} {
				other := x
				if other.Edges = edges; len(x.Labels) == 0 {
					other.Labels = labels
				}
				if !impl.SameLts(x, other) || !impl.SameLts(other, x) {
					t.Errorf("%+v and %+v", x, other)
				}
			}
		}
	}
	for _, x := range invalidLtss() {
		expect(t, impl.SameLts, in(x, x), true)
		expect(t, impl.SameLts, in(x, house()), false)
	}
}

// notLtsTexts returns texts of no system.
func notLtsTexts() []string {
	return []string{
		"", "|", "||", "|||", "-", "1 0", "1 0|-", "1 0|-|-|", "1 0|-|-|-", "|1 0|-|-", "|-|-", "1 0|--", "1 0--", "1 0 - -", "1 0||-|-",
		// Numbers of states: too few, too many, not canonical, too large, too small.
		"1|-|-", "1 0 0|-|-", " |-|-", "-|-|-", "1 |-|-", " 0|-|-", " 1 0|-|-", "1 0 |-|-", "1  0|-|-", "1\t0|-|-", "1,0|-|-", "1:0|-|-", "01 0|-|-", "1 00|-|-", "+1 0|-|-", "1 -0|-|-", "0x1 0|-|-", "1_0 0|-|-",
		"9223372036854775808 0|-|-", "18446744073709551617 0|-|-", "1 18446744073709551616|-|-", "1.0 0|-|-", "a 0|-|-", "0 0|-|-", "-1 0|-|-", "41 0|-|-", "1 1|-|-", "1 -1|-|-", "2 2|-|-", "\u0661 0|-|-",
		// Parts that are empty, and blanks and lines too many or too few.
		"1 0||", "1 0||-", "1 0|-|", "1 0| |-", "1 0|-| ", "1 0| -|-", "1 0|- |-", "1 0|-| -", "1 0|-|- ", "1 0 | -|-", "1 0|a |-", "1 0| a|-", "2 0|a  b|-", "2 0|-|0:0:0 ", "2 0|-| 0:0:0", "2 0|-|0:0:0  0:0:1", "2 0|-|0:0:00:0:1", "1 0|-|-\n", "\n1 0|-|-", "1 0|a\tb|-", "2 0|a,b|-",
		// A hyphen beside elements, or twice.
		"1 0|- -|-", "1 0|-|- -", "1 0|--|-", "1 0|-|--", "1 0|- a|-", "1 0|a -|-", "1 0|-|- 0:0:0", "1 0|-|0:0:0 -", "1 0|-|-:-:-",
		// Labels.
		"1 0|tau|-", "1 0|tau a|-", "1 0|a tau|-", "1 0|a tau taus|-", "1 0|b a|-", "1 0|a a|-", "1 0|A|-", "1 0|1|-", "1 0|a(01)|-", "1 0|a(1,)|-", "1 0|a(1, 2)|-", "1 0|a(64)|-", "1 0|a()|-", "1 0|\xff|-", "1 0|abcdefghijk|-",
		// Edges: with too few or too many numbers, which are not canonical or too large, and not in order.
		"1 0|-|0", "1 0|-|0:0", "1 0|-|0:0:0:0", "1 0|-|:0:0", "1 0|-|0::0", "1 0|-|0:0:", "1 0|-|0:0:0:", "1 0|-|::", "1 0|-|0: 0:0", "1 0|-|0,0,0", "1 0|-|0 0 0", "1 0|-|0-0-0", "1 0|-|00:0:0", "1 0|-|0:-0:0", "1 0|-|0:0:+0", "1 0|-|0:0:a",
		"1 0|-|-1:0:0", "1 0|-|0:-1:0", "1 0|-|0:0:-1", "1 0|-|1:0:0", "1 0|-|0:1:0", "1 0|-|0:0:1", "1 0|-|0:0:18446744073709551616", "1 0|-|0:18446744073709551616:0", "1 0|-|9223372036854775808:0:0",
		"2 0|a|0:1:1 0:1:1", "2 0|a|0:1:1 0:0:1", "2 0|a|0:0:1 0:0:0", "2 0|a|1:0:0 0:1:1", "2 0|a|0:0:0 1:0:0 0:1:0",
		strings.Repeat("9", 3000), strings.Repeat("|", 3000), "1 0|-|" + strings.Repeat("0:0:0 ", 3000), "1 0|" + strings.Repeat("a ", 3000) + "|-", "40 0|-|" + strings.Repeat("0:0:0 ", 300) + "0:0:0",
		exactLtsText(full(12, 0)), exactLtsText(full(0, 301)), exactLtsText(full(12, 301)),
	}
}

func TestReadLts(t *testing.T) {
	for _, x := range validLtss() {
		expect(t, impl.ReadLts, in(exactLtsText(x)), x, true)
	}
	for _, text := range notLtsTexts() {
		expect(t, impl.ReadLts, in(text), nil, false)
		if _, ok := readLtsText(text); ok {
			t.Errorf("%q should be a text", text)
		}
	}
	for _, x := range invalidLtss() {
		if len(x.Labels) > 0 {
			want, ok := readLtsText(exactLtsText(x))
			expect(t, impl.ReadLts, in(exactLtsText(x)), want, ok)
		}
	}
}

// A function of a system, the lists of its other arguments, and how many results are beside the code.
type functionOfLts struct {
	f       any
	lists   [][]any
	results int
}

func functionsOfLts() []functionOfLts {
	none := [][]any{nil}
	states := [][]any{{0}, {-1}, {5}, {math.MaxInt64}}
	lists := [][]any{{nil}, {[]int64{0}}, {[]int64{-1}}, {[]int64{1, 0}}, {[]int64{0, 0}}, {[]int64{math.MaxInt64}}}
	texts := [][]any{{nil}, {[]string{"a"}}, {[]string{""}}, {[]string{"tau", "\xff"}}}
	return []functionOfLts{
		{impl.DistancesOf, none, 1},
		{impl.ShortestPath, lists, 1},
		{impl.EndOfPath, lists, 1},
		{impl.PathLabels, lists, 1},
		{impl.ReplayLabels, texts, 1},
		{impl.OutOf, states, 1},
		{impl.SuccessorsOf, [][]any{{0, "a"}, {-1, "a"}, {0, ""}, {9, "\xff"}}, 1},
		{impl.ReachableStates, none, 1},
		{impl.ReachablePart, none, 2},
		{impl.DeadlocksOf, none, 1},
		{impl.UsedLabels, none, 1},
		{impl.HideLabels, texts, 1},
		{impl.RenameLabels, [][]any{{"a", "b"}, {"tau", "a"}, {"", "\xff"}}, 1},
		{impl.InternalClosure, lists, 1},
		{impl.AfterTrace, texts, 1},
		{impl.IsCompletedTrace, texts, 1},
		{impl.DeterminizeLts, none, 2},
		{impl.MinimalTraces, none, 1},
		{impl.CountTraces, states, 1},
		{impl.TracesOf, states, 1},
	}
}

// functionsOfTwoLtss returns functions of two systems, and how many results are beside the code.
func functionsOfTwoLtss() []functionOfLts {
	names := [][]any{{nil}, {[]string{"a"}}, {[]string{"tau"}}, {[]string{""}}}
	none := [][]any{nil}
	return []functionOfLts{
		{impl.UnionLts, none, 1},
		{impl.ProductLts, names, 1},
		{impl.IncludesTraces, none, 2},
		{impl.EqualTraces, none, 2},
		{impl.CommonTraces, none, 1},
	}
}

// TestErrorsOfFunctionsOfLtss gives systems that are not valid, whatever the other arguments are.
func TestErrorsOfFunctionsOfLtss(t *testing.T) {
	for _, x := range invalidLtss() {
		for _, c := range functionsOfLts() {
			for _, list := range c.lists {
				expect(t, c.f, append(in(x), list...), append(make([]any, c.results), int64(impl.ErrInvalid))...)
			}
		}
		expect(t, impl.IsDeterministicLts, in(x), false)
		// The other system is one of any kind, also one that would be too large.
		for _, other := range []impl.Lts{house(), full(11, 300), lasso(40), {}, x} {
			for _, c := range functionsOfTwoLtss() {
				for _, list := range c.lists {
					expect(t, c.f, append(in(x, other), list...), append(make([]any, c.results), int64(impl.ErrInvalid))...)
					expect(t, c.f, append(in(other, x), list...), append(make([]any, c.results), int64(impl.ErrInvalid))...)
				}
			}
		}
	}
}

// TestHouse checks what the other tests rely on.
func TestHouse(t *testing.T) {
	if x := house(); !isLts(x) || x.Initial != 1 || !same(distancesIn(x), []int64{-1, 0, 1, 1, -1}) || slices.ContainsFunc(x.Edges, func(e impl.Edge) bool { return e.To == 4 }) {
		t.Error(fmt.Sprint(x))
	}
}
