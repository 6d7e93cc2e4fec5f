package tests

import (
	"fmt"
	"math"
	"slices"
	"strings"
	"testing"

	"loop.example/g01075/impl"
)

func TestLtsConstants(t *testing.T) {
	if !same([]int64{impl.MaxStates, impl.MaxLabels, impl.MaxEdges}, []int64{40, 12, 300}) {
		t.Error("limits")
	}
}

type changeOfLts = func(x *impl.Lts)

// house is a system with all kinds of labels and edges: loops, edges back and side by side, a state without edges, one that
// no path leads to, and an initial state that is not 0.
func house() impl.Lts {
	return ltsFrom("5 1|a a(1) a(1,2) b|0:0:0 0:1:1 1:0:1 1:0:2 1:2:2 1:4:3 2:1:1 2:3:2 3:2:1 4:1:0")
}

// changedLtss returns copies of a system with one change each.
func changedLtss(x impl.Lts, changes ...changeOfLts) []impl.Lts {
	var list []impl.Lts
	for _, change := range changes {
		changed := copied(x)
		change(&changed)
		list = append(list, changed)
	}
	return list
}

// full returns a system with 40 states, some labels beside tau, and some edges.
func full(labels, edges int) impl.Lts {
	x := impl.Lts{States: 40, Initial: 39, Labels: append([]string{"tau"}, manyNames(labels)...)}
	for i := range int64(edges) {
		x.Edges = append(x.Edges, impl.Edge{From: i / 40, Label: 0, To: i % 40})
	}
	return x
}

// validLtss returns systems that reach the limits.
func validLtss() []impl.Lts {
	list := []impl.Lts{house(), full(0, 0), full(11, 0), full(0, 300), full(11, 300)}
	for _, text := range []string{
		"1 0|-|-", "1 0|-|0:0:0", "2 1|-|-", "40 0|-|39:0:39", "40 39|-|0:0:0", "2 0|a|0:1:1", "3 0|a|0:1:1 1:1:2", "1 0|a|-",
		// Labels are in the order of bytes, and those with tau in them are no tau.
		"1 0|a a(0) a(0,0) a(1) a(10) a(2) a0 ta taus tav|0:0:0 0:10:0", "1 0|a(63,63) a(7) abcdefghij|0:1:0 0:2:0 0:3:0",
		// Edges that differ in one number, and those whose other numbers are greater.
		"3 0|a|0:0:0 0:0:1 0:1:0 1:0:0", "3 0|a|0:0:2 0:1:1 1:0:0", "3 0|a|0:1:2 1:0:1 2:0:0",
	} {
		list = append(list, ltsFrom(text))
	}
	return list
}

// invalidLtss returns systems that break one rule each.
func invalidLtss() []impl.Lts {
	list := []impl.Lts{{}, full(12, 0), full(0, 301), full(12, 301), {Labels: []string{"tau"}}, {States: math.MaxInt64, Labels: []string{"tau"}}, {States: 1}, {States: 1, Labels: []string{"a"}}}
	for _, text := range []string{
		"0 0|-|-", "-1 0|-|-", "41 0|-|-", "64 0|-|-", "1000000 0|-|-", "1 1|-|-", "1 -1|-|-", "5 5|-|-", "40 40|-|-", "40 41|-|-", "0 -1|-|-",
		"1 0|tau|-", "1 0|tau a|-", "1 0|a tau|-", "1 0|b a|-", "1 0|a a|-", "1 0|a(2) a(10)|-", "1 0|a0 a(0)|-", "1 0|a b a|-",
		"1 0|A|-", "1 0|1|-", "1 0|a()|-", "1 0|a(64)|-", "1 0|a(01)|-", "1 0|a(1,2,3)|-", "1 0|a(-1)|-", "1 0|tau(0)|-", "1 0|abcdefghijk|-", "1 0|a(|-", "1 0|\xff|-",
		"2 0|a|0:1:2", "2 0|a|0:1:-1", "2 0|a|2:1:0", "2 0|a|-1:1:0", "2 0|a|0:2:1", "2 0|a|0:-1:1", "2 0|a|0:1:1 0:1:2", "2 0|a|0:1:1 2:0:0", "2 0|a|-1:0:0 0:1:1", "2 0|-|0:1:1",
		"2 0|a|0:1:1 0:1:1", "2 0|a|0:1:1 0:1:0", "2 0|a|0:1:0 0:0:1", "2 0|a|1:0:0 0:1:1", "2 0|a|0:0:0 0:0:1 0:0:1", "2 0|a|0:0:0 1:0:1 0:1:1", "2 0|a|0:1:1 0:0:0 1:0:0",
	} {
		list = append(list, ltsFrom(text))
	}
	for _, label := range []string{"", " ", "a b", "tau", "a(1, 2)"} {
		list = append(list, changedLtss(house(), func(x *impl.Lts) { x.Labels[1] = label })...)
		list = append(list, changedLtss(house(), func(x *impl.Lts) { x.Labels = append(x.Labels, label) })...)
	}
	return append(list, changedLtss(house(),
		func(x *impl.Lts) { x.Labels = x.Labels[1:] },
		func(x *impl.Lts) { x.Labels = x.Labels[:4] },
		func(x *impl.Lts) { x.Labels = nil },
		func(x *impl.Lts) { x.Labels[0] = "" },
		func(x *impl.Lts) { x.Labels = make([]string, 1000) },
		func(x *impl.Lts) { x.States = 4 },
		func(x *impl.Lts) { x.States = math.MinInt64 },
		func(x *impl.Lts) { x.Initial = math.MinInt64 },
		func(x *impl.Lts) { x.Initial = math.MaxInt64 },
		func(x *impl.Lts) {
			x.Edges[9] = impl.Edge{From: math.MaxInt64, Label: math.MaxInt64, To: math.MaxInt64}
		},
		func(x *impl.Lts) {
			x.Edges[0] = impl.Edge{From: math.MinInt64, Label: math.MinInt64, To: math.MinInt64}
		},
		func(x *impl.Lts) { x.Edges = make([]impl.Edge, 1000) })...)
}

func TestValidLts(t *testing.T) {
	for _, x := range validLtss() {
		expect(t, impl.ValidLts, in(x), true)
		if !isLts(x) {
			t.Errorf("%+v should be valid", x)
		}
	}
	for _, x := range invalidLtss() {
		expect(t, impl.ValidLts, in(x), false)
		if isLts(x) {
			t.Errorf("%+v should not be valid", x)
		}
	}
}

func TestLtsText(t *testing.T) {
	for _, text := range []string{
		"1 0|-|-", "2 1|-|0:0:1", "40 39|a|-", "2 0|a|0:1:1", "3 0|a|0:1:1 1:1:2", "5 1|a a(1) a(1,2) b|0:0:0 0:1:1 1:0:1 1:0:2 1:2:2 1:4:3 2:1:1 2:3:2 3:2:1 4:1:0",
	} {
		expect(t, impl.LtsText, in(ltsFrom(text)), text)
	}
	for _, x := range validLtss() {
		expect(t, impl.LtsText, in(x), exactLtsText(x))
	}
	for _, x := range invalidLtss() {
		expect(t, impl.LtsText, in(x), "")
	}
	if text := impl.LtsText(full(11, 300)); strings.Count(text, ":") != 600 || strings.Count(text, "|") != 2 || strings.Count(text, " ") != 1+10+299 {
		t.Error(text)
	}
}

func TestErrorsOfFunctionsOfLtss(t *testing.T) {
	for _, x := range invalidLtss() {
		expect(t, impl.DistancesOf, in(x), nil, impl.ErrInvalid)
		// Whatever the other argument is.
		for _, list := range [][]int64{nil, {0}, {-1}, {1, 0}, {0, 0}, {math.MaxInt64}} {
			expect(t, impl.ShortestPath, in(x, list), nil, impl.ErrInvalid)
			expect(t, impl.EndOfPath, in(x, list), 0, impl.ErrInvalid)
			expect(t, impl.PathLabels, in(x, list), nil, impl.ErrInvalid)
		}
		for _, labels := range [][]string{nil, {"a"}, {""}, {"tau", "\xff"}} {
			expect(t, impl.ReplayLabels, in(x, labels), nil, impl.ErrInvalid)
		}
	}
}

// TestHouse checks what the other tests rely on.
func TestHouse(t *testing.T) {
	if x := house(); !isLts(x) || x.Initial != 1 || !same(distancesIn(x), []int64{-1, 0, 1, 1, -1}) || slices.ContainsFunc(x.Edges, func(e impl.Edge) bool { return e.To == 4 }) {
		t.Error(fmt.Sprint(x))
	}
}
