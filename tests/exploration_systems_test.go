package tests

import (
	"testing"

	"loop.example/g01075/impl"
)

// expectExploredSystem checks the transition system of a system, and its states by their texts.
func expectExploredSystem(t *testing.T, s impl.System, text string, states ...string) {
	t.Helper()
	var points [][]impl.Point
	for _, state := range states {
		points = append(points, stateFrom(s, state))
	}
	expect(t, impl.ExploreSystem, in(s), ltsFrom(text), points, impl.OK)
	worldOfSystem(s).check(t, ltsFrom(text), points)
}

func TestExploreSystem(t *testing.T) {
	expectExploredSystem(t, systemOf(t, "proc p 0 = a.b.p", "run p", "allow a b"), "2 0|a b|0:1:1 1:2:0", "p:0:-", "p:1:-")
	expectExploredSystem(t, systemOf(t, "proc p 0 = a.b.p", "run p", "allow b"), "1 0|-|-", "p:0:-")
	expectExploredSystem(t, systemOf(t, "proc p 0 = a.b.p", "run p", "allow a b", "hide a"), "2 0|b|0:0:1 1:1:0", "p:0:-", "p:1:-")
	expectExploredSystem(t, systemOf(t, "proc p 0 = 0", "run p | p | p", "allow a"), "1 0|-|-", "p:0:- p:0:- p:0:-")
	expectExploredSystem(t, systemOf(t, "proc p 1 = sum 1.[v0<2]a(v1).p(v0+v1) + [v0=2]tau.q", "proc q 0 = 0", "run p(1)", "allow a"), "3 0|a(0) a(1)|0:1:0 0:2:1 1:0:2", "p:0:1", "p:0:2", "q:0:-")
	// A stop behind an action is not the part 0 of a process that stops, and variables in scope tell states apart.
	expectExploredSystem(t, systemOf(t, "proc p 0 = a.0 + b.q + sum 1.c.0", "proc q 0 = 0", "run p", "allow a b c"), "5 0|a b c|0:1:1 0:2:2 0:3:3 0:3:4", "p:0:-", "p:2:-", "q:0:-", "p:8:0", "p:8:1")
}

func TestExploreSystemNumbers(t *testing.T) {
	// Moves of the first component come first, whatever their labels are, and meetings last.
	s := systemOf(t, "proc p 0 = b.q + c.0", "proc q 0 = a.q + d.q", "run p | q", "meet c d x", "allow a b x")
	expectExploredSystem(t, s, "3 0|a b x|0:1:0 0:2:1 0:3:2 1:1:1 2:1:2", "p:0:- q:0:-", "q:0:- q:0:-", "p:4:- q:0:-")
	// Two components, each of which goes on by itself: in breadth, and with the first one first.
	s = systemOf(t, "proc p 1 = [v0<2]a(v0).p(v0+1)", "run p(0) | p(0)", "allow a")
	expectExploredSystem(t, s, "9 0|a(0) a(1)|0:1:1 0:1:2 1:1:4 1:2:3 2:1:4 2:2:5 3:1:6 4:2:6 4:2:7 5:1:7 6:2:8 7:2:8",
		"p:0:0 p:0:0", "p:0:1 p:0:0", "p:0:0 p:0:1", "p:0:2 p:0:0", "p:0:1 p:0:1", "p:0:0 p:0:2", "p:0:2 p:0:1", "p:0:1 p:0:2", "p:0:2 p:0:2")
	// States that are found first by way of a later part of a choice.
	s = systemOf(t, "proc p 1 = [v0=5]a.p(9) + [v0=0]b.p(5) + [v0=0]a.p(3)", "run p(0)", "allow a b")
	expectExploredSystem(t, s, "4 0|a b|0:1:2 0:2:1 1:1:3", "p:0:0", "p:0:5", "p:0:3", "p:0:9")
	// The same component at other places in the state.
	s = systemOf(t, "proc p 0 = a.q", "proc q 0 = b.p", "run p | q | p", "allow a b")
	x, _, _ := impl.ExploreSystem(s)
	if x.States != 8 || len(x.Edges) != 24 {
		t.Error(x)
	}
}

// TestExploreSystemOfEqualEdges has moves that differ in their components alone, or not even in what is seen of them.
func TestExploreSystemOfEqualEdges(t *testing.T) {
	s := systemOf(t, "proc p 0 = a.p", "run p | p | p", "meet a a b", "allow a b")
	expectExploredSystem(t, s, "1 0|a b|0:1:0 0:2:0", "p:0:- p:0:- p:0:-")
	s.Hidden = []string{"a", "b"}
	expectExploredSystem(t, s, "1 0|-|0:0:0", "p:0:- p:0:- p:0:-")
	// One state to another one: with equal labels of the component alone and of two, and with different ones.
	s = systemOf(t, "proc p 0 = a.0 + x.0 + y.0", "proc q 0 = b.q", "run p | q", "meet a b x", "allow x y")
	expectExploredSystem(t, s, "4 0|x y|0:1:1 0:1:3 0:2:2", "p:0:- q:0:-", "p:5:- q:0:-", "p:7:- q:0:-", "p:2:- q:0:-")
	s = systemOf(t, "proc p 0 = a.r + x.r + y.r + tau.r", "proc q 0 = b.q", "proc r 0 = 0", "run p | q", "meet a b x", "allow x y")
	expectExploredSystem(t, s, "2 0|x y|0:0:1 0:1:1 0:2:1", "p:0:- q:0:-", "r:0:- q:0:-")
	s.Hidden = []string{"x"}
	expectExploredSystem(t, s, "2 0|y|0:0:1 0:1:1", "p:0:- q:0:-", "r:0:- q:0:-")
}

// TestExploreSystemLimits reaches each limit of valid systems, and has one more.
func TestExploreSystemLimits(t *testing.T) {
	for _, c := range []struct {
		states, labels, edges int
		lines                 []string
	}{
		{40, 2, 39, []string{"proc p 1 = [v0<39]a.p(v0+1)", "run p(0)", "allow a"}},
		{41, 2, 40, []string{"proc p 1 = [v0<40]a.p(v0+1)", "run p(0)", "allow a"}},
		{40, 1, 39, []string{"proc p 1 = [v0<39]a.p(v0+1)", "run p(0)", "allow a", "hide a"}},
		{41, 1, 40, []string{"proc p 1 = [v0<40]a.p(v0+1)", "run p(0)", "allow a", "hide a"}},
		// Two components with 5 and 8 places, and with 6 and 7, and three.
		{40, 2, 5*7 + 8*4, []string{"proc p 1 = [v0<4]a.p(v0+1)", "proc q 1 = [v0<7]a.q(v0+1)", "run p(0) | q(0)", "allow a"}},
		{42, 2, 7*5 + 6*6, []string{"proc p 1 = [v0<5]a.p(v0+1)", "proc q 1 = [v0<6]a.q(v0+1)", "run p(0) | q(0)", "allow a"}},
		{40, 2, 20 + 3*10 + 4*8, []string{"proc p 0 = a.0", "proc q 1 = [v0<3]a.q(v0+1)", "proc r 1 = [v0<4]a.r(v0+1)", "run p | q(0) | r(0)", "allow a"}},
		{45, 2, 0, []string{"proc p 1 = [v0<2]a.p(v0+1)", "proc r 1 = [v0<4]a.r(v0+1)", "run p(0) | p(0) | r(0)", "allow a"}},
		{1, 12, 11, []string{"proc p 0 = sum 7.a(v0).p + sum 2.b(v0).p", "run p", "allow a b"}},
		{1, 13, 12, []string{"proc p 0 = sum 7.a(v0).p + sum 3.b(v0).p", "run p", "allow a b"}},
		{1, 5, 5, []string{"proc p 0 = sum 7.a(v0).p + sum 3.b(v0).p", "run p", "allow a b", "hide a"}},
		{1, 12, 12, []string{"proc p 0 = sum 7.a(v0).p + sum 2.b(v0).p", "proc q 0 = tau.q", "run p | q | p", "allow a b"}},
		{1, 13, 13, []string{"proc p 0 = sum 7.a(v0).p + sum 2.b(v0).p", "proc q 0 = c.q + tau.q", "run p | q | p", "allow a b c"}},
		{10, 4, 300, []string{"proc p 1 = sum 1.sum 4.sum 2.a(v3).p(v1*5+v2)", "run p(0)", "allow a"}},
		{10, 5, 301, []string{"proc p 1 = sum 1.sum 4.sum 2.a(v3).p(v1*5+v2) + [v0=0]b.p(0)", "run p(0)", "allow a b"}},
		{10, 5, 301, []string{"proc p 1 = sum 1.sum 4.sum 2.a(v3).p(v1*5+v2) + [v0=9]b.p(9)", "run p(0)", "allow a b"}},
		// 600 moves make 300 edges.
		{10, 4, 300, []string{"proc p 1 = sum 1.sum 4.sum 2.a(v3).p(v1*5+v2)", "proc q 0 = a(1).q", "run p(0) | q", "allow a"}},
		{10, 5, 310, []string{"proc p 1 = sum 1.sum 4.sum 2.a(v3).p(v1*5+v2)", "proc q 0 = a(3).q", "run p(0) | q", "allow a"}},
		{40, 12, 300, []string{"proc p 1 = [v0=0]sum 7.sum 4.sum 4.a(v3).p(v1*5+v2) + [0<v0&v0<17]sum 5.b(v1).p(0) + [v0=17]sum 3.b(v1).p(0)", "proc q 0 = a.0", "run p(0)", "allow a b"}},
	} {
		s := systemOf(t, c.lines...)
		full := c.states > 40 || c.labels > 12 || c.edges > 300
		expectSize(t, impl.ExploreSystem, s, worldOfSystem(s).size(), c.states, c.labels, c.edges, full)
	}
	expectSize(t, impl.ExploreSystem, example(), worldOfSystem(example()).size(), 0, 0, 0, true)
}

// TestExploreSystemWithTooManyMoves has more than MaxSteps moves, or steps that are no moves, in one state.
func TestExploreSystemWithTooManyMoves(t *testing.T) {
	many := "sum 7.sum 4.sum 4."
	for _, c := range []struct {
		states, labels, edges int
		lines                 []string
	}{
		// 200 moves of the first state, and 201, to 40 states.
		{40, 6, 200, []string{"proc p 1 = [v0=0]" + many + "a(v3).p(v1*5+v2)", "run p(0)", "allow a"}},
		{-1, 7, 201, []string{"proc p 1 = [v0=0]" + many + "a(v3).p(v1*5+v2) + [v0=0]b.p(0)", "run p(0)", "allow a b"}},
		{-1, 7, 240, []string{"proc p 1 = [v0=0]sum 7.sum 4.sum 5.a(v3).p(v1*5+v2)", "run p(0)", "allow a"}},
		// Of a later state, which is found by one move, and the last one.
		{40, 7, 201, []string{"proc p 1 = [v0=39]" + many + "a(v3).p(v1*5+v2) + [v0=0]b.p(39)", "run p(0)", "allow a b"}},
		{39, 7, 38 + 195, []string{"proc p 1 = [v0=38]sum 7.sum 4.sum 4.[v1*5+v2<39]a(v3).p(v1*5+v2) + [v0<38]a.p(v0+1)", "run p(0)", "allow a"}},
		{-1, 7, 0, []string{"proc p 1 = [v0=38]sum 7.sum 4.sum 4.a(v3).p(v1*5+v2) + [v0=38]c.p(0) + [v0<38]a.p(v0+1)", "run p(0)", "allow a c"}},
		// Steps without moves: of the first component and of the last one, in the first state and behind a move.
		{1, 1, 0, []string{"proc p 0 = " + many + "a.0", "run p", "allow b"}},
		{-1, 1, 0, []string{"proc p 0 = " + many + "a.0 + b.0", "run p", "allow c"}},
		{-1, 1, 0, []string{"proc p 0 = " + many + "a.0 + b.0", "proc q 0 = 0", "run q | q | p"}},
		{-1, 1, 0, []string{"proc p 0 = " + many + "a.0 + b.0", "proc q 0 = c.p", "run q", "allow c"}},
		{2, 2, 1, []string{"proc p 0 = " + many + "a.0", "proc q 0 = c.p", "run q", "allow c"}},
		// A state with too many moves that no moves lead to.
		{1, 1, 0, []string{"proc p 0 = " + many + "a.0 + b.0", "proc q 0 = c.p", "run q", "allow a b"}},
		// As many of three components as of one, which make few edges.
		{1, 2, 2, []string{"proc p 0 = sum 7.sum 7.sum 1.a(v0,v1).p + b.p", "run p | p | p", "allow a b", "hide a"}},
		{1, 9, 8, []string{"proc p 0 = sum 7.sum 7.sum 1.a(v0+v2*8,v1).p + sum 7.b(v0).p", "run p | p | p", "allow b"}},
	} {
		s := systemOf(t, c.lines...)
		n := worldOfSystem(s).size()
		expectSize(t, impl.ExploreSystem, s, n, c.states, c.labels, c.edges, c.states < 0)
		if n.tooManyMoves != (c.states < 0) {
			t.Errorf("%q: defined with %+v", c.lines, n)
		}
	}
}
