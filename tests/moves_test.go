package tests

import (
	"math"
	"slices"
	"strings"
	"testing"

	"loop.example/g01075/impl"
)

func TestStartState(t *testing.T) {
	expect(t, impl.StartState, in(example()), []impl.Point{pt(1, 0), pt(2, 0), pt(3, 0, 5)}, impl.OK)
	s := systemOf(t, "proc p 2 = a.0", "proc q 3 = b.0", "run q(0,63,7) | p(1,2) | q(0,63,7)")
	expect(t, impl.StartState, in(s), []impl.Point{pt(1, 0, 0, 63, 7), pt(0, 0, 1, 2), pt(1, 0, 0, 63, 7)}, impl.OK)
	for _, s := range invalidSystems() {
		expect(t, impl.StartState, in(s), nil, impl.ErrInvalid)
	}
}

// notStates returns lists of points that are not states of the example.
func notStates() [][]impl.Point {
	start := startOf(example())
	lists := [][]impl.Point{nil, start[:1], start[:2], append(slices.Clone(start), pt(1, 0)), make([]impl.Point, 1000), make([]impl.Point, 3)}
	for _, p := range []impl.Point{
		pt(1, 2), pt(2, 3, 0), pt(3, 5, 0, 0), pt(1, 0, 0), pt(2, 1), pt(2, 1, 0, 0), pt(2, 1, 64), pt(2, 1, -1), pt(3, 0), pt(3, 0, math.MaxInt64),
		pt(4, 0), pt(-1, 0), pt(1, 5), pt(1, -1), pt(0, 0), pt(math.MinInt64, math.MaxInt64, math.MinInt64),
	} {
		for i := range start {
			state := slices.Clone(start)
			state[i] = p
			lists = append(lists, state)
		}
	}
	return lists
}

func TestValidState(t *testing.T) {
	s := example()
	for _, state := range append(firstStates(s, 20), stateFrom(s, "add:6:1,63 add:1:0,40 crash:0:3"), stateFrom(s, "hold:2:9 hold:2:9 hold:0:-")) {
		expect(t, impl.ValidState, in(s, state), true)
	}
	for _, state := range notStates() {
		expect(t, impl.ValidState, in(s, state), false)
	}
	for _, s := range invalidSystems() {
		expect(t, impl.ValidState, in(s, startOf(example())), false)
		expect(t, impl.ValidState, in(s, nil), false)
	}
}

func TestMovesOfOneComponent(t *testing.T) {
	lines := []string{"proc p 0 = a.p + b(1).0 + tau.p + sum 2.c(v0,1).0", "run p"}
	expectStart(t, systemOf(t, lines...), "tau 0 -1 p:0:-")
	expectStart(t, systemOf(t, append(lines, "allow a b c")...), "a 0 -1 p:0:-", "b(1) 0 -1 p:5:-", "tau 0 -1 p:0:-", "c(0,1) 0 -1 p:11:0", "c(1,1) 0 -1 p:11:1", "c(2,1) 0 -1 p:11:2")
	expectStart(t, systemOf(t, append(lines, "allow b d")...), "b(1) 0 -1 p:5:-", "tau 0 -1 p:0:-")
	// Hidden labels lose their values, and are moves only if they are allowed.
	expectStart(t, systemOf(t, append(lines, "allow a b", "hide b c")...), "a 0 -1 p:0:-", "tau 0 -1 p:5:-", "tau 0 -1 p:0:-")
	expectStart(t, systemOf(t, append(lines, "hide a b c")...), "tau 0 -1 p:0:-")
	expectMoves(t, systemOf(t, append(lines, "allow a b c")...), []impl.Point{pt(0, 11, 2)})
}

func TestMovesOfEqualMoves(t *testing.T) {
	lines := []string{"proc p 0 = a.p + b(1).p + tau.p + b(2).q", "proc q 0 = 0", "run p"}
	expectStart(t, systemOf(t, append(lines, "allow a b", "hide a b")...), "tau 0 -1 p:0:-", "tau 0 -1 q:0:-")
	expectStart(t, systemOf(t, append(lines, "allow a b", "hide b")...), "a 0 -1 p:0:-", "tau 0 -1 p:0:-", "tau 0 -1 q:0:-")
	// Moves of different components are not equal, even if they have the same label and lead to the same state.
	s := systemOf(t, "proc p 0 = a.p", "run p | p | p", "meet a a b", "allow a b")
	expectStart(t, s, "a 0 -1 p:0:- p:0:- p:0:-", "a 1 -1 p:0:- p:0:- p:0:-", "a 2 -1 p:0:- p:0:- p:0:-",
		"b 0 1 p:0:- p:0:- p:0:-", "b 0 2 p:0:- p:0:- p:0:-", "b 1 2 p:0:- p:0:- p:0:-")
	// Nor are those of one component and of two.
	s = systemOf(t, "proc p 0 = a.p + c(1).p + c.p", "proc q 0 = b.q + c.q", "run p | q", "meet a b c", "allow c")
	expectStart(t, s, "c(1) 0 -1 p:0:- q:0:-", "c 0 -1 p:0:- q:0:-", "c 1 -1 p:0:- q:0:-", "c 0 1 p:0:- q:0:-")
	s.Hidden = []string{"c"}
	expectStart(t, s, "tau 0 -1 p:0:- q:0:-", "tau 1 -1 p:0:- q:0:-", "tau 0 1 p:0:- q:0:-")
	// Two meetings of the same components may have the same label and lead to the same state.
	s = systemOf(t, "proc p 0 = a(1).p + b(1).p + a(2).p", "proc q 0 = c(1).q + d(2).q + d(1).0", "run p | q", "meet a c x", "meet a d x", "meet b c x", "allow x")
	expectStart(t, s, "x(1) 0 1 p:0:- q:0:-", "x(1) 0 1 p:0:- q:7:-", "x(2) 0 1 p:0:- q:0:-")
	s.Hidden = []string{"x"}
	expectStart(t, s, "tau 0 1 p:0:- q:0:-", "tau 0 1 p:0:- q:7:-")
}

func TestMovesOfMeetings(t *testing.T) {
	lines := []string{"proc p 0 = put(1).p + put.p + put(1,2).p + put(2).p", "proc q 0 = get(2).q + get(2,1).0 + get.q + get(1,2).0", "run p | q", "meet get put in"}
	expectStart(t, systemOf(t, append(lines, "allow in")...), "in 0 1 p:0:- q:0:-", "in(1,2) 0 1 p:0:- q:10:-", "in(2) 0 1 p:0:- q:0:-")
	expectStart(t, systemOf(t, append(lines, "allow in", "hide in")...), "tau 0 1 p:0:- q:0:-", "tau 0 1 p:0:- q:10:-")
	// The two actions of a meeting may stand in any components; what is hidden is its Result.
	other := []string{lines[0], lines[1], "run q | p", lines[3], "allow in", "hide get put"}
	expectStart(t, systemOf(t, other...), "in(2) 0 1 q:0:- p:0:-", "in 0 1 q:0:- p:0:-", "in(1,2) 0 1 q:10:- p:0:-")
	// The Result must be allowed; the two actions need not be.
	expectStart(t, systemOf(t, lines...))
	expectStart(t, systemOf(t, append(lines, "allow out", "hide in")...))
	expectStart(t, systemOf(t, append(lines, "allow put")...), "put(1) 0 -1 p:0:- q:0:-", "put 0 -1 p:0:- q:0:-", "put(1,2) 0 -1 p:0:- q:0:-", "put(2) 0 -1 p:0:- q:0:-")
	// One component does not meet itself, and tau meets nothing.
	expectStart(t, systemOf(t, "proc p 0 = a.p + b.p + a.0", "proc q 0 = c.q + tau.q", "run p | q", "meet a a x", "meet a b x", "allow x"), "tau 1 -1 p:0:- q:0:-")
	// A Result meets nothing.
	expectStart(t, systemOf(t, "proc p 0 = a.p", "proc q 0 = b.q", "proc r 0 = x.r", "run p | q | r", "meet a b x", "allow x"),
		"x 2 -1 p:0:- q:0:- r:0:-", "x 0 1 p:0:- q:0:- r:0:-")
}

// TestMovesOfOrder has moves of one component and of each pair of three, each with several steps.
func TestMovesOfOrder(t *testing.T) {
	s := systemOf(t, "proc p 0 = a.q + sum 1.a(v0).p", "proc q 0 = a(1).p + a.q + b.p", "run p | q | p", "meet a a x", "meet a b y", "allow b x y")
	expectStart(t, s, "b 1 -1 p:0:- p:0:- p:0:-",
		"x 0 1 q:0:- q:0:- p:0:-", "y 0 1 q:0:- p:0:- p:0:-", "x(1) 0 1 p:0:- p:0:- p:0:-",
		"x 0 2 q:0:- q:0:- q:0:-", "x(0) 0 2 p:0:- q:0:- p:0:-", "x(1) 0 2 p:0:- q:0:- p:0:-",
		"x(1) 1 2 p:0:- p:0:- p:0:-", "x 1 2 p:0:- q:0:- q:0:-", "y 1 2 p:0:- p:0:- q:0:-")
	s = systemOf(t, "proc p 1 = sum 1.tau.p(v0+v1) + a(v0).0", "run p(3) | p(2)", "allow a")
	expectStart(t, s, "tau 0 -1 p:0:3 p:0:2", "tau 0 -1 p:0:4 p:0:2", "a(3) 0 -1 p:5:3 p:0:2", "tau 1 -1 p:0:3 p:0:2", "tau 1 -1 p:0:3 p:0:3", "a(2) 1 -1 p:0:3 p:5:2")
}

// TestMovesOfLimit has numbers of moves of MaxSteps and of one more, counted behind the removal of equal ones.
func TestMovesOfLimit(t *testing.T) {
	whole, half, tenth, twentieth := "sum 7.sum 4.sum 4.", "sum 3.sum 4.sum 4.", "sum 3.sum 4.", "sum 1.sum 4."
	for _, c := range []struct {
		lines []string
		want  int
	}{
		{[]string{"proc p 0 = " + whole + "a.0", "run p", "allow a"}, 200},
		{[]string{"proc p 0 = " + whole + "a.0 + tau.0", "run p", "allow a"}, -1},
		{[]string{"proc p 0 = " + whole + "a.0", "run p", "allow b"}, 0},
		// Steps that are no moves count as steps of the component.
		{[]string{"proc p 0 = " + whole + "a.0 + tau.0", "run p"}, -1},
		{[]string{"proc p 0 = " + whole + "a.0 + b.0", "run p", "allow b"}, -1},
		{[]string{"proc p 0 = " + whole + "a.0 + [0]b.0", "proc q 0 = b.q", "run q | p", "allow b"}, 1},
		{[]string{"proc p 0 = " + whole + "a.0 + c.0", "proc q 0 = b.q", "run q | p", "allow b"}, -1},
		{[]string{"proc p 0 = " + half + "a.0", "run p | p", "allow a"}, 200},
		{[]string{"proc p 0 = " + half + "a.0", "proc q 0 = a.0", "run p | p | q", "allow a"}, -1},
		{[]string{"proc p 0 = " + half + "a.0", "proc q 0 = b.0", "run p | p | q", "allow a"}, 200},
		{[]string{"proc p 0 = " + tenth + "a.0", "proc q 0 = " + twentieth + "b.0", "run p | q", "meet a b c", "allow c"}, 200},
		{[]string{"proc p 0 = " + tenth + "a.0", "proc q 0 = " + twentieth + "b.0", "proc r 0 = tau.0", "run p | q | r", "meet a b c", "allow c"}, -1},
		{[]string{"proc p 0 = " + tenth + "a.0", "proc q 0 = " + twentieth + "b.0 + tau.0", "run p | q", "meet a b c", "allow c"}, -1},
		{[]string{"proc p 0 = " + tenth + "a.0", "proc q 0 = " + twentieth + "b.0", "proc r 0 = b.0", "run p | q | r", "meet a b c", "allow c"}, -1},
		{[]string{"proc p 0 = " + whole + "a.0", "run p | p", "meet a a c", "allow c"}, -1},
		{[]string{"proc p 0 = " + whole + "a.0", "run p | p", "meet a a c", "allow a"}, -1},
		{[]string{"proc p 0 = " + whole + "a.0", "run p | p | p", "meet a a c"}, 0},
		// Of 600, of 40000, and of 220 moves only some are left.
		{[]string{"proc p 0 = " + whole + "a(v0*8+v1,v2).p", "run p | p | p", "allow a", "hide a"}, 3},
		{[]string{"proc p 0 = " + whole + "a(v0*8+v1,v2).p", "run p | p | p", "allow a"}, -1},
		{[]string{"proc p 0 = " + whole + "a(v0*8+v1,v2).p", "run p | p", "meet a a c", "allow c", "hide c"}, 1},
		{[]string{"proc p 0 = " + whole + "a(v0*8+v1,v2).p", "run p | p", "meet a a c", "allow c"}, 200},
		{[]string{"proc p 0 = " + whole + "a(v0*8+v1,v2).p", "run p | p | p", "meet a a c", "allow c"}, -1},
		{[]string{"proc p 0 = " + half + "a.0", "proc q 0 = " + half + "a.0 + tau.q", "run p | q", "allow a"}, -1},
		{[]string{"proc p 0 = " + half + "a.0", "proc q 0 = sum 7.sum 7.[v0<7]a(v0,v1).q", "run p | p | q", "allow a", "hide a"}, -1},
		{[]string{"proc p 0 = " + half + "a.0", "proc q 0 = " + half + "a(v0,v1).q", "run p | q", "allow a", "hide a"}, 101},
		{[]string{"proc p 0 = " + half + "a.0 + sum 7.sum 7.b(v0,v1).p", "proc q 0 = sum 4.sum 4.sum 3.[v0+v1#0]a.0 + sum 2.[v0]a.0 + tau.0", "run p | q", "allow a b", "hide b"}, 200},
		{[]string{"proc p 0 = " + half + "a.0 + sum 7.sum 7.b(v0,v1).p", "proc q 0 = sum 4.sum 4.sum 3.[v0+v1#0]a.0 + sum 3.[v0]a.0 + tau.0", "run p | q", "allow a b", "hide b"}, -1},
	} {
		expectMoveCount(t, systemOf(t, c.lines...), c.want)
	}
}

func TestTakeMoves(t *testing.T) {
	s := example()
	start := startOf(s)
	expect(t, impl.TakeMoves, in(s, start, nil), start, nil, impl.OK)
	moves, _ := impl.MovesOf(s, start)
	if want := movesFrom(s, "show(5,7) 2 -1 send:0:- hold:0:- add:7:5,7", "tau 0 1 send:0:- hold:2:1 add:0:5", "tau 0 1 send:0:- hold:2:2 add:0:5"); !same(moves[7:], want) {
		t.Fatalf("%+v", moves)
	}
	expect(t, impl.TakeMoves, in(s, start, []int64{7}), stateFrom(s, "send:0:- hold:0:- add:7:5,7"), []string{"show(5,7)"}, impl.OK)
	expect(t, impl.TakeMoves, in(s, start, []int64{8}), stateFrom(s, "send:0:- hold:2:1 add:0:5"), []string{"tau"}, impl.OK)
	expect(t, impl.TakeMoves, in(s, start, []int64{9, 8}), stateFrom(s, "send:0:- hold:0:- add:4:5,2"), []string{"tau", "out(2)"}, impl.OK)
	expect(t, impl.TakeMoves, in(s, start, []int64{9, 8, 0, 1}), stateFrom(s, "send:0:- hold:0:- add:7:7,1"), []string{"tau", "out(2)", "tau", "show(7,1)"}, impl.OK)
	// In the state behind the first two of these moves, there are three.
	for _, choice := range []int64{3, 4, 9, 10, 200, -1, math.MinInt64, math.MaxInt64} {
		expect(t, impl.TakeMoves, in(s, start, []int64{9, 8, choice}), nil, nil, impl.ErrRange)
		expect(t, impl.TakeMoves, in(s, start, []int64{9, 8, choice, 0}), nil, nil, impl.ErrRange)
	}
	for _, choice := range []int64{10, 11, 200, -1, math.MinInt64, math.MaxInt64} {
		expect(t, impl.TakeMoves, in(s, start, []int64{choice}), nil, nil, impl.ErrRange)
		expect(t, impl.TakeMoves, in(s, start, []int64{choice, 0, 0}), nil, nil, impl.ErrRange)
	}
}

func TestTakeMovesLater(t *testing.T) {
	// There is one move at 4, 3 and 2, and at 1 there are 201 steps.
	s := systemOf(t, "proc p 1 = [v0]a(v0).p(v0-1) + [v0<2]sum 7.sum 4.sum 4.b(v0,v1).0", "run p(4)", "allow a b")
	start := startOf(s)
	expect(t, impl.TakeMoves, in(s, start, []int64{0, 0, 0}), stateFrom(s, "p:0:1"), []string{"a(4)", "a(3)", "a(2)"}, impl.OK)
	expect(t, impl.TakeMoves, in(s, start, []int64{0, 1, 0}), nil, nil, impl.ErrRange)
	// Too many steps are an error for every choice, but not where nothing is chosen.
	full := stateFrom(s, "p:0:1")
	for _, choice := range []int64{0, 1, 200, 201, -1, math.MinInt64, math.MaxInt64} {
		expect(t, impl.TakeMoves, in(s, full, []int64{choice}), nil, nil, impl.ErrFull)
		expect(t, impl.TakeMoves, in(s, start, []int64{0, 0, 0, choice}), nil, nil, impl.ErrFull)
		expect(t, impl.TakeMoves, in(s, start, []int64{0, 0, 0, choice, -1}), nil, nil, impl.ErrFull)
		// An error of an earlier choice comes first.
		expect(t, impl.TakeMoves, in(s, start, []int64{0, 0, 1, choice}), nil, nil, impl.ErrRange)
	}
	expect(t, impl.TakeMoves, in(s, full, nil), full, nil, impl.OK)
	loop := systemOf(t, "proc p 1 = a(v0).p(v0+1)", "run p(0)", "allow a")
	state, labels, code := impl.TakeMoves(loop, startOf(loop), repeated(1000, 0))
	if !same(state, stateFrom(loop, "p:0:40")) || len(labels) != 1000 || labels[999] != "a(39)" || labels[64] != "a(0)" || code != impl.OK {
		t.Error(state, len(labels), code)
	}
}

func TestIsStuck(t *testing.T) {
	many := "sum 7.sum 4.sum 4."
	for _, c := range []struct {
		want  bool
		lines []string
	}{
		{true, []string{"proc p 0 = 0", "run p", "allow a"}},
		{true, []string{"proc p 0 = [0]a.0", "run p", "allow a"}},
		{true, []string{"proc p 0 = a.0", "run p", "allow b", "hide a"}},
		{false, []string{"proc p 0 = a.0", "run p", "allow a", "hide a"}},
		{false, []string{"proc p 0 = tau.0", "run p"}},
		{true, []string{"proc p 0 = a.0 + b.0", "run p", "meet a a c", "meet a b c", "allow c"}},
		{false, []string{"proc p 0 = a.0 + b.0", "run p | p", "meet a a c", "allow c"}},
		{false, []string{"proc p 0 = a.0 + b.0", "run p | p", "meet a b c", "allow c"}},
		{true, []string{"proc p 0 = a.0", "run p | p", "meet a b c", "allow c"}},
		{true, []string{"proc p 0 = a.0", "proc q 0 = b.0", "run p | q", "meet a b c", "allow d", "hide c"}},
		{true, []string{"proc p 0 = a(1).0", "proc q 0 = b(2).0 + b.0 + b(1,1).0", "run p | q", "meet a b c", "allow c"}},
		{false, []string{"proc p 0 = a(1).0", "proc q 0 = sum 2.b(v0).0", "run p | q", "meet a b c", "allow c"}},
		{false, []string{"proc p 0 = a(1).0", "proc q 0 = sum 2.b(v0).0", "run q | p", "meet a b c", "allow c"}},
		{false, []string{"proc p 0 = a.0", "proc q 0 = b.0", "proc r 0 = 0", "run p | r | q", "meet a b c", "allow c"}},
		{false, []string{"proc p 0 = a.0", "proc q 0 = b.0", "proc r 0 = 0", "run r | q | p", "meet a a c", "meet a b c", "allow c"}},
		// Whether there is a move does not depend on how many steps and moves there are.
		{false, []string{"proc p 0 = " + many + "a.0 + tau.0", "run p", "allow a"}},
		{false, []string{"proc p 0 = " + many + "a.0 + tau.0", "run p"}},
		{true, []string{"proc p 0 = " + many + "a.0 + b.0", "run p | p", "meet a b d"}},
		{false, []string{"proc p 0 = " + many + "a.0 + b.0", "run p | p", "meet b b d", "allow d"}},
	} {
		s := systemOf(t, c.lines...)
		expect(t, impl.IsStuck, in(s, startOf(s)), c.want)
	}
}

func TestMoveLabels(t *testing.T) {
	s := systemOf(t, "proc p 0 = zz.p + a(2).p + a(10).p + a.p + tau.p + a(2).0 + h(1).0", "run p | p", "allow a h zz", "hide h")
	expect(t, impl.MoveLabels, in(s, startOf(s)), []string{"tau", "a", "a(10)", "a(2)", "zz"}, impl.OK)
	s.Meetings, s.Allowed, s.Hidden = meetings("a a b", "a zz ta"), []string{"b", "ta"}, nil
	expect(t, impl.MoveLabels, in(s, startOf(s)), []string{"tau", "b", "b(10)", "b(2)", "ta"}, impl.OK)
	s.Definitions[0].Body[13].Name = "tb"
	s.Allowed = []string{"b", "ta", "tb"}
	expect(t, impl.MoveLabels, in(s, startOf(s)), []string{"b", "b(10)", "b(2)", "ta", "tb"}, impl.OK)
	s.Meetings, s.Allowed = nil, nil
	expect(t, impl.MoveLabels, in(s, startOf(s)), nil, impl.OK)
	expect(t, impl.MoveLabels, in(example(), startOf(example())),
		[]string{"tau", "show(5,0)", "show(5,1)", "show(5,2)", "show(5,3)", "show(5,4)", "show(5,5)", "show(5,6)", "show(5,7)"}, impl.OK)
}

// TestErrorsOfFunctionsOfStates gives systems and states that are not valid, also with choices that are out of range.
func TestErrorsOfFunctionsOfStates(t *testing.T) {
	check := func(s impl.System, state []impl.Point) {
		t.Helper()
		expect(t, impl.MovesOf, in(s, state), nil, impl.ErrInvalid)
		expect(t, impl.MoveLabels, in(s, state), nil, impl.ErrInvalid)
		expect(t, impl.IsStuck, in(s, state), false)
		expect(t, impl.StateText, in(s, state), "")
		for _, choices := range [][]int64{nil, {0}, {-1}, {math.MaxInt64, 0}} {
			expect(t, impl.TakeMoves, in(s, state, choices), nil, nil, impl.ErrInvalid)
		}
	}
	for _, state := range notStates() {
		check(example(), state)
	}
	for _, s := range invalidSystems() {
		check(s, startOf(example()))
		check(s, nil)
	}
	// A state that is not valid goes before too many steps.
	s := systemOf(t, "proc p 0 = sum 7.sum 7.sum 7.a.0", "run p | p", "allow a")
	check(s, []impl.Point{pt(0, 0), pt(0, 0, 1)})
	check(s, []impl.Point{pt(0, 0)})
	s.Hidden = []string{"tau"}
	check(s, startOf(s))
}

func TestStateTexts(t *testing.T) {
	s := systemOf(t, "proc p 0 = a.p", "proc q1 3 = sum 7.sum 7.sum 7.0", "proc tau 1 = 0", "run p | q1(1,2,3) | tau(9)")
	for _, text := range []string{
		"p:0:- q1:0:1,2,3 tau:0:9", "p:0:- p:0:- p:0:-", "q1:3:0,63,10,9,1,0 tau:0:0 q1:1:0,0,0,0", "tau:0:63 tau:0:1 q1:2:0,1,2,3,4",
	} {
		expect(t, impl.StateText, in(s, stateFrom(s, text)), text)
		expect(t, impl.ReadState, in(s, text), stateFrom(s, text), true)
	}
	for _, text := range []string{
		"", " ", "p:0:-", "p:0:- p:0:-", "p:0:- p:0:- p:0:- p:0:-", " p:0:- p:0:- p:0:-", "p:0:- p:0:- p:0:- ", "p:0:-  p:0:- p:0:-", "p:0:-\tp:0:- p:0:-",
		"p:0:-\n p:0:- p:0:-", "p:0:-,p:0:-,p:0:-", "P:0:- p:0:- p:0:-", "r:0:- p:0:- p:0:-", ":0:- p:0:- p:0:-", "p p:0:- p:0:-", "p:0 p:0:- p:0:-", "p:0: p:0:- p:0:-",
		"p:0:-: p:0:- p:0:-", "p:0:-:- p:0:- p:0:-", "p::- p:0:- p:0:-", "p:00:- p:0:- p:0:-", "p:+0:- p:0:- p:0:-", "p:-0:- p:0:- p:0:-", "p:-1:- p:0:- p:0:-",
		"p:1:- p:0:- p:0:-", "p:2:- p:0:- p:0:-", "p:0x0:- p:0:- p:0:-", "p:0:0 p:0:- p:0:-", "p:a:- p:0:- p:0:-", "p:9999999999999999999:- p:0:- p:0:-",
		"p:0:- p:0:- tau:0:-", "p:0:- p:0:- tau:0:", "p:0:- p:0:- tau:0:01", "p:0:- p:0:- tau:0:64", "p:0:- p:0:- tau:0:-1", "p:0:- p:0:- tau:0:1,2", "p:0:- p:0:- tau:0:1,",
		"p:0:- p:0:- tau:0:+1", "p:0:- p:0:- q1:0:1,2", "p:0:- p:0:- q1:0:1,2,3,4", "p:0:- p:0:- q1:1:1,2,3", "p:0:- p:0:- q1:0:1, 2,3", "p:0:- p:0:- q1:0:1;2;3",
		"p:0:- p:0:- q1:4:0,0,0,0,0,0", "p:0:- p:0:- p:0:-\x00", "\xff", strings.Repeat("p:0:- ", 1000) + "p:0:-", strings.Repeat(" ", 1000), strings.Repeat(":", 1000),
	} {
		expect(t, impl.ReadState, in(s, text), nil, false)
	}
	for _, s := range invalidSystems() {
		for _, text := range []string{"", "send:0:- hold:0:- add:0:5", "send:0:- hold:0:-", ":0:-"} {
			expect(t, impl.ReadState, in(s, text), nil, false)
		}
	}
	expect(t, impl.ReadState, in(example(), "send:0:- hold:0:- add:0:5"), startOf(example()), true)
}

// TestExampleOfChapter7 takes the example of the document.
func TestExampleOfChapter7(t *testing.T) {
	s := impl.System{Definitions: defs(0, actPart("a"), callPart(0)), Components: []impl.Component{{}}, Allowed: []string{"a"}}
	state := []impl.Point{pt(0, 0)}
	expect(t, impl.StateText, in(s, state), "p:0:-")
	expect(t, impl.ReadState, in(s, "p:0:-"), state, true)
	expect(t, impl.StartState, in(s), state, impl.OK)
	expect(t, impl.MovesOf, in(s, state), []impl.Move{{Label: "a", First: 0, Second: -1, State: state}}, impl.OK)
	expect(t, impl.TakeMoves, in(s, state, []int64{0, 0}), state, []string{"a", "a"}, impl.OK)
	expect(t, impl.MoveLabels, in(s, state), []string{"a"}, impl.OK)
	expect(t, impl.IsStuck, in(s, state), false)
}
