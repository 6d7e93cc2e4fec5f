package tests

import (
	"math"
	"slices"
	"strings"
	"testing"

	"loop.example/g01075/impl"
)

// expectExplored checks the transition system and the states of a linear process.
func expectExplored(t *testing.T, l impl.Linear, text string, states ...[]int64) {
	t.Helper()
	expect(t, impl.ExploreLinear, in(l), ltsFrom(text), states, impl.OK)
	worldOfLinear(l).check(t, ltsFrom(text), states)
	for number, state := range states {
		expect(t, impl.StateIndex, in(l, state), number, impl.OK)
	}
}

// singles returns lists of one number each.
func singles(numbers ...int64) [][]int64 {
	var lists [][]int64
	for _, n := range numbers {
		lists = append(lists, []int64{n})
	}
	return lists
}

func TestExploreLinear(t *testing.T) {
	expectExplored(t, lin("linear 1: 0", "sum - if v0<2 do a then v0+1"), "3 0|a|0:1:1 1:1:2", singles(0, 1, 2)...)
	expectExplored(t, lin("linear 2: 9,8", "sum - if v0=9 do a(v1) then v1;v0", "sum - if v0=8 do tau then v1;v0"), "2 0|a(8)|0:1:1 1:0:0", []int64{9, 8}, []int64{8, 9})
	// Labels are in their own order, whatever that of the summands and sums is, and tau is one of them in any case.
	expectExplored(t, lin("linear 1: 0", "sum - if v0=0 do taus then 1", "sum 1 if v0=0 do a(10-8*v1) then 1", "sum - if v0=0 do b(0,3) then 1", "sum - if v0=0 do a0 then 1", "sum - if v0=0 do a then 1"),
		"2 0|a a(10) a(2) a0 b(0,3) taus|0:1:1 0:2:1 0:3:1 0:4:1 0:5:1 0:6:1", singles(0, 1)...)
	expectExplored(t, lin("linear 1: 3", "sum - if 1 do b then 3", "sum - if 1 do tau then 3"), "1 0|b|0:0:0 0:1:0", singles(3)...)
	// All parameters count, also the last one of many.
	l := lin("linear 21: "+strings.Repeat("0,", 20)+"0", "sum - if v20<2 do a then "+"0;1;2;3;4;5;6;7;8;9;0;1;2;3;4;5;6;7;8;9;v20+1")
	next := append(append(counted(10), counted(10)...), 1)
	other := slices.Clone(next)
	other[20] = 2
	expectExplored(t, l, "3 0|a|0:1:1 1:1:2", l.Start, next, other)
}

func TestExploreLinearWithLess(t *testing.T) {
	// Without moves, without summands, and without parameters.
	expectExplored(t, impl.Linear{}, "1 0|-|-", nil)
	expectExplored(t, lin("linear 0: -", "sum - if 0 do a then -", "sum 7 if 7<v0 do tau then -"), "1 0|-|-", nil)
	expectExplored(t, lin("linear 0: -", "sum - if 1 do a then -", "sum 2 if v0 do b(v0) then -", "sum - if 1 do tau then -"), "1 0|a b(1) b(2)|0:0:0 0:1:0 0:2:0 0:3:0", nil)
	expectExplored(t, lin("linear 1: 63"), "1 0|-|-", singles(63)...)
	expectExplored(t, lin("linear 3: 0,63,7"), "1 0|-|-", []int64{0, 63, 7})
	expectExplored(t, lin("linear 1: 5", "sum - if v0<5 do a then v0", "sum 3,3 if v1+v2=v0+2 do b then 0"), "1 0|-|-", singles(5)...)
	expectExplored(t, impl.Linear{Parameters: 21, Start: repeated(21, 7)}, "1 0|-|-", repeated(21, 7))
}

// TestExploreLinearNumbers has states in other orders than those of their values, labels and edges.
func TestExploreLinearNumbers(t *testing.T) {
	// The queue goes on in breadth, with the first state first.
	expectExplored(t, lin("linear 1: 0", "sum 1 if v0<3 do a(v1) then 2*v0+v1+1"), "7 0|a(0) a(1)|0:1:1 0:2:2 1:1:3 1:2:4 2:1:5 2:2:6", singles(0, 1, 2, 3, 4, 5, 6)...)
	expectExplored(t, lin("linear 1: 0", "sum 1 if v0<3 do a(v1) then 2*v0+2-v1"), "7 0|a(0) a(1)|0:1:1 0:2:2 1:1:3 1:2:4 2:1:5 2:2:6", singles(0, 2, 1, 6, 5, 4, 3)...)
	// States that are found first by way of a later summand.
	expectExplored(t, lin("linear 1: 0", "sum - if v0=5 do a then 9", "sum - if v0=0 do b then 5", "sum - if v0=0 do a then 3"), "4 0|a b|0:1:2 0:2:1 1:1:3", singles(0, 5, 3, 9)...)
	expectExplored(t, lin("linear 1: 0", "sum - if v0=7 do c then 2", "sum - if v0=1 do b then 2", "sum - if v0=0 do a then 1", "sum - if v0=0 do tau then 7", "sum - if v0=0 do d then 4"),
		"5 0|a b c d|0:0:2 0:1:1 0:4:3 1:2:4 2:3:4", singles(0, 1, 7, 4, 2)...)
	// A state is not treated earlier because of a label, nor because a move leads to it again.
	expectExplored(t, lin("linear 1: 0", "sum - if v0=0 do z then 1", "sum - if v0=0 do a then 2", "sum - if v0=0 do tau then 1", "sum - if v0=1 do b then 2", "sum - if v0=2 do b then 8", "sum - if v0=1 do c then 9"),
		"5 0|a b c z|0:0:1 0:1:2 0:4:1 1:2:2 1:3:3 2:2:4", singles(0, 1, 2, 9, 8)...)
	// Sums count with the first one slowest.
	expectExplored(t, lin("linear 1: 0", "sum 1,1 if !v0 do a then 1+v1+4*v2"), "5 0|a|0:1:1 0:1:2 0:1:3 0:1:4", singles(0, 1, 5, 2, 6)...)
}

// TestExploreLinearOfLoops has several moves of one state to one state, and of a state to itself.
func TestExploreLinearOfLoops(t *testing.T) {
	expectExplored(t, lin("linear 1: 5", "sum - if 1 do a then v0"), "1 0|a|0:1:0", singles(5)...)
	expectExplored(t, lin("linear 1: 5", "sum - if 1 do a then v0", "sum 3 if 1 do a then 5", "sum - if 1 do b then v0", "sum 1 if 1 do a(v1) then v0", "sum - if 1 do tau then v0", "sum - if 1 do tau then v0"),
		"1 0|a a(0) a(1) b|0:0:0 0:1:0 0:2:0 0:3:0 0:4:0", singles(5)...)
	expectExplored(t, lin("linear 1: 0", "sum 1 if 1 do a then v1", "sum - if 1 do b then 1", "sum - if 1 do a then 1", "sum - if v0 do tau then 0"), "2 0|a b|0:1:0 0:1:1 0:2:1 1:0:0 1:1:0 1:1:1 1:2:1", singles(0, 1)...)
	expectExplored(t, lin("linear 1: 2", "sum - if v0 do a then v0-1", "sum - if v0=1 do a then v0", "sum - if !v0 do a then 2"), "3 0|a|0:1:1 1:1:1 1:1:2 2:1:0", singles(2, 1, 0)...)
}

// expectSize checks that something has a transition system with so much of everything, or none if it is full.
func expectSize(t *testing.T, f, argument any, defined size, states, labels, edges int, full bool) {
	t.Helper()
	if defined.fits() == full || !full && (defined.states != states || defined.labels != labels || defined.edges != edges) {
		t.Errorf("%+v: defined with %+v", argument, defined)
	}
	if full {
		expect(t, f, in(argument), nil, nil, impl.ErrFull)
		return
	}
	results := call(t, f, argument)
	x := results[0].(impl.Lts)
	if results[2] != int64(impl.OK) || int(x.States) != states || len(x.Labels) != labels || len(x.Edges) != edges || !isLts(x) {
		t.Errorf("%s of %+v: %+v, code %v", nameOf(f), argument, x, results[2])
	}
}

// TestExploreLinearLimits reaches each limit of valid systems, and has one more.
func TestExploreLinearLimits(t *testing.T) {
	for _, c := range []struct {
		states, labels, edges int
		lines                 []string
	}{
		{40, 2, 39, []string{"linear 1: 0", "sum - if v0<39 do a then v0+1"}},
		{41, 2, 40, []string{"linear 1: 0", "sum - if v0<40 do a then v0+1"}},
		{64, 2, 64, []string{"linear 1: 0", "sum - if 1 do a then v0+1"}},
		{40, 2, 40, []string{"linear 1: 39", "sum 4,7 if v0=39 do a then v1*8+v2"}},
		{41, 2, 40, []string{"linear 1: 40", "sum 4,7 if v0=40 do a then v1*8+v2"}},
		// The last state is found by the last move of the last state.
		{40, 3, 40, []string{"linear 1: 0", "sum - if v0<38 do a then v0+1", "sum - if v0=38 do b then 0", "sum - if v0=38 do b then 63"}},
		{41, 3, 41, []string{"linear 1: 0", "sum - if v0<39 do a then v0+1", "sum - if v0=39 do b then 0", "sum - if v0=39 do b then 63"}},
		// Labels: tau is one of them without an edge, too.
		{1, 12, 11, []string{"linear 0: -", "sum 7 if 1 do a(v0) then -", "sum 2 if 1 do b(v0) then -"}},
		{1, 13, 12, []string{"linear 0: -", "sum 7 if 1 do a(v0) then -", "sum 3 if 1 do b(v0) then -"}},
		{1, 12, 12, []string{"linear 0: -", "sum 7 if 1 do a(v0) then -", "sum 2 if 1 do b(v0) then -", "sum - if 1 do tau then -"}},
		{1, 13, 13, []string{"linear 0: -", "sum 7 if 1 do a(v0) then -", "sum - if 1 do tau then -", "sum 3 if 1 do b(v0) then -"}},
		{13, 12, 13, []string{"linear 1: 0", "sum - if v0<11 do a(v0) then v0+1", "sum - if v0=11 do a(3) then v0+1", "sum - if v0=12 do a(0) then 0"}},
		{13, 13, 13, []string{"linear 1: 0", "sum - if v0<11 do a(v0) then v0+1", "sum - if v0=11 do a(3) then v0+1", "sum - if v0=12 do b then 0"}},
		// Edges: of 10 states with 30 each, of one state, and of the last state.
		{10, 4, 300, []string{"linear 1: 0", "sum 1,4,2 if 1 do a(v3) then v1*5+v2"}},
		{10, 5, 301, []string{"linear 1: 0", "sum 1,4,2 if 1 do a(v3) then v1*5+v2", "sum - if v0=0 do b then 0"}},
		{10, 5, 301, []string{"linear 1: 0", "sum 1,4,2 if 1 do a(v3) then v1*5+v2", "sum - if v0=9 do b then 9"}},
		{10, 4, 300, []string{"linear 1: 0", "sum 1,4,2 if 1 do a(v3) then v1*5+v2", "sum - if v0=9 do a(2) then 9"}},
		{30, 11, 300, []string{"linear 1: 29", "sum 4,5,4,1 if v0=29 do a(v3,v4) then v1*6+v2"}},
		{30, 11, 301, []string{"linear 1: 29", "sum 4,5,4,1 if v0=29 do a(v3,v4) then v1*6+v2", "sum - if v0=28 do a(0,0) then 0"}},
		// As much of everything as there may be.
		{40, 12, 300, []string{"linear 1: 0", "sum 7,4,6 if v0=0 do a(v3) then v1*5+v2", "sum 3 if 0<v0&v0<5 do b(v1) then 39", "sum 3 if v0=5 do b(v1) then v1"}},
	} {
		l := lin(c.lines...)
		full := c.states > 40 || c.labels > 12 || c.edges > 300
		expectSize(t, impl.ExploreLinear, l, worldOfLinear(l).size(), c.states, c.labels, c.edges, full)
		if full {
			expect(t, impl.StateIndex, in(l, l.Start), 0, impl.ErrFull)
			expect(t, impl.CheckInvariant, in(l, num(0)), nil, nil, impl.ErrFull)
			expect(t, impl.DeadlockTrace, in(l), nil, impl.ErrFull)
		}
	}
}

func TestErrorsOfExplorations(t *testing.T) {
	for _, l := range invalidLinears() {
		expect(t, impl.ExploreLinear, in(l), nil, nil, impl.ErrInvalid)
		expect(t, impl.DeadlockTrace, in(l), nil, impl.ErrInvalid)
		for _, state := range [][]int64{l.Start, nil, {0}, {64}, {0, 5, 63}} {
			expect(t, impl.StateIndex, in(l, state), 0, impl.ErrInvalid)
		}
		for _, e := range [][]impl.Term{num(0), num(64), vr(0), nil, nots(60, num(1))} {
			expect(t, impl.CheckInvariant, in(l, e), nil, nil, impl.ErrInvalid)
		}
		for _, labels := range [][]string{nil, {"a"}, {""}, {"tau", "A"}} {
			expect(t, impl.ReplayLinear, in(l, labels), nil, impl.ErrInvalid)
		}
	}
	for _, s := range invalidSystems() {
		expect(t, impl.ExploreSystem, in(s), nil, nil, impl.ErrInvalid)
	}
}

func TestStateIndex(t *testing.T) {
	l := lin("linear 2: 7,0", "sum - if v1<2 do a then v0;v1+1", "sum - if v0=7 do b then 8;v1")
	for number, state := range [][]int64{{7, 0}, {7, 1}, {8, 0}, {7, 2}, {8, 1}, {8, 2}} {
		expect(t, impl.StateIndex, in(l, state), number, impl.OK)
	}
	// Too short, too long, with a value out of range, and states that do not occur.
	for _, state := range [][]int64{nil, {7}, {7, 0, 0}, {0, 7, 0}, {7, 64}, {64, 0}, {-1, 0}, {7, -1}, {math.MinInt64, 0}, {7, math.MaxInt64}, repeated(1000, 0)} {
		expect(t, impl.StateIndex, in(l, state), 0, impl.ErrRange)
	}
	for _, state := range [][]int64{{0, 7}, {7, 3}, {9, 0}, {0, 0}, {63, 63}} {
		expect(t, impl.StateIndex, in(l, state), 0, impl.ErrNotFound)
	}
	expect(t, impl.StateIndex, in(impl.Linear{}, nil), 0, impl.OK)
	expect(t, impl.StateIndex, in(impl.Linear{}, []int64{0}), 0, impl.ErrRange)
	// What is no state goes before too many states, and these before one that does not occur.
	many := lin("linear 1: 0", "sum - if v0<40 do a then v0+1")
	for _, state := range [][]int64{nil, {0, 0}, {64}, {-1}} {
		expect(t, impl.StateIndex, in(many, state), 0, impl.ErrRange)
	}
	for _, state := range singles(0, 1, 40, 41, 63) {
		expect(t, impl.StateIndex, in(many, state), 0, impl.ErrFull)
	}
}

func TestCheckInvariant(t *testing.T) {
	less := func(k, n int64) []impl.Term { return op(impl.OpLess, vr(k), num(n)) }
	l := lin("linear 1: 0", "sum - if v0<2 do a then v0+1")
	expect(t, impl.CheckInvariant, in(l, less(0, 2)), false, []int64{2}, impl.OK)
	expect(t, impl.CheckInvariant, in(l, less(0, 3)), true, nil, impl.OK)
	// 0 in the first state, in a later one only, and in none.
	for _, c := range []struct {
		e     []impl.Term
		state []int64
	}{
		{vr(0), []int64{0}}, {num(0), []int64{0}}, {op(impl.OpSub, vr(0), num(1)), []int64{1}}, {op(impl.OpUnequal, vr(0), num(2)), []int64{2}}, {less(0, 1), []int64{1}}, {less(0, 0), []int64{0}},
		{not(vr(0)), []int64{1}}, {nots(58, not(vr(0))), []int64{1}}, {nots(58, vr(0)), []int64{0}}, {append(op(impl.OpMul, vr(0), nil), nots(57, vr(0))...), []int64{0}},
	} {
		expect(t, impl.CheckInvariant, in(l, c.e), false, c.state, impl.OK)
	}
	for _, e := range [][]impl.Term{num(1), num(63), op(impl.OpUnequal, vr(0), num(3)), op(impl.OpSub, vr(0), num(3)), op(impl.OpAdd, vr(0), num(1)), append(op(impl.OpEither, num(1), nil), nots(57, vr(0))...)} {
		expect(t, impl.CheckInvariant, in(l, e), true, nil, impl.OK)
	}
	// The first state is that with the least number, not with the least values.
	other := lin("linear 2: 5,5", "sum 1 if v0=5 do a(v2) then 4-v2;v1+v2")
	for _, c := range []struct {
		e     []impl.Term
		state []int64
	}{{less(0, 5), []int64{5, 5}}, {op(impl.OpEqual, vr(0), num(5)), []int64{4, 5}}, {op(impl.OpEqual, vr(1), num(5)), []int64{3, 6}}, {op(impl.OpUnequal, vr(0), num(3)), []int64{3, 6}}} {
		expect(t, impl.CheckInvariant, in(other, c.e), false, c.state, impl.OK)
	}
	expect(t, impl.CheckInvariant, in(other, op(impl.OpLess, num(2), op(impl.OpMul, vr(0), vr(1)))), true, nil, impl.OK)
	// Without parameters.
	for _, l := range []impl.Linear{{}, lin("linear 0: -", "sum - if 1 do a then -")} {
		expect(t, impl.CheckInvariant, in(l, num(0)), false, nil, impl.OK)
		expect(t, impl.CheckInvariant, in(l, op(impl.OpAdd, num(63), num(1))), false, nil, impl.OK)
		expect(t, impl.CheckInvariant, in(l, num(7)), true, nil, impl.OK)
		expect(t, impl.CheckInvariant, in(l, vr(0)), nil, nil, impl.ErrRange)
	}
	widest := impl.Linear{Parameters: 21, Start: counted(21)}
	expect(t, impl.CheckInvariant, in(widest, vr(20)), true, nil, impl.OK)
	expect(t, impl.CheckInvariant, in(widest, vr(0)), false, counted(21), impl.OK)
	expect(t, impl.CheckInvariant, in(widest, vr(21)), nil, nil, impl.ErrRange)
}

func TestCheckInvariantErrors(t *testing.T) {
	l := lin("linear 1: 0", "sum 1 if v0<2 do a(v1) then v0+1")
	many := lin("linear 1: 0", "sum - if v0<40 do a then v0+1")
	// Too many variables, too many terms, and what is no expression. The variable of a sum is none of the state.
	for _, e := range [][]impl.Term{
		nil, vr(1), vr(2), vr(28), vr(29), vr(-1), vr(math.MaxInt64), op(impl.OpAdd, vr(0), vr(1)), nots(60, vr(0)), nots(60, num(1)), nots(1000, num(1)), sumOf(31, vr(0)),
		num(64), num(-1), op(9, num(1), num(1)), op(impl.OpAdd, num(1), nil), slices.Concat(num(1), num(1)), {{Kind: 4}}, {{Kind: impl.TermNot, Value: 1}, {}}, make([]impl.Term, 1000),
	} {
		expect(t, impl.CheckInvariant, in(l, e), nil, nil, impl.ErrRange)
		expect(t, impl.CheckInvariant, in(many, e), nil, nil, impl.ErrRange)
	}
	for _, e := range [][]impl.Term{num(0), num(1), vr(0), nots(59, vr(0))} {
		expect(t, impl.CheckInvariant, in(many, e), nil, nil, impl.ErrFull)
	}
}

func TestDeadlockTrace(t *testing.T) {
	for _, c := range []struct {
		trace string
		lines []string
	}{
		{"a a", []string{"linear 1: 0", "sum - if v0<2 do a then v0+1"}},
		// The only state without edges is the first one, or a later one.
		{"", []string{"linear 1: 0"}},
		{"", []string{"linear 0: -", "sum - if 0 do a then -"}},
		{"a(3)", []string{"linear 1: 3", "sum - if v0 do a(v0) then 0"}},
		{"tau b", []string{"linear 1: 0", "sum - if v0=0 do tau then 1", "sum - if v0=1 do a then 0", "sum - if v0=1 do b then 2"}},
		{"a a b", []string{"linear 1: 0", "sum - if v0<2 do a then v0+1", "sum - if 0<v0&v0<3 do tau then v0-1", "sum - if v0=2 do b then 63"}},
		// Of several ones the least is taken, wherever its edges stand.
		{"b", []string{"linear 1: 0", "sum - if v0=0 do b then 1", "sum - if v0=0 do a then 2"}},
		{"z", []string{"linear 1: 0", "sum - if v0=0 do z then 9", "sum - if v0=0 do tau then 1"}},
		{"c", []string{"linear 1: 0", "sum - if v0=0 do a then 1", "sum - if v0=1 do a then 2", "sum - if v0=0 do c then 3"}},
		{"a d", []string{"linear 1: 0", "sum - if v0=0 do b then 1", "sum - if v0=0 do a then 2", "sum - if v0=2 do d then 7", "sum - if v0=1 do c then 8", "sum - if v0=8 do tau then 0"}},
		{"b z", []string{"linear 1: 0", "sum - if v0=0 do b then 1", "sum - if v0=0 do a then 2", "sum - if v0=2 do c then 7", "sum - if v0=1 do z then 8"}},
		// Of several shortest paths the least is taken, whatever the order of the summands is.
		{"a", []string{"linear 1: 0", "sum - if v0=0 do b then 1", "sum - if v0=0 do a then 1"}},
		{"a d", []string{"linear 1: 0", "sum - if v0=0 do b then 1", "sum - if v0=0 do a then 2", "sum - if v0=1 do c then 3", "sum - if v0=2 do d then 3"}},
		{"a d", []string{"linear 1: 0", "sum - if v0=0 do a then 1", "sum - if v0=0 do a then 2", "sum - if v0=1 do d then 3", "sum - if v0=2 do c then 3"}},
		{"tau a(63,0)", []string{"linear 1: 63", "sum 1 if v0=63 do a then v1", "sum - if v0=63 do tau then 1", "sum - if v0<2 do a(63,0) then 5"}},
	} {
		expect(t, impl.DeadlockTrace, in(lin(c.lines...)), strings.Fields(c.trace), impl.OK)
	}
	for _, lines := range [][]string{
		{"linear 0: -", "sum - if 1 do tau then -"}, {"linear 1: 0", "sum - if v0 do a then 0", "sum - if !v0 do a then 1"}, {"linear 1: 5", "sum - if v0<6 do a then v0"},
		// A state without edges that no path leads to is none.
		{"linear 1: 0", "sum - if v0<7 do a then v0*0"},
	} {
		expect(t, impl.DeadlockTrace, in(lin(lines...)), nil, impl.ErrNotFound)
	}
	// 39 steps, and one more; whether there is a state without edges makes no difference then.
	expect(t, impl.DeadlockTrace, in(lin("linear 1: 0", "sum - if v0<39 do a then v0+1")), slices.Repeat([]string{"a"}, 39), impl.OK)
	expect(t, impl.DeadlockTrace, in(lin("linear 1: 0", "sum - if v0<40 do a then v0+1")), nil, impl.ErrFull)
	expect(t, impl.DeadlockTrace, in(lin("linear 1: 0", "sum - if 1 do a then v0+1")), nil, impl.ErrFull)
}
