package tests

import (
	"math"
	"slices"
	"strings"
	"testing"

	"loop.example/g01075/impl"
)

func TestLinearConstants(t *testing.T) {
	if !same([]int64{impl.MaxRegisters, impl.MaxSummands, impl.MaxSums, impl.MaxPlaces}, []int64{21, 60, 8, 64}) {
		t.Error("limits")
	}
}

// counter is a linear process with sums, arguments and all kinds of guards.
func counter() impl.Linear {
	return lin("linear 3: 0,5,63",
		"sum - if v0=0 do a then 1;v1;v2",
		"sum 1,7 if v3<v4 do b(v4,v1) then 0;v1+v3;v2",
		"sum 3 if 1 do tau then v0;v0;v3")
}

// widest returns a process with as many parameters and sums as may be.
func widest() impl.Linear {
	s := impl.Summand{Sums: repeated(8, 1), Guard: vr(28), Name: "a", Arguments: [][]impl.Term{vr(28), vr(20)}}
	for k := range int64(21) {
		s.Next = append(s.Next, vr(28-k))
	}
	return impl.Linear{Parameters: 21, Start: repeated(21, 63), Summands: []impl.Summand{s}}
}

type changeOfLinear = func(l *impl.Linear)

// changedLinears returns copies of a process with one change each.
func changedLinears(l impl.Linear, changes ...changeOfLinear) []impl.Linear {
	var list []impl.Linear
	for _, change := range changes {
		changed := copied(l)
		change(&changed)
		list = append(list, changed)
	}
	return list
}

// withSums returns changes of the third summand of the counter, in whose expressions no sum may be then.
func withSums(lists ...[]int64) []changeOfLinear {
	var changes []changeOfLinear
	for _, sums := range lists {
		changes = append(changes, func(l *impl.Linear) {
			l.Summands[2] = impl.Summand{Sums: sums, Guard: num(1), Name: "a", Next: [][]impl.Term{vr(0), vr(0), vr(0)}}
		})
	}
	return changes
}

// withExpression returns changes of each kind of expression of the second summand of the counter.
func withExpression(list ...[]impl.Term) []changeOfLinear {
	var changes []changeOfLinear
	for _, e := range list {
		changes = append(changes,
			func(l *impl.Linear) { l.Summands[1].Guard = e },
			func(l *impl.Linear) { l.Summands[1].Arguments[0] = e },
			func(l *impl.Linear) { l.Summands[1].Arguments[1] = e },
			func(l *impl.Linear) { l.Summands[1].Next[0] = e },
			func(l *impl.Linear) { l.Summands[1].Next[2] = e })
	}
	return changes
}

func withAction(name string, arguments ...[]impl.Term) changeOfLinear {
	return func(l *impl.Linear) { l.Summands[1].Name, l.Summands[1].Arguments = name, arguments }
}

func withSummands(n int) changeOfLinear {
	return func(l *impl.Linear) { l.Summands = slices.Repeat(l.Summands[:1], n) }
}

// validLinears returns processes that reach the limits.
func validLinears() []impl.Linear {
	list := []impl.Linear{{}, {Parameters: 1, Start: []int64{63}}, {Parameters: 21, Start: repeated(21, 0)}, counter(), widest(), lin("linear 0: -", "sum - if 0 do tau then -")}
	list = append(list, changedLinears(counter(), withSums(nil, []int64{1}, []int64{7}, []int64{7, 7, 7, 7}, []int64{7, 1, 7, 7, 3}, repeated(6, 3), repeated(8, 1), []int64{1, 1, 1, 1, 1, 1, 1, 7}, []int64{6, 6, 6, 5})...)...)
	list = append(list, changedLinears(counter(), withExpression(vr(0), vr(4), num(63), nots(59, vr(4)), sumOf(30, vr(4)))...)...)
	return append(list, changedLinears(counter(), withSummands(0), withSummands(60), withAction("tau"), withAction("a"), withAction("taus", num(1)), withAction("a2345678z0", num(0), vr(4)),
		func(l *impl.Linear) { l.Start = []int64{0, 63, 0} })...)
}

// invalidLinears returns processes that break one rule each.
func invalidLinears() []impl.Linear {
	tooWide := widest()
	tooWide.Parameters, tooWide.Start = 22, repeated(22, 0)
	tooWide.Summands[0].Sums = repeated(7, 1)
	tooWide.Summands[0].Next = slices.Repeat([][]impl.Term{vr(0)}, 22)
	list := []impl.Linear{{Parameters: 22, Start: repeated(22, 0)}, tooWide, {Parameters: -1}, {Parameters: math.MinInt64}, {Parameters: math.MaxInt64}, {Parameters: 1}, {Start: []int64{0}}}
	for _, start := range [][]int64{nil, {0, 5}, {0, 5, 63, 0}, {0, 5, 64}, {-1, 5, 63}, {0, math.MinInt64, 63}, {0, math.MaxInt64, 63}} {
		list = append(list, changedLinears(counter(), func(l *impl.Linear) { l.Start = start })...)
	}
	// No product of numbers from 2 to 8 is 4097; the least one that is greater than 4096 is that of 7, 7, 7, 6 and 2.
	sums := [][]int64{{0}, {8}, {-1}, {7, 0}, {1, 8}, {math.MinInt64}, {math.MaxInt64}, repeated(9, 1), {6, 6, 6, 5, 1}, {7, 7, 7, 7, 1}, repeated(8, 7), repeated(1000, 1), append(repeated(8, 1), 0)}
	list = append(list, changedLinears(counter(), withSums(sums...)...)...)
	expressions := [][]impl.Term{nil, vr(5), vr(-1), num(64), nots(60, vr(0)), sumOf(30, vr(0))[:58], sumOf(31, vr(0)), op(impl.OpAdd, vr(0), nil), slices.Concat(vr(0), vr(0)), {{Kind: 4}}, vr(28), op(9, num(1), num(1))}
	list = append(list, changedLinears(counter(), withExpression(expressions...)...)...)
	list = append(list, changedLinears(counter(), withSummands(61), withSummands(1000),
		withAction("tau", num(1)), withAction("tau", num(1), num(1)), withAction("a", num(1), num(1), num(1)), withAction("a", slices.Repeat([][]impl.Term{num(1)}, 1000)...),
		func(l *impl.Linear) { l.Summands[1].Next = l.Summands[1].Next[:2] },
		func(l *impl.Linear) { l.Summands[1].Next = append(l.Summands[1].Next, num(0)) },
		func(l *impl.Linear) { l.Summands[1].Next = nil },
		func(l *impl.Linear) { l.Parameters = 2 },
		// The sum of the third summand is its variable 3, but that of the fourth one is not.
		func(l *impl.Linear) {
			l.Summands = append(l.Summands, copied(l.Summands[2]))
			l.Summands[3].Sums = nil
		})...)
	for _, name := range []string{"", "A", "1", "a b", "tau(0)", "a(0)", "abcdefghijk", " a", "é"} {
		list = append(list, changedLinears(counter(), withAction(name))...)
	}
	return list
}

func TestValidLinear(t *testing.T) {
	for _, l := range validLinears() {
		expect(t, impl.ValidLinear, in(l), true)
		if !isLinear(l) {
			t.Errorf("%+v should be valid", l)
		}
	}
	for _, l := range invalidLinears() {
		expect(t, impl.ValidLinear, in(l), false)
		if isLinear(l) {
			t.Errorf("%+v should not be valid", l)
		}
	}
}

func TestErrorsOfFunctionsOfLinears(t *testing.T) {
	for _, l := range invalidLinears() {
		for _, state := range [][]int64{l.Start, nil, {0}} {
			expect(t, impl.LinearMoves, in(l, state), nil, impl.ErrInvalid)
		}
		for _, f := range []any{impl.ConstantParameters, impl.NeededParameters, impl.FoldLinear, impl.UnrollSums} {
			expect(t, f, in(l), nil, impl.ErrInvalid)
		}
		expect(t, impl.RemoveConstants, in(l), nil, nil, impl.ErrInvalid)
		expect(t, impl.RemoveUnused, in(l), nil, nil, impl.ErrInvalid)
		expect(t, impl.LinearText, in(l), "")
	}
}

// expectLinearMoves checks the moves in a state.
func expectLinearMoves(t *testing.T, l impl.Linear, state []int64, texts ...string) {
	t.Helper()
	want := linearMovesFrom(texts...)
	expect(t, impl.LinearMoves, in(l, state), want, impl.OK)
	if defined := linearMovesOf(l, state); !same(defined, want) {
		t.Errorf("the moves in %v are defined as %+v, and expected as %+v", state, defined, want)
	}
}

func TestLinearMoves(t *testing.T) {
	expectLinearMoves(t, impl.Linear{}, nil)
	expectLinearMoves(t, lin("linear 0: -", "sum - if 1 do a then -", "sum - if 2 do tau then -", "sum - if 0 do b then -"), nil, "a -", "tau -")
	expectLinearMoves(t, lin("linear 1: 5", "sum - if v0 do a(v0) then v0+1", "sum - if !v0 do b(v0,63) then v0-1"), []int64{63}, "a(63) 0")
	expectLinearMoves(t, lin("linear 1: 5", "sum - if v0 do a(v0) then v0+1", "sum - if !v0 do b(v0,63) then v0-1"), []int64{0}, "b(0,63) 63")
	// The first sum counts slowest, and the summands stay in order whatever their labels are.
	expectLinearMoves(t, lin("linear 2: 9,8", "sum 1,2 if 1 do b(v2,v3) then v0;v1", "sum 1 if 1 do a(v2) then v1;v0+v2"), []int64{1, 2},
		"b(0,0) 1,2", "b(0,1) 1,2", "b(0,2) 1,2", "b(1,0) 1,2", "b(1,1) 1,2", "b(1,2) 1,2", "a(0) 2,1", "a(1) 2,2")
	expectLinearMoves(t, counter(), []int64{0, 5, 63}, "a 1,5,63",
		"b(1,5) 0,5,63", "b(2,5) 0,5,63", "b(3,5) 0,5,63", "b(4,5) 0,5,63", "b(5,5) 0,5,63", "b(6,5) 0,5,63", "b(7,5) 0,5,63",
		"b(2,5) 0,6,63", "b(3,5) 0,6,63", "b(4,5) 0,6,63", "b(5,5) 0,6,63", "b(6,5) 0,6,63", "b(7,5) 0,6,63",
		"tau 0,0,0", "tau 0,0,1", "tau 0,0,2", "tau 0,0,3")
	expectLinearMoves(t, lin("linear 1: 0", "sum 7 if v1*v1=v1+v0 do a(v1) then v1"), []int64{2}, "a(2) 2")
	expectLinearMoves(t, lin("linear 1: 0", "sum 7 if v1 do tau then v1", "sum 2 if v0=3 do a then v1", "sum 2 if v0=4 do b then v1"), []int64{4},
		"tau 1", "tau 2", "tau 3", "tau 4", "tau 5", "tau 6", "tau 7", "b 0", "b 1", "b 2")
	expectLinearMoves(t, lin("linear 1: 0", "sum 2 if v0=3 do a then v1", "sum 3,1 if v1=1&v2<v0 do b(v2) then v1"), []int64{3}, "a 0", "a 1", "a 2", "b(0) 1", "b(1) 1")
	results := call(t, impl.LinearMoves, widest(), repeated(21, 1))
	if moves := results[0].([]impl.LinearMove); len(moves) != 128 || moves[0].Label != "a(1,1)" || moves[1].Next[0] != 1 || moves[1].Next[1] != 1 || moves[1].Next[2] != 0 {
		t.Error(moves)
	}
}

func TestLinearMovesOfEqualMoves(t *testing.T) {
	// Of different summands, with another one between them.
	expectLinearMoves(t, lin("linear 1: 0", "sum - if 1 do a then v0", "sum - if 1 do b then v0", "sum - if 2 do a then v0+0"), []int64{1}, "a 1", "b 1")
	// Of different values of a sum, of two sums, and of a sum in another summand.
	expectLinearMoves(t, lin("linear 1: 0", "sum 3 if 1 do a then v0"), []int64{1}, "a 1")
	expectLinearMoves(t, lin("linear 1: 0", "sum 1,1 if 1 do a(v1+v2) then v1*v2", "sum 2 if 1 do a(v1) then 0"), []int64{1}, "a(0) 0", "a(1) 0", "a(2) 1", "a(2) 0")
	// Equal labels with different states, equal states with different labels, and what only looks alike.
	expectLinearMoves(t, lin("linear 2: 0,0", "sum - if 1 do a then 1;2", "sum - if 1 do a then 2;1", "sum - if 1 do a then 1;2"), []int64{0, 0}, "a 1,2", "a 2,1")
	expectLinearMoves(t, lin("linear 1: 0", "sum - if 1 do a then 1", "sum - if 1 do a(0) then 1", "sum - if 1 do a(0,0) then 1", "sum - if 1 do tau then 1", "sum - if 1 do a(1) then 1"),
		[]int64{0}, "a 1", "a(0) 1", "a(0,0) 1", "tau 1", "a(1) 1")
	// The last parameter of many counts too.
	l := lin("linear 21: " + strings.Repeat("0,", 20) + "0")
	for k := range int64(3) {
		s := impl.Summand{Guard: num(1), Name: "a", Next: slices.Repeat([][]impl.Term{num(0)}, 21)}
		s.Next[20] = num(k % 2)
		l.Summands = append(l.Summands, s)
	}
	expectLinearMoves(t, l, l.Start, "a "+strings.Repeat("0,", 20)+"0", "a "+strings.Repeat("0,", 20)+"1")
}

// TestLinearMovesHaveNoLimit makes more moves than a component may have steps.
func TestLinearMovesHaveNoLimit(t *testing.T) {
	l := lin("linear 2: 0,0", "sum 7,7,7,7 if 1 do a(v2+8*v3) then v4+8*v5;v0", "sum 7,7,7,7 if 1 do a(v2+8*v3,v0) then v4+8*v5;v0")
	moves, code := impl.LinearMoves(l, []int64{1, 2})
	if len(moves) != 8192 || code != impl.OK || !same(moves, linearMovesOf(l, []int64{1, 2})) {
		t.Error(len(moves), code)
	}
}

func TestLinearMovesErrors(t *testing.T) {
	for _, state := range [][]int64{nil, {0}, {0, 5}, {0, 5, 63, 0}, {0, 5, 64}, {-1, 5, 63}, {0, math.MaxInt64, 0}, {0, 0, math.MinInt64}, repeated(1000, 0)} {
		expect(t, impl.LinearMoves, in(counter(), state), nil, impl.ErrRange)
	}
	expect(t, impl.LinearMoves, in(impl.Linear{}, []int64{0}), nil, impl.ErrRange)
	expect(t, impl.LinearMoves, in(impl.Linear{}, []int64{}), nil, impl.OK)
}

func TestLinearTexts(t *testing.T) {
	for _, text := range []string{
		"linear 0: -", "linear 1: 63", "linear 3: 0,5,63", "linear 0: -\nsum - if 0 do tau then -", "linear 0: -\nsum 1,7 if v0<=v1 do a(v1) then -",
		"linear 1: 0\nsum - if v0=1&(v0=2&v0=3) do a(v0) then v0", "linear 1: 0\nsum 1 if !(v0+v1) do b(v0*(v0+v1),(v0+1)*v1) then v0-(v0-v1)",
		"linear 2: 0,0\nsum 1 if v0=0 do a(v2) then 0;v2\nsum - if 1 do tau then v0;v1\nsum 7,7,7,7 if v5 do b(v2,v3) then v4+v5;v1",
		"linear 2: 0,0\nsum - if 1 do a then v0;v1\nsum - if 1 do a then v0;v1",
	} {
		l := lin(text)
		expect(t, impl.LinearText, in(l), text)
		expect(t, impl.ReadLinear, in(text), l, true)
	}
	for _, l := range validLinears() {
		expect(t, impl.LinearText, in(l), exactText(l))
		expect(t, impl.ReadLinear, in(exactText(l)), l, true)
	}
}

// TestReadLinearRefuses takes texts that are no text of a process although they come close.
func TestReadLinearRefuses(t *testing.T) {
	good := "linear 2: 0,5\nsum 1,7 if v0=0 do a(v2,v1) then 0;v2\nsum - if 1 do tau then v0;v1"
	expect(t, impl.ReadLinear, in(good), lin(good), true)
	for _, change := range [][2]string{
		{"linear 2", "linear 02"}, {"linear 2", "linear +2"}, {"linear 2", "linear  2"}, {"linear 2", "Linear 2"}, {"linear 2", " linear 2"}, {"linear 2", "linear2"}, {"linear 2", "linear "},
		{"linear 2", "linear 1"}, {"linear 2", "linear 3"}, {"linear 2", "linear -2"}, {"linear 2:", "linear 2 :"}, {"2: ", "2:"}, {": 0,5", ":  0,5"}, {"0,5", "0, 5"}, {"0,5", "0,05"},
		{"0,5", "0,5,"}, {"0,5", ",5"}, {"0,5", "-"}, {"0,5", "0"}, {"0,5", "0,64"}, {"0,5", "0,-5"}, {"0,5", "0 5"}, {"0,5\n", "0,5 \n"}, {"0,5\n", "0,5"}, {"0,5\n", "0,5\r\n"}, {"0,5\n", "0,5\n\n"},
		{"sum 1", " sum 1"}, {"sum 1", "sum  1"}, {"sum 1", "Sum 1"}, {"sum 1", "sum1"}, {"sum 1", "1"}, {"1,7", "1,8"}, {"1,7", "0,7"}, {"1,7", "7,1,"}, {"1,7", "1, 7"}, {"1,7", "01,7"}, {"1,7", "-"}, {"1,7", ""},
		{" if v", " if  v"}, {" if v", " if ( v"}, {"v0=0", "v0 = 0"}, {"v0=0", "(v0=0)"}, {"v0=0", "v0=00"}, {"v0=0", "v0=64"}, {"v0=0", "v00=0"}, {"v0=0", "v4=0"}, {"v0=0", "v0="}, {"v0=0", ""}, {"v0=0", "v0=0)"},
		{" do a", " do  a"}, {" do a", " do "}, {" do a", " do A"}, {" do a", " do tau"}, {" do a", " do (a)"}, {"a(v2,v1)", "a ()"}, {"a(v2,v1)", "a()"}, {"a(v2,v1)", "a( v2,v1)"}, {"a(v2,v1)", "a(v2, v1)"},
		{"a(v2,v1)", "a(v2,v1"}, {"a(v2,v1)", "a(v2,v1))"}, {"a(v2,v1)", "a((v2,v1)"}, {"a(v2,v1)", "a(v2,)"}, {"a(v2,v1)", "a(,v1)"}, {"a(v2,v1)", "a(v2,v1,v1)"}, {"a(v2,v1)", "a(v2;v1)"}, {"a(v2,v1)", "a(v2,(v1))"}, {"a(v2,v1)", "a v2,v1)"},
		{" then 0", " then  0"}, {" then 0", " then -0"}, {" then 0", "then 0"}, {" then 0", " "}, {"0;v2", "0; v2"}, {"0;v2", "0,v2"}, {"0;v2", "0;v2;"}, {"0;v2", ";v2"}, {"0;v2", "0"}, {"0;v2", "0;v2;v2"}, {"0;v2", "-"}, {"0;v2", ""}, {"0;v2", "0;v4"}, {"0;v2", "0;(v2)"}, {"0;v2", "0;v2-0 "},
		{"sum -", "sum "}, {"sum -", "sum --"}, {"sum -", "sum 0"}, {"do tau", "do tau()"}, {"do tau", "do tau(1)"}, {"v0;v1", "v0;v1\n"}, {"v0;v1", "v0;v1 "}, {"v0;v1", "v0;v2"}, {"v0;v1", "v0;v1\x00"}, {"v0;v1", "v0;v1;" + strings.Repeat("0;", 40)},
	} {
		text := strings.Replace(good, change[0], change[1], 1)
		if text == good {
			t.Errorf("%q is not changed by %q", good, change)
		}
		expect(t, impl.ReadLinear, in(text), nil, false)
	}
	for _, text := range []string{"", "\n", "-", "linear", "linear ", "linear 0", "linear 0:", "linear 0: ", "linear 0: 0", "linear 1: -", "\nlinear 0: -", "linear 0: -\n", "linear 0: - ", "linear 22: " + strings.Repeat("0,", 21) + "0",
		"linear 0: -\nsum - if 1 do a then ", "linear 0: -\nsum - if 1 do a then 0", "linear 0: -\nsum - if 1 do a then --", "linear 0: -\nsum 7,7,7,7,1 if 1 do a then -", "sum - if 1 do a then -", "linear -1: -", "linear 9999999999999999999: -",
		"linear 0: -" + strings.Repeat("\nsum - if 1 do a then -", 61)} {
		expect(t, impl.ReadLinear, in(text), nil, false)
	}
	many := "linear 0: -" + strings.Repeat("\nsum - if 1 do a then -", 60)
	expect(t, impl.ReadLinear, in(many), lin(many), true)
}

// TestLongestLinearTexts reads a text with as much as there may be of everything.
func TestLongestLinearTexts(t *testing.T) {
	long := vr(28)
	for range 29 {
		long = op(impl.OpAtMost, vr(28), long)
	}
	long = not(long)
	s := impl.Summand{Sums: repeated(8, 1), Guard: long, Name: "a2345678z0", Arguments: [][]impl.Term{long, long}, Next: slices.Repeat([][]impl.Term{long}, 21)}
	l := impl.Linear{Parameters: 21, Start: repeated(21, 63), Summands: slices.Repeat([]impl.Summand{s}, 60)}
	text := exactText(l)
	if len(long) != 60 || len(text) < 60*24*200 {
		t.Error(len(long), len(text))
	}
	expect(t, impl.LinearText, in(l), text)
	expect(t, impl.ReadLinear, in(text), l, true)
	expect(t, impl.ReadLinear, in(text+"\n"+strings.Split(text, "\n")[1]), nil, false)
	expect(t, impl.ReadLinear, in(text+";v0"), nil, false)
}
