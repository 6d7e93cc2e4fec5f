package tests

import (
	"slices"
	"strings"
	"testing"

	"loop.example/g01075/impl"
)

// expectConstants checks which parameters are constant, and that RemoveConstants leaves the other ones.
func expectConstants(t *testing.T, l impl.Linear, want ...int64) {
	t.Helper()
	left := slices.DeleteFunc(counted(int(l.Parameters)), func(k int64) bool { return slices.Contains(want, k) })
	expect(t, impl.ConstantParameters, in(l), want, impl.OK)
	expect(t, impl.RemoveConstants, in(l), withParameters(l, left), left, impl.OK)
	if defined := constantsOf(l); !same(defined, want) {
		t.Errorf("the constants of %q are defined as %v, and expected as %v", exactText(l), defined, want)
	}
}

func TestConstantParameters(t *testing.T) {
	expectConstants(t, impl.Linear{})
	expectConstants(t, lin("linear 0: -", "sum - if 1 do a then -"))
	expectConstants(t, lin("linear 3: 1,2,3"), 0, 1, 2)
	// Variables, numbers and what is folded to numbers, also around Modulus.
	expectConstants(t, lin("linear 5: 4,5,0,6,63", "sum - if 1 do a then v0;5;63+1;3*2;0-1"), 0, 1, 2, 3, 4)
	expectConstants(t, lin("linear 5: 4,5,0,6,63", "sum - if 1 do a then 5;4;v2+1;v3+v2;!v4+63"), 4)
	// What folding does not see: it takes each operation by itself, and asks for numbers only.
	expectConstants(t, lin("linear 2: 0,7", "sum - if 1 do a then v1*0;v1+1"))
	expectConstants(t, lin("linear 2: 0,7", "sum - if 1 do a then v1*0;v1"), 0, 1)
	expectConstants(t, lin("linear 2: 0,1", "sum - if 1 do a then v1-v1;1-v1"))
	// In every summand, whatever its guard is, which makes no difference either where it names the parameter.
	expectConstants(t, lin("linear 2: 4,5", "sum - if 1 do a then v0;v1", "sum - if 0 do a then 4;6", "sum - if 1 do b then v0;5"), 0)
	expectConstants(t, lin("linear 2: 4,5", "sum - if v1=6 do a(v0) then v0;6"), 0)
	expectConstants(t, lin("linear 2: 4,5", "sum - if 1 do a then v0;v1", "sum - if 1 do a then v1;v1"), 1)
	// Sums are no numbers.
	expectConstants(t, lin("linear 2: 0,1", "sum 1 if 1 do a(v2) then v2;v1"), 1)
	expectConstants(t, lin("linear 2: 0,1", "sum 1 if 1 do a then v2*0;v2-v2+v1"))
	expectConstants(t, lin("linear 1: 0", "sum 1,7 if 1 do a then v2", "sum - if 1 do a then v0"))
}

func TestConstantParametersThatHoldTogether(t *testing.T) {
	expectConstants(t, lin("linear 2: 1,2", "sum - if 1 do a then v1-1;v0+1"), 0, 1)
	expectConstants(t, lin("linear 2: 1,2", "sum - if 1 do a then v1;v0"))
	expectConstants(t, lin("linear 2: 3,3", "sum - if 1 do a then v1;v0"), 0, 1)
	expectConstants(t, lin("linear 3: 3,3,3", "sum - if 1 do a then v1;v2;v0", "sum - if 1 do b then v2;v2;v2"), 0, 1, 2)
	// One falls in the second summand, and the others fall with it, one after the other and against their order.
	expectConstants(t, lin("linear 5: 1,1,1,1,9", "sum - if 1 do a then v1;v2;v3;v3;v4", "sum - if 1 do b then v0;v1;v2;2;9"), 4)
	expectConstants(t, lin("linear 5: 1,1,1,1,9", "sum - if 1 do a then v0;v0;v1;v2;v4", "sum - if 1 do b then 2;v1;v2;v3;9"), 4)
	// Those that do not depend on it stay.
	expectConstants(t, lin("linear 6: 0,1,2,3,4,5", "sum - if 1 do a then v1-1;v0+1;v3-1;v2+1;v4+v0;v5*v4"), 0, 1, 2, 3, 4)
	expectConstants(t, lin("linear 6: 0,1,2,3,4,5", "sum - if 1 do a then v1-1;v0+1;v3-1;v2+1+v5;v4+v0;v5+1"), 0, 1, 4)
}

func TestRemoveConstants(t *testing.T) {
	// Variables of parameters and of sums get other numbers in guards, arguments and Next, and nothing is folded.
	l := lin("linear 4: 7,0,9,1", "sum 1,2 if v0+v1<v4 do a(v2+v3,v5) then v0;v4;9;v5", "sum - if v3 do tau then 7;v3;v2;v1", "sum 7 if v4 do b(v4) then v0+0;v0;v2;v4*v2")
	expect(t, impl.RemoveConstants, in(l), lin("linear 2: 0,1", "sum 1,2 if 7+v0<v2 do a(9+v1,v3) then v2;v3", "sum - if v1 do tau then v1;v0", "sum 7 if v2 do b(v2) then 7;v2*9"), []int64{1, 3}, impl.OK)
	expect(t, impl.RemoveConstants, in(lin("linear 2: 1,63", "sum 1 if v0<v2 do a(v0+v1) then v0;v1")), lin("linear 0: -", "sum 1 if 1<v0 do a(1+63) then -"), nil, impl.OK)
	none := lin("linear 2: 1,63", "sum 1 if v0<v2 do a(v0+v1) then v1;v0")
	expect(t, impl.RemoveConstants, in(none), none, []int64{0, 1}, impl.OK)
	expect(t, impl.RemoveConstants, in(impl.Linear{}), impl.Linear{}, nil, impl.OK)
	expect(t, impl.RemoveConstants, in(lin("linear 3: 1,2,3")), lin("linear 0: -"), nil, impl.OK)
	// The last variables that there may be: the parameters 8 to 20 exchange equal values, and the others become sums.
	want := withParameters(widest(), counted(8))
	if !same(want.Summands[0].Arguments, [][]impl.Term{vr(15), num(63)}) {
		t.Error(want)
	}
	expect(t, impl.RemoveConstants, in(widest()), want, counted(8), impl.OK)
}

// expectNeeded checks which parameters are needed, and that RemoveUnused leaves these.
func expectNeeded(t *testing.T, l impl.Linear, want ...int64) {
	t.Helper()
	expect(t, impl.NeededParameters, in(l), want, impl.OK)
	expect(t, impl.RemoveUnused, in(l), withParameters(l, want), want, impl.OK)
	if defined := neededOf(l); !same(defined, want) {
		t.Errorf("the needed parameters of %q are defined as %v, and expected as %v", exactText(l), defined, want)
	}
}

func TestNeededParameters(t *testing.T) {
	expectNeeded(t, impl.Linear{})
	expectNeeded(t, lin("linear 3: 1,2,3"))
	expectNeeded(t, lin("linear 3: 1,2,3", "sum - if 1 do a then v1;v2;v0"))
	// In a guard, in the first and in the second argument, in any summand, and also where they make no difference.
	expectNeeded(t, lin("linear 4: 1,2,3,4", "sum - if v3 do a then 0;0;0;0", "sum - if 1 do a(0,v1) then 0;0;0;0"), 1, 3)
	expectNeeded(t, lin("linear 4: 1,2,3,4", "sum - if 1 do a(v2) then 0;0;0;0", "sum - if 1 do a(v0*0,1) then 0;0;0;0"), 0, 2)
	expectNeeded(t, lin("linear 2: 1,2", "sum - if 0 do a(v1) then v0;v1"), 1)
	// Only by way of others: of one, of several in a row in different summands, and around a circle.
	expectNeeded(t, lin("linear 3: 1,2,3", "sum - if v2 do a then v0;v1;v0"), 0, 2)
	expectNeeded(t, lin("linear 5: 1,2,3,4,5", "sum - if v3 do a then v0;v1;v2;v1;v4", "sum - if 1 do b then v4;v0;v2;v3;v4"), 0, 1, 3, 4)
	expectNeeded(t, lin("linear 5: 1,2,3,4,5", "sum - if v0 do a then v4;v0;v1;v2;v3"), 0, 1, 2, 3, 4)
	expectNeeded(t, lin("linear 4: 1,2,3,4", "sum - if v0 do a then v1;v0;v3;v2"), 0, 1)
	expectNeeded(t, lin("linear 4: 1,2,3,4", "sum - if 1 do a(v1) then v1;v2+v3;v2;v3"), 1, 2, 3)
	// Sums are no parameters.
	expectNeeded(t, lin("linear 2: 1,2", "sum 7,7 if v2<v3 do a(v2,v3) then v2;v3"))
	expectNeeded(t, lin("linear 2: 1,2", "sum 7,7 if v2<v3 do a(v2,v1) then v2;v3"), 1)
}

func TestRemoveUnused(t *testing.T) {
	l := lin("linear 4: 1,2,3,4", "sum 1,7 if v1=v4 do a(v4,v5) then v3;v2+v5;0;v1", "sum - if 1 do tau then v0;v1;v1*v2;v3")
	expect(t, impl.RemoveUnused, in(l), lin("linear 2: 2,3", "sum 1,7 if v0=v2 do a(v2,v3) then v1+v3;0", "sum - if 1 do tau then v0;v0*v1"), []int64{1, 2}, impl.OK)
	expect(t, impl.RemoveUnused, in(lin("linear 2: 1,63", "sum 1 if v2 do a(v2) then v0;v1")), lin("linear 0: -", "sum 1 if v0 do a(v0) then -"), nil, impl.OK)
	all := lin("linear 2: 1,63", "sum 1 if v0<v2 do a(v1) then v0+1;v1")
	expect(t, impl.RemoveUnused, in(all), all, []int64{0, 1}, impl.OK)
	expect(t, impl.RemoveUnused, in(impl.Linear{}), impl.Linear{}, nil, impl.OK)
}

func TestFoldLinear(t *testing.T) {
	l := lin("linear 2: 1,2", "sum 1,3 if 1+1 do a(2*3,v0+(1-2)) then v0+1+1;1+1+v0", "sum - if 0 do a then v0;v1", "sum - if 1-1 do a then v0;v1",
		"sum - if v0*0 do b then !0;!v0", "sum 7 if 1=2|0 do b then v0;v1", "sum - if 63+1 do b then v0;v1", "sum - if !0 do tau then v1;4<=4", "sum - if 5 do c(63) then v0;v1")
	expect(t, impl.FoldLinear, in(l), lin("linear 2: 1,2", "sum 1,3 if 2 do a(6,v0+63) then v0+1+1;2+v0", "sum - if v0*0 do b then 1;!v0", "sum - if 1 do tau then v1;1", "sum - if 5 do c(63) then v0;v1"), impl.OK)
	expect(t, impl.FoldLinear, in(lin("linear 1: 5", "sum 7 if 0&v0=v0|0 do a then v0")), lin("linear 1: 5", "sum 7 if 0&v0=v0|0 do a then v0"), impl.OK)
	expect(t, impl.FoldLinear, in(lin("linear 1: 5", "sum 7 if 3=4 do a(v1) then v1", "sum - if !1 do a then 1")), lin("linear 1: 5"), impl.OK)
	expect(t, impl.FoldLinear, in(impl.Linear{}), impl.Linear{}, impl.OK)
	// Start is not looked at: a guard that is 0 only there, or because of a constant parameter, stays.
	expect(t, impl.FoldLinear, in(lin("linear 1: 0", "sum - if v0 do a then v0")), lin("linear 1: 0", "sum - if v0 do a then v0"), impl.OK)
}

func TestUnrollSums(t *testing.T) {
	l := lin("linear 2: 1,2", "sum - if v0 do a(v1) then v1;v0", "sum 1,2 if v2<v3 do b(v3,v0) then v2+v0;v3-v2", "sum 1 if v2 do tau then v0;v2", "sum - if 0 do c then 0;0")
	expect(t, impl.UnrollSums, in(l), lin("linear 2: 1,2", "sum - if v0 do a(v1) then v1;v0",
		"sum - if 0<0 do b(0,v0) then 0+v0;0-0", "sum - if 0<1 do b(1,v0) then 0+v0;1-0", "sum - if 0<2 do b(2,v0) then 0+v0;2-0",
		"sum - if 1<0 do b(0,v0) then 1+v0;0-1", "sum - if 1<1 do b(1,v0) then 1+v0;1-1", "sum - if 1<2 do b(2,v0) then 1+v0;2-1",
		"sum - if 0 do tau then v0;0", "sum - if 1 do tau then v0;1", "sum - if 0 do c then 0;0"), impl.OK)
	expect(t, impl.UnrollSums, in(impl.Linear{}), impl.Linear{}, impl.OK)
	// Equal summands stay, one for each list of values.
	expect(t, impl.UnrollSums, in(lin("linear 1: 0", "sum 2 if 1 do a then v0")), lin("linear 1: 0", "sum - if 1 do a then v0", "sum - if 1 do a then v0", "sum - if 1 do a then v0"), impl.OK)
}

func TestUnrollSumsLimit(t *testing.T) {
	for _, c := range []struct {
		summands, sums string
		n              int
		full           bool
	}{
		{"sum - if 1 do a then v0", "", 60, false},
		{"sum - if 1 do a then v0", "sum 1 if 1 do a then v1", 58, false},
		{"sum - if 1 do a then v0", "sum 1 if 1 do a then v1", 59, true},
		{"sum 4,3,2 if 1 do a then v1+v2*v3", "", 1, false},
		{"sum 4,3,2 if 1 do a then v1+v2*v3", "sum - if 1 do a then v0", 1, true},
		{"sum 1 if 1 do a then v1", "", 30, false},
		{"sum 1 if 1 do a then v1", "sum - if 1 do a then v0", 30, true},
		{"sum 1 if 1 do a then v1", "", 31, true},
		{"sum 6,7 if 1 do a then v1", "sum 3 if 0 do a then v1", 1, false},
		{"sum 6,7 if 1 do a then v1", "sum 4 if 0 do a then v1", 1, true},
		{"sum 7,7,7,7 if 0 do a then v1", "", 60, true},
	} {
		l := lin("linear 1: 0" + strings.Repeat("\n"+c.summands, c.n))
		if c.sums != "" {
			s, _ := readSummandLine(c.sums)
			l.Summands = append(l.Summands, s)
		}
		want, code := unrolledLinear(l)
		if c.full != (code != impl.OK) {
			t.Errorf("%+v is defined with code %d", c, code)
		}
		expect(t, impl.UnrollSums, in(l), want, code)
	}
}
