package tests

import (
	"slices"
	"strings"
	"testing"

	"loop.example/g01075/impl"
)

// expectInterleaved checks a composition without meetings, which is also that with meetings of other names.
func expectInterleaved(t *testing.T, a, b impl.Linear, lines ...string) {
	t.Helper()
	want := lin(lines...)
	expect(t, impl.InterleaveLinear, in(a, b), want, impl.OK)
	expect(t, impl.MeetLinear, in(a, b, nil), want, impl.OK)
	expect(t, impl.MeetLinear, in(a, b, meetings("x y z")), want, impl.OK)
	if defined, code := composed(a, b, nil); code != impl.OK || !same(defined, want) {
		t.Errorf("%q: defined as %q, code %d", lines, exactText(defined), code)
	}
}

func TestInterleaveLinear(t *testing.T) {
	// Variables of parameters and of sums in Guard, Arguments and Next, on either side.
	a := lin("linear 2: 5,6", "sum 1,7 if v0<v2+v3 do put(v2,v1) then v3;v0", "sum - if v1 do tau then v1;v0-v1")
	b := lin("linear 3: 7,8,9", "sum 2 if v3*v2 do get(v0,v3) then v1;v3;v2-v0", "sum - if 1 do get then 0;v2;v2")
	expectInterleaved(t, a, b, "linear 5: 5,6,7,8,9",
		"sum 1,7 if v0<v5+v6 do put(v5,v1) then v6;v0;v2;v3;v4", "sum - if v1 do tau then v1;v0-v1;v2;v3;v4",
		"sum 2 if v5*v4 do get(v2,v5) then v0;v1;v3;v5;v4-v2", "sum - if 1 do get then v0;v1;0;v4;v4")
	expectInterleaved(t, b, a, "linear 5: 7,8,9,5,6",
		"sum 2 if v5*v2 do get(v0,v5) then v1;v5;v2-v0;v3;v4", "sum - if 1 do get then 0;v2;v2;v3;v4",
		"sum 1,7 if v3<v5+v6 do put(v5,v4) then v0;v1;v2;v6;v3", "sum - if v4 do tau then v0;v1;v2;v4;v3-v4")
	// A process with itself, where nothing meets and equal summands stay.
	expectInterleaved(t, lin("linear 1: 5", "sum 3 if v1 do a(v1) then v0"), lin("linear 1: 5", "sum 3 if v1 do a(v1) then v0"),
		"linear 2: 5,5", "sum 3 if v2 do a(v2) then v0;v1", "sum 3 if v2 do a(v2) then v0;v1")
}

func TestInterleaveLinearWithLess(t *testing.T) {
	a := lin("linear 2: 5,6", "sum 1,7 if v0<v2+v3 do put(v2,v1) then v3;v0")
	// Without parameters and summands, the empty process changes nothing.
	expectInterleaved(t, impl.Linear{}, impl.Linear{}, "linear 0: -")
	expectInterleaved(t, a, impl.Linear{}, strings.Split(exactText(a), "\n")...)
	expectInterleaved(t, impl.Linear{}, a, strings.Split(exactText(a), "\n")...)
	// Without parameters, but with summands that have sums or none.
	none := lin("linear 0: -", "sum 3 if v0 do b(v0) then -", "sum - if 1 do c then -")
	expectInterleaved(t, a, none, "linear 2: 5,6", "sum 1,7 if v0<v2+v3 do put(v2,v1) then v3;v0", "sum 3 if v2 do b(v2) then v0;v1", "sum - if 1 do c then v0;v1")
	expectInterleaved(t, none, a, "linear 2: 5,6", "sum 3 if v2 do b(v2) then v0;v1", "sum - if 1 do c then v0;v1", "sum 1,7 if v0<v2+v3 do put(v2,v1) then v3;v0")
	expectInterleaved(t, none, none, "linear 0: -", "sum 3 if v0 do b(v0) then -", "sum - if 1 do c then -", "sum 3 if v0 do b(v0) then -", "sum - if 1 do c then -")
	// Without summands, but with parameters.
	still := lin("linear 1: 63")
	expectInterleaved(t, a, still, "linear 3: 5,6,63", "sum 1,7 if v0<v3+v4 do put(v3,v1) then v4;v0;v2")
	expectInterleaved(t, still, a, "linear 3: 63,5,6", "sum 1,7 if v1<v3+v4 do put(v3,v2) then v0;v4;v1")
	expectInterleaved(t, still, still, "linear 2: 63,63")
}

// expectMet checks the summands that a composition has behind those of one process alone.
func expectMet(t *testing.T, a, b impl.Linear, list []impl.Meeting, lines ...string) {
	t.Helper()
	want, _ := composed(a, b, nil)
	for _, line := range lines {
		s, ok := readSummandLine(line)
		if !ok {
			t.Fatalf("%q is no line of a summand", line)
		}
		want.Summands = append(want.Summands, s)
	}
	expect(t, impl.MeetLinear, in(a, b, list), want, impl.OK)
	if defined, code := composed(a, b, list); code != impl.OK || !same(defined, want) {
		t.Errorf("%q: defined as %q, code %d", lines, exactText(defined), code)
	}
}

func TestMeetLinear(t *testing.T) {
	list := meetings("get put move")
	// No argument, one, and two, with sums on both sides, on one side and on none.
	expectMet(t, lin("linear 1: 5", "sum - if v0<2 do put then v0+1"), lin("linear 1: 6", "sum - if v0=3 do get then 0"), list,
		"sum - if v0<2&v1=3 do move then v0+1;0")
	expectMet(t, lin("linear 1: 5", "sum 1 if v1 do put(v1) then v1"), lin("linear 1: 6", "sum 2,3 if v0<v2 do get(v1) then v2"), list,
		"sum 1,2,3 if v2&(v1<v4&v2=v3) do move(v2) then v2;v4")
	expectMet(t, lin("linear 2: 5,6", "sum 7 if v0 do put(v1,v2) then v1;v2"), lin("linear 1: 7", "sum - if v0 do get(v0+1,2) then v0-1"), list,
		"sum 7 if v0&(v2&(v1=v2+1&v3=2)) do move(v1,v3) then v1;v3;v2-1")
	expectMet(t, lin("linear 2: 5,6", "sum - if v0 do put(v1,v0) then v1;0"), lin("linear 2: 7,8", "sum 1,4 if v2<v3 do get(v1,v2+v3) then v3;v0"), list,
		"sum 1,4 if v0&(v4<v5&(v1=v3&v0=v4+v5)) do move(v1,v0) then v1;0;v5;v2")
	// Without parameters, all variables are sums.
	expectMet(t, lin("linear 0: -", "sum 3 if v0 do put(v0) then -"), lin("linear 0: -", "sum 1,2 if v0+v1 do get(v1) then -"), list,
		"sum 3,1,2 if v0&(v1+v2&v0=v2) do move(v0) then -")
	expectMet(t, lin("linear 0: -", "sum 3 if v0 do put(v0) then -"), lin("linear 2: 1,2", "sum 1 if v2 do get(v1) then v2;v0"), list,
		"sum 3,1 if v2&(v3&v2=v1) do move(v2) then v3;v0")
	expectMet(t, lin("linear 2: 1,2", "sum 1 if v2 do put(v1) then v2;v0"), lin("linear 0: -", "sum 3 if v0 do get(v0) then -"), list,
		"sum 1,3 if v2&(v3&v1=v3) do move(v1) then v2;v0")
}

// TestMeetLinearKeepsOrder meets each summand of the first process with each one of the second.
func TestMeetLinearKeepsOrder(t *testing.T) {
	a := lin("linear 1: 0", "sum - if 1 do a then 1", "sum - if 2 do tau then 2", "sum 1 if v1 do b(v1) then v1", "sum - if 3 do a then 3")
	b := lin("linear 1: 0", "sum - if 4 do a then 4", "sum - if 5 do c then 5", "sum 2 if v1 do b(v1) then v1", "sum - if 6 do tau then 6", "sum - if 7 do a(v0) then 7")
	expectMet(t, a, b, meetings("a a x", "a c y", "b b x"),
		"sum - if 1&4 do x then 1;4", "sum - if 1&5 do y then 1;5", "sum 1,2 if v2&(v3&v2=v3) do x(v2) then v2;v3", "sum - if 3&4 do x then 3;4", "sum - if 3&5 do y then 3;5")
	// In a meeting, either name may be that of the first summand.
	expectMet(t, b, a, meetings("a a x", "a c y"), "sum - if 4&1 do x then 4;1", "sum - if 4&3 do x then 4;3", "sum - if 5&1 do y then 5;1", "sum - if 5&3 do y then 5;3")
	expectMet(t, a, b, meetings("a b x"), "sum 1 if v2&(7&v2=v1) do x(v2) then v2;7")
	expectMet(t, a, b, meetings("a d x", "c c y", "d d x"))
}

func TestMeetLinearOfOtherNames(t *testing.T) {
	one := func(action string) impl.Linear { return lin("linear 0: -", "sum 1 if 1 do "+action+" then -") }
	// The numbers of arguments must be equal, and then the arguments of the first summand are those of the meeting.
	for _, x := range []string{"a", "a(v0)", "a(1,v0)"} {
		for _, y := range []string{"b", "b(v0)", "b(v0,2)"} {
			if strings.Count(x, ",") != strings.Count(y, ",") || strings.Contains(x, "(") != strings.Contains(y, "(") {
				expectMet(t, one(x), one(y), meetings("a b c"))
			}
		}
	}
	expectMet(t, one("a"), one("b"), meetings("a b c"), "sum 1,1 if 1&1 do c then -")
	expectMet(t, one("a(v0)"), one("b(v0)"), meetings("a b c"), "sum 1,1 if 1&(1&v0=v1) do c(v0) then -")
	expectMet(t, one("b(1,v0)"), one("a(v0,2)"), meetings("a b c"), "sum 1,1 if 1&(1&(1=v1&v0=2)) do c(1,v0) then -")
	// Names that have no meeting: with itself, of another pair, that begin alike, and tau.
	for _, pair := range [][2]string{{"a", "a"}, {"b", "b"}, {"a", "c"}, {"c", "c"}, {"b", "c"}, {"a", "ab"}, {"ab", "b"}, {"tau", "tau"}, {"a", "tau"}, {"tau", "b"}} {
		expectMet(t, one(pair[0]), one(pair[1]), meetings("a b c"))
	}
	expectMet(t, one("a"), one("a"), meetings("a a c"), "sum 1,1 if 1&1 do c then -")
	expectMet(t, one("a"), one("b"), meetings("a a c", "b b c"))
	// The Result may be the same for several meetings, and a name of summands that are there.
	expectMet(t, one("a"), one("b"), meetings("a b d", "a c d", "b c d"), "sum 1,1 if 1&1 do d then -")
}

func TestCompositionErrors(t *testing.T) {
	full := lin("linear 11: 0" + strings.Repeat(",0", 10))
	for _, l := range invalidLinears() {
		for _, pair := range [][2]impl.Linear{{l, counter()}, {counter(), l}, {l, full}, {full, l}, {l, l}} {
			expect(t, impl.InterleaveLinear, in(pair[0], pair[1]), nil, impl.ErrInvalid)
			expect(t, impl.MeetLinear, in(pair[0], pair[1], nil), nil, impl.ErrInvalid)
			expect(t, impl.MeetLinear, in(pair[0], pair[1], meetings("b a c")), nil, impl.ErrInvalid)
		}
	}
	for _, list := range noMeetings() {
		expect(t, impl.MeetLinear, in(counter(), impl.Linear{}, list), nil, impl.ErrRange)
		expect(t, impl.MeetLinear, in(full, full, list), nil, impl.ErrRange)
	}
	expect(t, impl.InterleaveLinear, in(full, full), nil, impl.ErrFull)
	expect(t, impl.MeetLinear, in(full, full, meetings("a b c")), nil, impl.ErrFull)
	// As many meetings as there may be.
	a, b := lin("linear 0: -", "sum - if 1 do a then -"), lin("linear 0: -", "sum - if 1 do g then -")
	expectMet(t, a, b, meetings("a a z", "a b y", "a c x", "a d w", "a e v", "a g u"), "sum - if 1&1 do u then -")
}

// expectComposed checks whether a composition with meetings is too large, and that without them.
func expectComposed(t *testing.T, a, b impl.Linear, list []impl.Meeting, code int64) {
	t.Helper()
	for _, c := range []struct {
		f    any
		args []any
		list []impl.Meeting
	}{{impl.MeetLinear, in(a, b, list), list}, {impl.InterleaveLinear, in(a, b), nil}} {
		want, defined := composed(a, b, c.list)
		expect(t, c.f, c.args, want, defined)
		if c.list != nil && defined != code {
			t.Errorf("%q with %q: defined with code %d, and expected with %d", exactText(a), exactText(b), defined, code)
		}
	}
}

// still returns a process with some parameters and summands that leave them as they are.
func still(parameters, summands int, name string) impl.Linear {
	s := impl.Summand{Guard: num(1), Name: name, Next: expressionsOf(variablesUpTo(parameters))}
	return impl.Linear{Parameters: int64(parameters), Start: repeated(parameters, 1), Summands: slices.Repeat([]impl.Summand{s}, summands)}
}

func TestCompositionLimits(t *testing.T) {
	list := meetings("a b c")
	// Parameters: 21, and 22.
	for first, second := range map[int]int{0: 21, 10: 11, 20: 1, 21: 0} {
		for _, summands := range []int{0, 1} {
			expectComposed(t, still(first, summands, "a"), still(second, summands, "b"), list, impl.OK)
			expectComposed(t, still(min(first+1, 21), summands, "a"), still(22-min(first+1, 21), summands, "b"), list, impl.ErrFull)
		}
	}
	// Summands that do not meet: 60, and 61.
	for first, second := range map[int]int{0: 60, 1: 59, 30: 30, 60: 0} {
		expectComposed(t, still(1, first, "a"), still(0, second, "a"), list, impl.OK)
		expectComposed(t, still(1, first, "a"), still(0, min(second+1, 60), "a"), list, codeIf(first+min(second+1, 60) > 60))
	}
	// Summands that meet: 20 and 2 make 40 further ones, with which there are 62, and 29 and 1 make 29.
	for sizes, code := range map[[2]int]int64{{29, 1}: impl.OK, {30, 1}: impl.ErrFull, {1, 29}: impl.OK, {1, 30}: impl.ErrFull, {19, 2}: impl.OK, {20, 2}: impl.ErrFull, {60, 60}: impl.ErrFull} {
		expectComposed(t, still(1, sizes[0], "a"), still(0, sizes[1], "b"), list, code)
	}
	// 59 summands and one meeting of two of them, and 60.
	expectComposed(t, joinedLinear(still(2, 1, "a"), still(2, 28, "d")), joinedLinear(still(1, 29, "tau"), still(1, 1, "b")), list, impl.OK)
	expectComposed(t, joinedLinear(still(2, 1, "a"), still(2, 29, "d")), joinedLinear(still(1, 29, "tau"), still(1, 1, "b")), list, impl.ErrFull)
}

func codeIf(full bool) int64 {
	if full {
		return impl.ErrFull
	}
	return impl.OK
}

// joinedLinear returns the first process with the summands of both.
func joinedLinear(a, b impl.Linear) impl.Linear {
	a.Summands = slices.Concat(a.Summands, b.Summands)
	return a
}

// summed returns a process with one summand, which has these sums and names the last variable.
func summed(name string, sums ...int64) impl.Linear {
	last := vr(int64(len(sums)))
	return impl.Linear{Parameters: 1, Start: []int64{1}, Summands: []impl.Summand{{Sums: sums, Guard: last, Name: name, Arguments: [][]impl.Term{last}, Next: [][]impl.Term{last}}}}
}

func TestCompositionLimitsOfSums(t *testing.T) {
	for _, c := range []struct {
		a, b []int64
		code int64
	}{
		{repeated(4, 1), repeated(4, 1), impl.OK}, {nil, repeated(8, 1), impl.OK}, {repeated(8, 1), nil, impl.OK}, {repeated(7, 1), []int64{7}, impl.OK},
		{repeated(4, 1), repeated(5, 1), impl.ErrFull}, {repeated(8, 1), []int64{1}, impl.ErrFull}, {[]int64{1}, repeated(8, 1), impl.ErrFull}, {repeated(8, 1), repeated(8, 1), impl.ErrFull},
		// A product of 4096, and the least one that is greater.
		{[]int64{7, 7}, []int64{7, 7}, impl.OK}, {[]int64{7, 7, 7, 7}, nil, impl.OK}, {[]int64{7}, []int64{3, 3, 7, 3}, impl.OK},
		{[]int64{6, 6, 6}, []int64{5, 1}, impl.ErrFull}, {[]int64{1}, []int64{6, 6, 6, 5}, impl.ErrFull}, {[]int64{7, 7, 7, 7}, []int64{1}, impl.ErrFull}, {[]int64{7, 7, 7, 7}, []int64{7, 7, 7, 7}, impl.ErrFull},
	} {
		expectComposed(t, summed("a", c.a...), summed("b", c.b...), meetings("a b c"), c.code)
		expectComposed(t, summed("a", c.a...), summed("b", c.b...), meetings("a a c", "b b c"), impl.OK)
	}
	// The greatest variable that there may be: with 21 parameters and 8 sums, one half of them on either side.
	a, b := still(10, 1, "a"), still(11, 1, "b")
	a.Summands[0].Sums, a.Summands[0].Guard = repeated(4, 1), vr(13)
	b.Summands[0].Sums, b.Summands[0].Guard, b.Summands[0].Next[0] = repeated(4, 1), vr(14), vr(14)
	l, code := composed(a, b, meetings("a b c"))
	if code != impl.OK || !same(l.Summands[2].Guard, op(impl.OpBoth, vr(24), vr(28))) || !same(l.Summands[2].Next[10], vr(28)) {
		t.Errorf("%q, code %d", exactText(l), code)
	}
	expect(t, impl.MeetLinear, in(a, b, meetings("a b c")), l, impl.OK)
}

// guarded returns a process with one summand that has a guard and arguments with these numbers of terms.
func guarded(name string, guard int, arguments ...int) impl.Linear {
	s := impl.Summand{Sums: []int64{1}, Guard: nots(guard-1, vr(0)), Name: name}
	for _, terms := range arguments {
		s.Arguments = append(s.Arguments, nots(terms-1, vr(0)))
	}
	return impl.Linear{Summands: []impl.Summand{s}}
}

func TestCompositionLimitsOfTerms(t *testing.T) {
	for _, c := range []struct {
		a, b impl.Linear
		code int64
	}{
		// Two guards and the operator between them.
		{guarded("a", 30), guarded("b", 29), impl.OK}, {guarded("a", 30), guarded("b", 30), impl.ErrFull},
		{guarded("a", 1), guarded("b", 58), impl.OK}, {guarded("a", 1), guarded("b", 59), impl.ErrFull},
		{guarded("a", 58), guarded("b", 1), impl.OK}, {guarded("a", 60), guarded("b", 60), impl.ErrFull},
		// Two operators, and one between two arguments.
		{guarded("a", 10, 20), guarded("b", 17, 10), impl.OK}, {guarded("a", 10, 20), guarded("b", 18, 10), impl.ErrFull}, {guarded("a", 10, 21), guarded("b", 17, 10), impl.ErrFull},
		{guarded("a", 1, 1), guarded("b", 1, 54), impl.OK}, {guarded("a", 1, 1), guarded("b", 1, 55), impl.ErrFull}, {guarded("a", 1, 60), guarded("b", 1, 60), impl.ErrFull},
		// Three operators, and two between arguments.
		{guarded("a", 5, 10, 10), guarded("b", 10, 10, 10), impl.OK}, {guarded("a", 5, 10, 10), guarded("b", 10, 10, 11), impl.ErrFull}, {guarded("a", 5, 11, 10), guarded("b", 10, 10, 10), impl.ErrFull},
		{guarded("a", 1, 1, 1), guarded("b", 50, 1, 1), impl.OK}, {guarded("a", 1, 1, 1), guarded("b", 51, 1, 1), impl.ErrFull},
	} {
		expectComposed(t, c.a, c.b, meetings("a b c"), c.code)
		expectComposed(t, c.b, c.a, meetings("a b c"), c.code)
		expectComposed(t, c.a, c.b, meetings("b b c"), impl.OK)
	}
	// Expressions with 60 terms stay as long as they are: a guard alone, arguments alone, and a Next also in a meeting.
	expectComposed(t, guarded("a", 60, 60, 60), guarded("d", 60, 60, 60), meetings("a b c"), impl.OK)
	long := still(1, 1, "a")
	long.Summands[0].Next[0] = nots(59, vr(0))
	other := copied(long)
	other.Summands[0].Name = "b"
	expectComposed(t, long, other, meetings("a b c"), impl.OK)
}

func TestCompositionOfWholeProcesses(t *testing.T) {
	for _, a := range validLinears() {
		for _, b := range []impl.Linear{{}, counter(), a, widest()} {
			for _, list := range [][]impl.Meeting{meetings("a b c"), meetings("a a c", "a taus c", "b b c")} {
				_, code := composed(a, b, list)
				expectComposed(t, a, b, list, code)
				_, code = composed(b, a, list)
				expectComposed(t, b, a, list, code)
			}
		}
	}
}
