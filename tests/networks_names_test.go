package tests

import (
	"math"
	"slices"
	"testing"

	"loop.example/g01075/impl"
)

// actions returns a process with summands of several names, with and without arguments and sums.
func actions() impl.Linear {
	return lin("linear 2: 5,6",
		"sum 1,7 if v0<v2 do b(v2,v3) then v3;v0", "sum - if 1 do tau then v0;v1", "sum - if v1 do a then v1;v0",
		"sum 3 if 1 do b(v2) then v0;v2", "sum - if 0 do bb(1) then v0;v1", "sum - if 1 do a(v1) then 0;0")
}

// summandsAt returns a process with some of its summands.
func summandsAt(l impl.Linear, indices ...int) impl.Linear {
	var kept []impl.Summand
	for _, i := range indices {
		kept = append(kept, l.Summands[i])
	}
	l.Summands = kept
	return l
}

func TestRestrictLinear(t *testing.T) {
	for _, c := range []struct {
		allowed []string
		kept    []int
	}{
		{nil, []int{1}}, {[]string{"a"}, []int{1, 2, 5}}, {[]string{"b"}, []int{0, 1, 3}}, {[]string{"bb"}, []int{1, 4}}, {[]string{"a", "b"}, []int{0, 1, 2, 3, 5}},
		{[]string{"a", "b", "bb"}, counts(6)}, {[]string{"a0", "ab", "bbb", "c", "ta", "taus"}, []int{1}}, {manyNames(12), []int{1}}, {append(manyNames(12)[1:], "z"), []int{1}},
		{append([]string{"a", "b", "bb"}, manyNames(9)...), counts(6)},
	} {
		want := summandsAt(actions(), c.kept...)
		expect(t, impl.RestrictLinear, in(actions(), c.allowed), want, impl.OK)
		if !same(restrictedLinear(actions(), c.allowed), want) {
			t.Error(c)
		}
	}
	expect(t, impl.RestrictLinear, in(impl.Linear{}, []string{"a"}), impl.Linear{}, impl.OK)
	expect(t, impl.RestrictLinear, in(lin("linear 1: 3", "sum - if 1 do a then v0"), nil), lin("linear 1: 3"), impl.OK)
}

func counts(n int) []int {
	var list []int
	for i := range n {
		list = append(list, i)
	}
	return list
}

func TestHideLinear(t *testing.T) {
	for _, c := range []struct {
		hidden  []string
		changed []int
	}{
		{nil, nil}, {[]string{"a"}, []int{2, 5}}, {[]string{"b"}, []int{0, 3}}, {[]string{"bb"}, []int{4}}, {[]string{"a", "b"}, []int{0, 2, 3, 5}}, {[]string{"a", "b", "bb"}, []int{0, 2, 3, 4, 5}},
		{[]string{"a0", "ab", "bbb", "c", "ta", "taus"}, nil}, {manyNames(12), nil},
	} {
		want := actions()
		for _, i := range c.changed {
			// Guard, sums and Next stay, also where only an argument has named a variable.
			want.Summands[i].Name, want.Summands[i].Arguments = "tau", nil
		}
		expect(t, impl.HideLinear, in(actions(), c.hidden), want, impl.OK)
		if !same(hiddenLinear(actions(), c.hidden), want) {
			t.Error(c)
		}
	}
	expect(t, impl.HideLinear, in(impl.Linear{}, []string{"a"}), impl.Linear{}, impl.OK)
	// Summands that are equal then stay.
	expect(t, impl.HideLinear, in(lin("linear 0: -", "sum - if 1 do a(1) then -", "sum - if 1 do b(2,3) then -", "sum - if 1 do tau then -"), []string{"a", "b"}),
		lin("linear 0: -", "sum - if 1 do tau then -", "sum - if 1 do tau then -", "sum - if 1 do tau then -"), impl.OK)
}

func TestErrorsOfListsOfNames(t *testing.T) {
	for _, f := range []any{impl.RestrictLinear, impl.HideLinear} {
		for _, names := range noActionLists() {
			expect(t, f, in(actions(), names), nil, impl.ErrRange)
			expect(t, f, in(impl.Linear{}, names), nil, impl.ErrRange)
			expect(t, f, in(impl.Linear{Parameters: 1}, names), nil, impl.ErrInvalid)
		}
		for _, name := range append(noNames(), "tau") {
			expect(t, f, in(actions(), []string{name}), nil, impl.ErrRange)
		}
		for _, l := range invalidLinears() {
			expect(t, f, in(l, nil), nil, impl.ErrInvalid)
			expect(t, f, in(l, []string{"b", "a"}), nil, impl.ErrInvalid)
		}
	}
}

func TestRenameLinear(t *testing.T) {
	for _, c := range []struct {
		from, to string
		changed  []int
	}{
		{"a", "c", []int{2, 5}}, {"b", "x", []int{0, 3}}, {"bb", "z234567890", []int{4}},
		// To a name that is there, to itself, and from one that is not there.
		{"a", "b", []int{2, 5}}, {"b", "bb", []int{0, 3}}, {"a", "a", []int{2, 5}}, {"c", "c", nil}, {"c", "a", nil}, {"ab", "c", nil}, {"bbb", "c", nil}, {"ta", "c", nil}, {"taus", "c", nil},
	} {
		want := actions()
		for _, i := range c.changed {
			want.Summands[i].Name = c.to
		}
		expect(t, impl.RenameLinear, in(actions(), c.from, c.to), want, impl.OK)
		if !same(renamedLinear(actions(), c.from, c.to), want) {
			t.Error(c)
		}
	}
	expect(t, impl.RenameLinear, in(impl.Linear{}, "a", "b"), impl.Linear{}, impl.OK)
	for _, name := range append(noNames(), "tau") {
		for _, l := range []impl.Linear{actions(), {}} {
			expect(t, impl.RenameLinear, in(l, name, "a"), nil, impl.ErrRange)
			expect(t, impl.RenameLinear, in(l, "a", name), nil, impl.ErrRange)
			expect(t, impl.RenameLinear, in(l, "x", name), nil, impl.ErrRange)
			expect(t, impl.RenameLinear, in(l, name, name), nil, impl.ErrRange)
		}
	}
	for _, l := range invalidLinears() {
		expect(t, impl.RenameLinear, in(l, "a", "b"), nil, impl.ErrInvalid)
		expect(t, impl.RenameLinear, in(l, "tau", ""), nil, impl.ErrInvalid)
	}
}

// expectDistinct checks which summands of a process are left.
func expectDistinct(t *testing.T, l impl.Linear, indices ...int) {
	t.Helper()
	expect(t, impl.DistinctSummands, in(l), summandsAt(l, indices...), impl.OK)
	if defined := distinctLinear(l); !same(defined, summandsAt(l, indices...)) {
		t.Errorf("%q: defined as %q", exactText(l), exactText(defined))
	}
}

func TestDistinctSummands(t *testing.T) {
	expectDistinct(t, impl.Linear{})
	expectDistinct(t, actions(), counts(6)...)
	// The first one of equal summands stays, wherever the others are.
	expectDistinct(t, summandsAt(actions(), 0, 0, 0), 0)
	expectDistinct(t, summandsAt(actions(), 0, 1, 0, 2, 1, 5, 5, 0), 0, 1, 3, 5)
	expectDistinct(t, still(3, 60, "tau"), 0)
	// Summands that differ in one field alone: in length, in one element, and in order.
	first := lin("linear 2: 0,0", "sum 3,2 if v0<v2 do a(v1,v3) then v0;v2").Summands[0]
	l := impl.Linear{Parameters: 2, Start: []int64{0, 0}}
	for _, change := range []func(s *impl.Summand){
		func(s *impl.Summand) {}, func(s *impl.Summand) { s.Sums[1] = 3 }, func(s *impl.Summand) { s.Sums = []int64{2, 3} }, func(s *impl.Summand) { s.Sums = []int64{3, 2, 1} },
		func(s *impl.Summand) { s.Guard[2].Value = 3 }, func(s *impl.Summand) { s.Guard[1].Kind = 0 }, func(s *impl.Summand) { s.Guard = vr(0) }, func(s *impl.Summand) { s.Guard = not(s.Guard) },
		func(s *impl.Summand) { s.Name = "b" }, func(s *impl.Summand) { s.Name = "ab" },
		func(s *impl.Summand) { s.Arguments = nil }, func(s *impl.Summand) { s.Arguments = s.Arguments[:1] }, func(s *impl.Summand) { slices.Reverse(s.Arguments) }, func(s *impl.Summand) { s.Arguments[1] = num(3) },
		func(s *impl.Summand) { slices.Reverse(s.Next) }, func(s *impl.Summand) { s.Next[1] = vr(3) }, func(s *impl.Summand) { s.Next[0] = num(0) }, func(s *impl.Summand) { s.Next[1] = not(vr(2)) },
		// What has the same moves is not equal.
		func(s *impl.Summand) { s.Guard = not(not(s.Guard)) },
	} {
		s := copied(first)
		change(&s)
		l.Summands = append(l.Summands, s)
	}
	n := len(l.Summands)
	expectDistinct(t, l, counts(n)...)
	l.Summands = append(l.Summands, copied(l.Summands)...)
	expectDistinct(t, l, counts(n)...)
}

// TestDistinctSummandsOfEmptyLists has summands with empty lists beside such with none, which are equal.
func TestDistinctSummandsOfEmptyLists(t *testing.T) {
	one := []impl.Term{{Value: 1}}
	l := impl.Linear{Summands: []impl.Summand{
		{Guard: one, Name: "a"}, {Sums: []int64{}, Guard: one, Name: "a"}, {Guard: one, Name: "a", Arguments: [][]impl.Term{}}, {Guard: one, Name: "a", Next: [][]impl.Term{}},
		{Sums: []int64{}, Guard: one, Name: "a", Arguments: [][]impl.Term{}, Next: [][]impl.Term{}},
	}}
	for range 2 {
		if less, code := impl.DistinctSummands(l); code != impl.OK || len(less.Summands) != 1 || !same(less, summandsAt(l, 0)) {
			t.Errorf("%+v, code %d", less, code)
		}
		slices.Reverse(l.Summands)
	}
}

func TestLinearNames(t *testing.T) {
	expect(t, impl.LinearNames, in(impl.Linear{}), nil, impl.OK)
	expect(t, impl.LinearNames, in(still(1, 3, "tau")), nil, impl.OK)
	expect(t, impl.LinearNames, in(actions()), []string{"a", "b", "bb"}, impl.OK)
	// In the order of bytes: a digit is less than a letter, and a name less than a longer one that begins with it.
	var l impl.Linear
	for _, name := range []string{"b", "ab", "a0", "tau", "taus", "a", "tau", "a0", "z23456789z", "aa", "ta"} {
		l = joinedLinear(l, still(0, 1, name))
	}
	expect(t, impl.LinearNames, in(l), []string{"a", "a0", "aa", "ab", "b", "ta", "taus", "z23456789z"}, impl.OK)
	// There may be more names than a list of names may have.
	var names []string
	l = impl.Linear{}
	for n := range int64(60) {
		names = append(names, "n"+impl.Decimal(10+n))
		l = joinedLinear(still(0, 1, names[n]), l)
	}
	expect(t, impl.LinearNames, in(l), names, impl.OK)
}

func TestStartLinear(t *testing.T) {
	for _, start := range [][]int64{{0, 0}, {63, 0}, {5, 6}, {6, 5}, {63, 63}} {
		want := actions()
		want.Start = start
		expect(t, impl.StartLinear, in(actions(), start), want, impl.OK)
		if !same(startedLinear(actions(), start), want) {
			t.Error(start)
		}
	}
	for _, start := range [][]int64{nil, {5}, {5, 6, 7}, {64, 6}, {5, 64}, {-1, 6}, {5, -1}, {math.MinInt64, 0}, {0, math.MaxInt64}, repeated(1000, 0)} {
		expect(t, impl.StartLinear, in(actions(), start), nil, impl.ErrRange)
	}
	expect(t, impl.StartLinear, in(impl.Linear{}, nil), impl.Linear{}, impl.OK)
	expect(t, impl.StartLinear, in(impl.Linear{}, []int64{0}), nil, impl.ErrRange)
	want := widest()
	want.Start = counted(21)
	expect(t, impl.StartLinear, in(widest(), counted(21)), want, impl.OK)
	expect(t, impl.StartLinear, in(widest(), counted(20)), nil, impl.ErrRange)
}

func TestErrorsOfChangesOfLinears(t *testing.T) {
	for _, l := range invalidLinears() {
		expect(t, impl.DistinctSummands, in(l), nil, impl.ErrInvalid)
		expect(t, impl.LinearNames, in(l), nil, impl.ErrInvalid)
		// Also if the other Start would make it valid, or is no state.
		for _, start := range [][]int64{{0, 5, 63}, l.Start, nil, {64}} {
			expect(t, impl.StartLinear, in(l, start), nil, impl.ErrInvalid)
		}
	}
}
