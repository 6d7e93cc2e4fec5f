package tests

import (
	"slices"
	"strings"
	"testing"

	"loop.example/g01075/impl"
)

// pairs returns the places of a text like "0:0 0:2 1:0".
func pairs(text string) [][]int64 {
	var list [][]int64
	for word := range strings.FieldsSeq(text) {
		k, part, _ := strings.Cut(word, ":")
		list = append(list, []int64{numberFrom(k), numberFrom(part)})
	}
	return list
}

// expectPlaces checks the places of a system.
func expectPlaces(t *testing.T, s impl.System, text string) {
	t.Helper()
	expect(t, impl.PlacesOf, in(s), pairs(text), impl.OK)
	if defined := placesOf(s); !same(defined, pairs(text)) {
		t.Errorf("the places are defined as %v, and expected as %s", defined, text)
	}
}

func TestPlacesOf(t *testing.T) {
	expectPlaces(t, systemOf(t, "proc p 0 = 0", "run p"), "0:0")
	expectPlaces(t, systemOf(t, "proc p 0 = a.p", "run p"), "0:0")
	expectPlaces(t, systemOf(t, "proc p 0 = a.0", "run p"), "0:0 0:1")
	// In definitions that no component comes to as well.
	expectPlaces(t, systemOf(t, "proc p 0 = a.q", "proc q 0 = tau.b.p", "proc r 0 = a.b.0", "run q"), "0:0 1:0 1:1 2:0 2:1 2:2")
	// Choices, guards and sums behind an action are places, but not the parts behind them.
	expectPlaces(t, systemOf(t, "proc p 0 = a.(b.p + c.p)", "run p"), "0:0 0:1")
	expectPlaces(t, systemOf(t, "proc p 0 = a.[1]b.0", "run p"), "0:0 0:1 0:3")
	expectPlaces(t, systemOf(t, "proc p 0 = sum 1.a.sum 2.b.p + a.0", "run p"), "0:0 0:3 0:7")
	expectPlaces(t, systemOf(t, "proc p 0 = [1][2]sum 1.(0 + 0)", "run p"), "0:0")
	expectPlaces(t, example(), "0:0 1:0 2:0 2:2 3:0 3:4 3:7")
}

// chainOf returns the body of some actions, one behind the other, and at the end a part.
func chainOf(actions int, last impl.Part) []impl.Part {
	return again(actions, actPart("a"), last)
}

// chains returns a system of definitions with some actions each, which end with a part.
func chains(last impl.Part, actions ...int) impl.System {
	s := impl.System{Components: []impl.Component{{}}}
	for k, n := range actions {
		s.Definitions = append(s.Definitions, def("p"+impl.Decimal(int64(k)), 0, chainOf(n, last)...))
	}
	return s
}

func TestPlacesOfLimit(t *testing.T) {
	stop, self := stopPart(), callPart(0)
	for _, s := range []impl.System{chains(stop, 19, 19, 19, 3), chains(self, 19, 19, 19, 7)} {
		if places := placesOf(s); len(places) != 64 {
			t.Fatal(len(places), "places")
		}
		expect(t, impl.PlacesOf, in(s), placesOf(s), impl.OK)
	}
	for _, s := range []impl.System{chains(stop, 19, 19, 19, 4), chains(self, 19, 19, 19, 8), chains(stop, 19, 19, 19, 19)} {
		expect(t, impl.PlacesOf, in(s), nil, impl.ErrFull)
	}
}

func TestPlacesAndLinearOfInvalidSystems(t *testing.T) {
	for _, s := range invalidSystems() {
		expect(t, impl.PlacesOf, in(s), nil, impl.ErrInvalid)
		for _, k := range []int64{0, -1, 100} {
			expect(t, impl.LinearOf, in(s, k), nil, impl.ErrInvalid)
		}
	}
}

// expectLinear checks the linear process of component 0.
func expectLinear(t *testing.T, s impl.System, lines ...string) {
	t.Helper()
	expect(t, impl.LinearOf, in(s, 0), lin(lines...), impl.OK)
	if defined, code := linearDefined(s, 0); code != impl.OK || !same(defined, lin(lines...)) {
		t.Errorf("%q: defined as %+v, code %d", lines, defined, code)
	}
}

func TestLinearOfWithoutActions(t *testing.T) {
	expectLinear(t, systemOf(t, "proc p 0 = 0", "run p"), "linear 1: 0")
	expectLinear(t, systemOf(t, "proc p 3 = [v0]sum 7.sum 7.sum 7.0", "run p(1,63,0)"), "linear 4: 0,1,63,0")
}

func TestLinearOfActions(t *testing.T) {
	expectLinear(t, systemOf(t, "proc p 0 = a.0", "run p"), "linear 1: 0", "sum - if v0=0 do a then 1")
	expectLinear(t, systemOf(t, "proc p 0 = tau.p", "run p"), "linear 1: 0", "sum - if v0=0 do tau then 0")
	expectLinear(t, systemOf(t, "proc p 2 = a(v1,v0+1).b(v0).c.p(v1,2*v0)", "run p(3,4)"), "linear 3: 0,3,4",
		"sum - if v0=0 do a(v2,v1+1) then 1;v1;v2", "sum - if v0=1 do b(v1) then 2;v1;v2", "sum - if v0=2 do c then 0;v2;2*v1")
	// Names, meetings, Allowed and Hidden make no difference.
	expectLinear(t, systemOf(t, "proc p 0 = a.p", "run p", "meet a b c", "allow b", "hide a"), "linear 1: 0", "sum - if v0=0 do a then 0")
}

func TestLinearOfCalls(t *testing.T) {
	// A call of a definition with fewer parameters leaves zeros, and places count over all definitions.
	lines := []string{"proc p 0 = a.q(7) + b.p", "proc q 1 = c(v0).r(v0,1,2)", "proc r 3 = tau.p + d(v2).q(v1+v2) + e.0"}
	summands := []string{
		"sum - if v0=0 do a then 1;7;0;0", "sum - if v0=0 do b then 0;0;0;0", "sum - if v0=1 do c(v1) then 2;v1;1;2",
		"sum - if v0=2 do tau then 0;0;0;0", "sum - if v0=2 do d(v3) then 1;v2+v3;0;0", "sum - if v0=2 do e then 3;v1;v2;v3",
	}
	for run, head := range map[string]string{"run p | q(5)": "linear 4: 0,0,0,0", "run q(5) | p": "linear 4: 1,5,0,0", "run r(1,2,63)": "linear 4: 2,1,2,63"} {
		expectLinear(t, systemOf(t, append(slices.Clone(lines), run)...), append([]string{head}, summands...)...)
	}
	s := systemOf(t, append(slices.Clone(lines), "run p | q(5) | r(9,8,7)")...)
	for k, head := range []string{"linear 4: 0,0,0,0", "linear 4: 1,5,0,0", "linear 4: 2,9,8,7"} {
		expect(t, impl.LinearOf, in(s, k), lin(append([]string{head}, summands...)...), impl.OK)
	}
}

func TestLinearOfSums(t *testing.T) {
	// The variable of a sum is a sum at the action behind it, and a parameter at the places behind that.
	expectLinear(t, systemOf(t, "proc p 1 = sum 3.a(v1).b(v0,v1).sum 1.c(v2).p(v0+v2)", "run p(2)"), "linear 3: 0,2,0",
		"sum 3 if v0=0 do a(v3) then 1;v1;v3", "sum - if v0=1 do b(v1,v2) then 2;v1;v2", "sum 1 if v0=2 do c(v3) then 0;v1+v3;0")
	// Nested sums, from outside in, with guards over both between and behind them.
	expectLinear(t, systemOf(t, "proc p 1 = sum 3.[v0<v1]sum 2.[v1<v2][v2]a(v2,v1).b(v2).p(v1)", "run p(2)"), "linear 4: 0,2,0,0",
		"sum 3,2 if v0=0&(v1<v4&(v4<v5&v5)) do a(v5,v4) then 1;v1;v4;v5", "sum - if v0=1 do b(v3) then 0;v2;0;0")
	// A sum in one part of a choice only, in the first or in the second one, and one around a choice.
	expectLinear(t, systemOf(t, "proc p 0 = sum 1.a(v0).p + b.p", "run p"), "linear 1: 0", "sum 1 if v0=0 do a(v1) then 0", "sum - if v0=0 do b then 0")
	expectLinear(t, systemOf(t, "proc p 0 = a.p + sum 1.b(v0).p", "run p"), "linear 1: 0", "sum - if v0=0 do a then 0", "sum 1 if v0=0 do b(v1) then 0")
	expectLinear(t, systemOf(t, "proc p 0 = sum 5.(a(v0).p + sum 1.b(v1).0 + c(v0).0)", "run p"), "linear 3: 0,0,0",
		"sum 5 if v0=0 do a(v3) then 0;0;0", "sum 5,1 if v0=0 do b(v4) then 1;v3;v4", "sum 5 if v0=0 do c(v3) then 2;v3;0")
	// A sum that is no place's alone: the greatest scope is that of a place.
	expectLinear(t, systemOf(t, "proc p 0 = sum 1.sum 2.sum 3.a(v2).p", "run p"), "linear 1: 0", "sum 1,2,3 if v0=0 do a(v3) then 0")
	// All variables that may be in scope.
	expectLinear(t, systemOf(t, "proc p 3 = sum 1.sum 2.sum 3.a(v3,v5).b(v5).p(v5,v4,v3)", "run p(1,2,3)"), "linear 7: 0,1,2,3,0,0,0",
		"sum 1,2,3 if v0=0 do a(v7,v9) then 1;v1;v2;v3;v7;v8;v9", "sum - if v0=1 do b(v6) then 0;v6;v5;v4;0;0;0")
}

func TestLinearOfGuardsAndChoices(t *testing.T) {
	expectLinear(t, systemOf(t, "proc p 1 = [v0<2]a.(b(v0).p(v0+1) + tau.0)", "run p(0)"), "linear 2: 0,0",
		"sum - if v0=0&v1<2 do a then 1;v1", "sum - if v0=1 do b(v1) then 0;v1+1", "sum - if v0=1 do tau then 2;v1")
	expectLinear(t, systemOf(t, "proc p 0 = ((a.p + [1]b.p) + 0) + [2]([3]c.p + [0]d.0)", "run p"), "linear 1: 0",
		"sum - if v0=0 do a then 0", "sum - if v0=0&1 do b then 0", "sum - if v0=0&(2&3) do c then 0", "sum - if v0=0&(2&0) do d then 1")
	expectLinear(t, systemOf(t, "proc p 0 = [1]0 + a.[2](b.p + [3|4]c.p)", "run p"), "linear 1: 0",
		"sum - if v0=0 do a then 1", "sum - if v0=1&2 do b then 0", "sum - if v0=1&(2&(3|4)) do c then 0")
	expectLinear(t, example(), "linear 3: 1,0,0",
		"sum - if v0=0&v1 do crash(v1) then 0;v1-1;0", "sum - if v0=1 do put(1) then 1;0;0", "sum - if v0=1 do put(2) then 1;0;0",
		"sum 3 if v0=2 do get(v3) then 3;v3;0", "sum - if v0=3 do pass(v1) then 2;0;0",
		"sum 7 if v0=4&v3<4 do take(v3) then 5;v1;v3", "sum 7 if v0=4 do show(v1,v3) then 6;v1;v3", "sum - if v0=5 do tau then 4;v1+v2;0")
}

func TestLinearOfErrors(t *testing.T) {
	s := systemOf(t, "proc p 0 = a.p", "run p | p")
	for _, k := range noIndices(2) {
		expect(t, impl.LinearOf, in(s, k), nil, impl.ErrRange)
		expect(t, impl.LinearOf, in(chains(stopPart(), 19, 19, 19, 19), k), nil, impl.ErrRange)
	}
	expect(t, impl.LinearOf, in(s, 1), lin("linear 1: 0", "sum - if v0=0 do a then 0"), impl.OK)
}

// expectFits checks whether component 0 has a linear process.
func expectFits(t *testing.T, s impl.System, fits bool) {
	t.Helper()
	l, code := linearDefined(s, 0)
	if fits != (code == impl.OK) {
		t.Errorf("%+v: defined with code %d", s, code)
	}
	expect(t, impl.LinearOf, in(s, 0), l, code)
}

func TestLinearOfLimits(t *testing.T) {
	stop, self := stopPart(), callPart(0)
	// As many summands as there may be, with as many places as there may be, and with fewer.
	expectFits(t, chains(stop, 19, 19, 19, 3), true)
	expectFits(t, chains(stop, 19, 19, 19, 4), false)
	expectFits(t, chains(self, 19, 19, 19, 3), true)
	expectFits(t, chains(self, 19, 19, 19, 4), false)
	// The products of sums of 4096 and of the next number that there is.
	for numbers, fits := range map[[6]int64]bool{{7, 7, 7, 7}: true, {3, 3, 3, 3, 3, 3}: true, {6, 6, 6, 5}: true, {6, 6, 6, 5, 1}: false, {7, 7, 7, 7, 1}: false, {7, 7, 7, 7, 7, 7}: false} {
		var body []impl.Part
		for _, n := range numbers {
			if n > 0 {
				body = append(body, sumPart(n))
			}
		}
		expectFits(t, impl.System{Definitions: defs(0, append(body, actPart("a"), self)...), Components: []impl.Component{{}}}, fits)
		// Without an action behind them, sums make no summand.
		expectFits(t, impl.System{Definitions: defs(0, append(body, stop)...), Components: []impl.Component{{}}}, true)
	}
	// Guards with 60 terms, and with 61.
	long := guardPart(nots(14, num(1)))
	for terms, fits := range map[int]bool{8: true, 9: false, 15: false} {
		body := []impl.Part{long, guardPart(nots(terms-1, num(1))), long, long, actPart("a"), self}
		expectFits(t, impl.System{Definitions: defs(0, body...), Components: []impl.Component{{}}}, fits)
	}
	// What is too much in a definition that no component comes to is too much all the same.
	far := append(defs(0, stop), def("q", 0, again(5, sumPart(7), actPart("a"), self)...))
	expectFits(t, impl.System{Definitions: far, Components: []impl.Component{{}}}, false)
}

func TestExampleOfChapter8(t *testing.T) {
	s := impl.System{Definitions: defs(1, sumPart(1), actPart("a", vr(1)), callPart(0, vr(1))), Components: []impl.Component{{Values: []int64{0}}}}
	l := lin("linear 2: 0,0", "sum 1 if v0=0 do a(v2) then 0;v2")
	expect(t, impl.LinearOf, in(s, 0), l, impl.OK)
	expect(t, impl.LinearText, in(l), "linear 2: 0,0\nsum 1 if v0=0 do a(v2) then 0;v2")
	expect(t, impl.ConstantParameters, in(l), []int64{0}, impl.OK)
	expect(t, impl.NeededParameters, in(l), []int64{0}, impl.OK)
}
