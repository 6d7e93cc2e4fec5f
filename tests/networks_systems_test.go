package tests

import (
	"slices"
	"testing"

	"loop.example/g01075/impl"
)

// expectNetwork checks the linear process of a system.
func expectNetwork(t *testing.T, s impl.System, lines ...string) {
	t.Helper()
	expect(t, impl.NetworkLinear, in(s), lin(lines...), impl.OK)
	if defined, code := networkDefined(s); code != impl.OK || !same(defined, lin(lines...)) {
		t.Errorf("%q: defined as %q, code %d", lines, exactText(defined), code)
	}
}

func TestNetworkLinear(t *testing.T) {
	// One component: constants are removed, and nothing is folded.
	expectNetwork(t, systemOf(t, "proc p 0 = 0", "run p"), "linear 0: -")
	expectNetwork(t, systemOf(t, "proc p 1 = a(v0).p(v0) + b.q(v0)", "proc q 1 = c(v0).p(v0)", "run p(7)", "allow a b"), "linear 1: 0",
		"sum - if v0=0 do a(7) then 0", "sum - if v0=0 do b then 1")
	expectNetwork(t, systemOf(t, "proc p 1 = sum 2.[v1<v0]a(v1).p(v0+v1) + tau.p(v0)", "run p(7)", "allow a", "hide a"), "linear 1: 7",
		"sum 2 if 0=0&v1<v0 do tau then v0+v1", "sum - if 0=0 do tau then v0")
	// Two components of one definition, of which each keeps other parameters, with sums on both sides.
	exchange := []string{"proc p 3 = sum 3.put(v3,v0).p(v1,v0,v2) + sum 1.sum 7.[v3<v4]get(v4,v2).p(v0,v1,v2)"}
	expectNetwork(t, systemOf(t, append(exchange, "run p(1,2,3) | p(7,7,4)", "meet get put move", "allow get move put")...), "linear 2: 1,2",
		"sum 3 if 0=0 do put(v2,v0) then v1;v0", "sum 1,7 if 0=0&v2<v3 do get(v3,3) then v0;v1",
		"sum 3 if 0=0 do put(v2,7) then v0;v1", "sum 1,7 if 0=0&v2<v3 do get(v3,4) then v0;v1",
		"sum 3,1,7 if 0=0&(0=0&v3<v4&(v2=v4&v0=4)) do move(v2,v0) then v1;v0", "sum 1,7,3 if 0=0&v2<v3&(0=0&(v3=v4&3=7)) do move(v3,3) then v0;v1")
	// Two definitions: the summands of both are those of each component, at places that it may not come to.
	both := []string{"proc p 0 = a(1).p", "proc q 0 = sum 2.b(v0).q", "run p | q", "meet a b c"}
	lines := []string{"linear 2: 0,1",
		"sum - if v0=0 do a(1) then 0;v1", "sum 2 if v0=1 do b(v2) then 1;v1", "sum - if v1=0 do a(1) then v0;0", "sum 2 if v1=1 do b(v2) then v0;1",
		"sum 2 if v0=0&(v1=1&1=v2) do c(1) then 0;1", "sum 2 if v0=1&(v1=0&v2=1) do c(v2) then 1;0"}
	expectNetwork(t, systemOf(t, append(both, "allow a b c")...), lines...)
	expectNetwork(t, systemOf(t, append(both, "allow b")...), lines[0], lines[2], lines[4])
	expectNetwork(t, systemOf(t, both...), lines[0])
	expectNetwork(t, systemOf(t, append(both, "hide a b c")...), lines[0])
	expectNetwork(t, systemOf(t, append(both, "allow c d", "hide b c")...), lines[0], "sum 2 if v0=0&(v1=1&1=v2) do tau then 0;1", "sum 2 if v0=1&(v1=0&v2=1) do tau then 1;0")
}

// TestNetworkLinearOfThree meets each of three components with each other one, and no result with a third one.
func TestNetworkLinearOfThree(t *testing.T) {
	s := systemOf(t, "proc p 1 = sum 1.a(v1,v0).p(v0)", "run p(1) | p(2) | p(3)", "meet a a c", "allow a c")
	alone := []string{"sum 1 if 0=0 do a(v0,1) then -", "sum 1 if 0=0 do a(v0,2) then -", "sum 1 if 0=0 do a(v0,3) then -"}
	first, second, third := "sum 1,1 if 0=0&(0=0&(v0=v1&1=2)) do c(v0,1) then -", "sum 1,1 if 0=0&(0=0&(v0=v1&1=3)) do c(v0,1) then -", "sum 1,1 if 0=0&(0=0&(v0=v1&2=3)) do c(v0,2) then -"
	// The first two components are there with their meeting when the third one comes.
	expectNetwork(t, s, "linear 0: -", alone[0], alone[1], first, alone[2], second, third)
	s.Hidden = []string{"a"}
	expectNetwork(t, s, "linear 0: -", "sum 1 if 0=0 do tau then -", "sum 1 if 0=0 do tau then -", first, "sum 1 if 0=0 do tau then -", second, third)
	s = systemOf(t, "proc p 1 = a(v0).p(v0+1)", "run p(1) | p(2) | p(3)", "meet a a c", "allow c", "hide b")
	expectNetwork(t, s, "linear 3: 1,2,3", "sum - if 0=0&(0=0&v0=v1) do c(v0) then v0+1;v1+1;v2", "sum - if 0=0&(0=0&v0=v2) do c(v0) then v0+1;v1;v2+1",
		"sum - if 0=0&(0=0&v1=v2) do c(v1) then v0;v1+1;v2+1")
}

// expectWhole checks whether a system has a linear process.
func expectWhole(t *testing.T, s impl.System, code int64) {
	t.Helper()
	want, defined := networkDefined(s)
	if defined != code {
		t.Errorf("%+v: defined with code %d, and expected with %d", s, defined, code)
	}
	expect(t, impl.NetworkLinear, in(s), want, defined)
}

// copies returns the system of some components of the first definition, with meetings and all names allowed.
func copies(n int, list []impl.Meeting, definitions ...impl.Definition) impl.System {
	values := repeated(int(definitions[0].Parameters), 0)
	return impl.System{Definitions: definitions, Components: slices.Repeat([]impl.Component{{Values: values}}, n), Meetings: list, Allowed: []string{"a", "b", "c"}}
}

func TestNetworkLinearLimits(t *testing.T) {
	stop, self := stopPart(), callPart(0)
	// LinearOf: more than MaxPlaces places, and more than MaxSummands summands, also of one component and without names that are allowed.
	for components := range 3 {
		for _, s := range []impl.System{chains(stop, 19, 19, 19, 4), chains(self, 19, 19, 19, 8)} {
			s.Components = make([]impl.Component, 1+components)
			expectWhole(t, s, impl.ErrFull)
		}
	}
	// The summands of all components: 60 of one, and 2 times 30 or 31, and 3 times 20 or 21.
	for components, sizes := range map[int][][]int{1: {{19, 19, 19, 3}, {19, 19, 19, 4}}, 2: {{19, 11}, {19, 12}}, 3: {{19, 1}, {19, 2}}} {
		for i, size := range sizes {
			s := chains(stop, size...)
			s.Components = make([]impl.Component, components)
			s.Allowed = []string{"a"}
			expectWhole(t, s, codeIf(i == 1))
			s.Allowed = nil
			expectWhole(t, s, codeIf(i == 1))
		}
	}
	// The summands with their meetings: n of each component and n * n of each two.
	meet := meetings("a a c")
	for _, c := range []struct {
		components, n int
		full          bool
	}{{1, 19, false}, {2, 6, false}, {2, 7, true}, {3, 4, false}, {2, 5, false}, {3, 5, true}} {
		expectWhole(t, copies(c.components, meet, def("p", 0, chainOf(c.n, stop)...)), codeIf(c.full))
	}
}

func TestNetworkLinearLimitsOfMeetings(t *testing.T) {
	self, meet := callPart(0), meetings("a a c")
	// Eight sums and nine, and products of 4096 and more.
	for _, c := range []struct {
		sums []int64
		full bool
	}{{[]int64{7, 7}, false}, {[]int64{7, 7, 1}, true}, {repeated(4, 1), false}, {repeated(5, 1), true}, {[]int64{3, 3, 3}, false}, {repeated(6, 1), true}} {
		var body []impl.Part
		for _, n := range c.sums {
			body = append(body, sumPart(n))
		}
		body = append(body, actPart("a", vr(0)), self)
		for components := range 3 {
			expectWhole(t, copies(1+components, meet, def("p", 0, body...)), codeIf(c.full && components > 0))
			expectWhole(t, copies(1+components, meetings("a b c"), def("p", 0, body...)), impl.OK)
		}
	}
	// Guards of meetings with 60 terms, and with 61: one more than those of both, which have three terms for the place and
	// one more than each argument.
	for terms, full := range map[int]bool{9: false, 10: true} {
		a := []impl.Part{guardPart(nots(14, num(1))), guardPart(nots(9, num(1))), actPart("a"), self}
		b := []impl.Part{guardPart(nots(14, num(1))), guardPart(nots(terms-1, num(1))), actPart("b"), self}
		for components := range 3 {
			s := copies(1+components, meetings("a b c"), def("p", 0, slices.Concat([]impl.Part{choicePart()}, a, b)...))
			expectWhole(t, s, codeIf(full && components > 0))
		}
	}
	// As many parameters as there may be: seven of each of three components, of which none is constant.
	s := systemOf(t, "proc p 3 = sum 1.sum 1.sum 1.a(v5,v0).b(v5).p(v3,v4,v5)", "run p(0,0,0) | p(0,0,0) | p(0,0,0)", "meet a a c", "allow b c")
	expectWhole(t, s, impl.OK)
	if l, _ := impl.NetworkLinear(s); l.Parameters != 21 || len(l.Summands) != 6 {
		t.Error(exactText(l))
	}
}

func TestNetworkLinearOfInvalidSystems(t *testing.T) {
	for _, s := range invalidSystems() {
		expect(t, impl.NetworkLinear, in(s), nil, impl.ErrInvalid)
	}
	s := chains(stopPart(), 19, 19, 19, 19)
	s.Allowed = []string{"b", "a"}
	expect(t, impl.NetworkLinear, in(s), nil, impl.ErrInvalid)
}

func TestExamplesOfChapter9(t *testing.T) {
	put, get := lin("linear 0: -", "sum - if 1 do put then -"), lin("linear 0: -", "sum - if 1 do get then -")
	three := lin("linear 0: -", "sum - if 1 do put then -", "sum - if 1 do get then -", "sum - if 1&1 do move then -")
	expect(t, impl.MeetLinear, in(put, get, meetings("get put move")), three, impl.OK)
	expect(t, impl.RestrictLinear, in(three, []string{"move"}), lin("linear 0: -", "sum - if 1&1 do move then -"), impl.OK)
}
