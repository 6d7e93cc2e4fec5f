package tests

import (
	"math"
	"slices"
	"strings"
	"testing"

	"loop.example/g01075/impl"
)

func TestProcessConstants(t *testing.T) {
	limits := []int64{impl.MaxDefinitions, impl.MaxParts, impl.MaxParameters, impl.MaxVariables, impl.MaxSum, impl.MaxComponents, impl.MaxMeetings, impl.MaxNames}
	if !same(limits, []int64{4, 20, 3, 6, 7, 3, 6, 12}) {
		t.Error("limits", limits)
	}
	kinds := []int64{impl.PartStop, impl.PartAction, impl.PartChoice, impl.PartGuard, impl.PartSum, impl.PartCall}
	if !same(kinds, counted(6)) {
		t.Error("kinds", kinds)
	}
	reasons := []int64{0, impl.ReasonShape, impl.ReasonKind, impl.ReasonName, impl.ReasonNumber, impl.ReasonCount, impl.ReasonPlace, impl.ReasonScope, impl.ReasonTerm}
	if !same(reasons, counted(9)) {
		t.Error("reasons", reasons)
	}
	faults := []int64{0, impl.FaultDefinitions, impl.FaultComponents, impl.FaultMeetings, impl.FaultAllowed, impl.FaultHidden}
	if !same(faults, counted(6)) {
		t.Error("faults", faults)
	}
}

// expectFault checks the fault of the definition 0.
func expectFault(t *testing.T, list []impl.Definition, part, reason int) {
	t.Helper()
	expect(t, impl.BodyFault, in(list, 0), part, reason, impl.OK)
	expect(t, impl.ValidDefinitions, in(list), false)
}

func expectNoFault(t *testing.T, list []impl.Definition) {
	t.Helper()
	expect(t, impl.BodyFault, in(list, 0), 0, 0, impl.ErrNotFound)
	expect(t, impl.ValidDefinitions, in(list), true)
}

func TestBodyFaultOfValidBodies(t *testing.T) {
	stop, act, choice, self := stopPart(), actPart("a"), choicePart(), callPart(0)
	for _, body := range [][]impl.Part{
		{stop}, {act, self}, {act, stop}, {actPart("tau"), self}, {actPart("taus", num(63)), stop}, {actPart("a2345678z0", num(0), num(1)), stop},
		{sumPart(1), stop}, {sumPart(7), stop}, {guardPart(nots(14, num(1))), stop}, {choice, stop, stop}, {choice, act, self, act, self},
		{choice, choice, stop, stop, stop}, {choice, stop, choice, stop, stop}, {act, choice, stop, stop}, {act, act, guardPart(num(0)), act, self},
		again(19, guardPart(num(1)), stop), again(9, choice, append(again(9, stop), act, stop)...), again(19, act, self),
		// As many sums as variables may be in scope, twice.
		append([]impl.Part{choice}, slices.Repeat(again(6, sumPart(1), actPart("a", vr(5), vr(0)), self), 2)...),
		{sumPart(2), choice, sumPart(3), actPart("a", vr(0), vr(1)), self, actPart("b", vr(0)), self},
	} {
		expectNoFault(t, defs(0, body...))
	}
	self = callPart(0, vr(0), vr(1), nots(14, vr(2)))
	expectNoFault(t, defs(3, act, self))
	expectNoFault(t, defs(3, again(3, sumPart(7), actPart("a", vr(5), nots(14, vr(3))), self)...))
	expectNoFault(t, []impl.Definition{def("p", 0, act, callPart(3, num(1), num(2))), def("q", 3, stop), def("r", 1, stop), def("s", 2, stop)})
}

func TestBodyFaultShape(t *testing.T) {
	stop, act, choice, guard, sum, self := stopPart(), actPart("a"), choicePart(), guardPart(num(1)), sumPart(1), callPart(0)
	unknown := impl.Part{Kind: 6}
	for _, body := range [][]impl.Part{
		nil, {choice}, {act}, {guard}, {sum}, {choice, stop}, {choice, choice, stop, stop}, {choice, act, stop}, {choice, unknown},
		{stop, stop}, {self, stop}, {unknown, stop}, {act, self, stop}, {act, stop, act, stop}, {choice, stop, stop, stop}, {unknown, unknown},
		{sum, guard, act}, again(20, guard), again(20, guard, stop), again(20, act, self), again(10, choice, again(11, stop)...), again(21, stop),
		again(1000, act), again(5000, choice), again(5000, stop), append(again(19, guard), choice, stop),
	} {
		expectFault(t, defs(0, body...), 0, impl.ReasonShape)
	}
}

// withNumber returns copies of a part with a Number that it has only by mistake.
func withNumber(p impl.Part) []impl.Part {
	var list []impl.Part
	for _, n := range []int64{1, -1, math.MinInt64, math.MaxInt64} {
		p.Number = n
		list = append(list, p)
	}
	return list
}

// withName returns copies of a part with a Name that it has only by mistake.
func withName(p impl.Part) []impl.Part {
	var list []impl.Part
	for _, name := range []string{"a", "tau", "A", " "} {
		p.Name = name
		list = append(list, p)
	}
	return list
}

// withArguments returns copies of a part with Arguments that it has only by mistake.
func withArguments(p impl.Part) []impl.Part {
	var list []impl.Part
	for _, arguments := range [][][]impl.Term{{num(1)}, {nil}, {num(64)}, {num(1), num(1)}, make([][]impl.Term, 1000)} {
		p.Arguments = arguments
		list = append(list, p)
	}
	return list
}

func TestBodyFaultKind(t *testing.T) {
	for _, kind := range []int64{6, 7, -1, math.MinInt64, math.MaxInt64} {
		expectFault(t, defs(0, impl.Part{Kind: kind}), 0, impl.ReasonKind)
		expectFault(t, defs(0, choicePart(), stopPart(), impl.Part{Kind: kind, Name: "a"}), 2, impl.ReasonKind)
		expectFault(t, defs(0, choicePart(), impl.Part{Kind: kind}, impl.Part{Kind: kind}), 1, impl.ReasonKind)
	}
	stop, act, choice, guard, sum, self := stopPart(), actPart("a"), choicePart(), guardPart(num(1)), sumPart(1), callPart(0)
	for _, p := range slices.Concat(withNumber(stop), withName(stop), withArguments(stop)) {
		expectFault(t, defs(0, p), 0, impl.ReasonKind)
	}
	for _, p := range withNumber(act) {
		expectFault(t, defs(0, p, self), 0, impl.ReasonKind)
	}
	for _, p := range slices.Concat(withNumber(choice), withName(choice), withArguments(choice)) {
		expectFault(t, defs(0, p, stop, stop), 0, impl.ReasonKind)
	}
	for _, p := range slices.Concat(withNumber(guard), withName(guard), withName(sum), withArguments(sum)) {
		expectFault(t, defs(0, p, stop), 0, impl.ReasonKind)
	}
	for _, p := range withName(self) {
		expectFault(t, defs(0, act, p), 1, impl.ReasonKind)
	}
}

func TestBodyFaultName(t *testing.T) {
	for _, name := range []string{"", "A", "1a", "aB", "a b", " a", "tau ", "Tau", "a_", "é", "a(1)", "a2345678901", "\xff", strings.Repeat("a", 3000)} {
		expectFault(t, defs(0, actPart(name), stopPart()), 0, impl.ReasonName)
		expectFault(t, defs(0, actPart("a"), actPart(name, num(1)), callPart(0)), 1, impl.ReasonName)
	}
}

func TestBodyFaultNumber(t *testing.T) {
	for _, n := range []int64{0, 8, -1, 64, math.MinInt64, math.MaxInt64} {
		expectFault(t, defs(0, sumPart(n), stopPart()), 0, impl.ReasonNumber)
	}
	for n := int64(1); n <= 7; n++ {
		expectNoFault(t, defs(0, sumPart(n), stopPart()))
	}
	list := []impl.Definition{def("p", 0), def("q", 0, stopPart()), def("r", 0, stopPart()), def("s", 0, stopPart())}
	for count := 1; count <= 4; count++ {
		for _, k := range []int64{-1, 0, 1, 2, 3, 4, math.MinInt64, math.MaxInt64} {
			list[0].Body = []impl.Part{actPart("a"), callPart(k)}
			if k >= 0 && k < int64(count) {
				expectNoFault(t, list[:count])
			} else {
				expectFault(t, list[:count], 1, impl.ReasonNumber)
			}
		}
	}
}

func TestBodyFaultCount(t *testing.T) {
	one, stop := num(1), stopPart()
	expectFault(t, defs(0, actPart("tau", one), stop), 0, impl.ReasonCount)
	expectFault(t, defs(0, actPart("tau", one, one), stop), 0, impl.ReasonCount)
	expectFault(t, defs(0, actPart("a", one, one, one), stop), 0, impl.ReasonCount)
	expectFault(t, defs(0, actPart("a", make([][]impl.Term, 1000)...), stop), 0, impl.ReasonCount)
	expectFault(t, defs(0, impl.Part{Kind: impl.PartGuard}, stop), 0, impl.ReasonCount)
	expectFault(t, defs(0, impl.Part{Kind: impl.PartGuard, Arguments: [][]impl.Term{one, one}}, stop), 0, impl.ReasonCount)
	for parameters := range int64(4) {
		for count := range 5 {
			body := []impl.Part{actPart("a"), callPart(1, slices.Repeat([][]impl.Term{one}, count)...)}
			// The caller's own parameters do not matter.
			for own := range int64(4) {
				list := []impl.Definition{def("p", own, body...), def("q", parameters, stop)}
				if int64(count) == parameters {
					expectNoFault(t, list)
				} else {
					expectFault(t, list, 1, impl.ReasonCount)
				}
			}
		}
	}
}

func TestBodyFaultPlace(t *testing.T) {
	stop, act, choice, guard, sum, self := stopPart(), actPart("a"), choicePart(), guardPart(num(1)), sumPart(1), callPart(0)
	for _, c := range []struct {
		part int
		body []impl.Part
	}{
		{0, []impl.Part{self}}, {1, []impl.Part{guard, self}}, {1, []impl.Part{sum, self}}, {1, []impl.Part{choice, self, stop}}, {2, []impl.Part{choice, stop, self}},
		{1, []impl.Part{choice, self, self}}, {3, []impl.Part{choice, act, self, self}}, {3, []impl.Part{choice, act, stop, self}}, {2, []impl.Part{act, guard, self}},
		{2, []impl.Part{act, sum, self}}, {2, []impl.Part{act, choice, self, stop}}, {4, []impl.Part{act, choice, act, self, self}},
		{4, []impl.Part{choice, act, act, self, self}}, {19, append(again(18, act), guard, self)},
	} {
		expectFault(t, defs(0, c.body...), c.part, impl.ReasonPlace)
	}
}

func TestBodyFaultScope(t *testing.T) {
	sum, stop, choice := sumPart(1), stopPart(), choicePart()
	for parameters := range int64(4) {
		room := int(6 - parameters)
		expectNoFault(t, defs(parameters, again(room, sum, stop)...))
		expectFault(t, defs(parameters, again(room+1, sum, stop)...), room, impl.ReasonScope)
		expectFault(t, defs(parameters, again(13, sum, stop)...), room, impl.ReasonScope)
		// Only the sums to which a part belongs count, whatever stands between them.
		expectNoFault(t, defs(parameters, slices.Concat([]impl.Part{choice}, again(room, sum, stop), again(room, sum, stop))...))
		expectFault(t, defs(parameters, slices.Concat([]impl.Part{choice}, again(room, sum, stop), again(room+1, sum, stop))...), 2*room+2, impl.ReasonScope)
		expectFault(t, defs(parameters, append(again(room, sum), choice, stop, actPart("a"), guardPart(num(1)), sum, stop)...), room+4, impl.ReasonScope)
	}
	expectNoFault(t, defs(0, slices.Concat([]impl.Part{sum, choice}, again(5, sum, stop), again(5, sum, stop))...))
	expectFault(t, defs(0, slices.Concat([]impl.Part{sum, choice}, again(5, sum, stop), again(6, sum, stop))...), 13, impl.ReasonScope)
}

func TestBodyFaultTerm(t *testing.T) {
	one, stop := num(1), stopPart()
	for _, e := range append(noExpressions(), vr(2), nots(15, one), sumOf(8, vr(2)), nots(59, one)) {
		expectFault(t, defs(2, guardPart(e), stop), 0, impl.ReasonTerm)
		expectFault(t, defs(2, actPart("a", e), stop), 0, impl.ReasonTerm)
		expectFault(t, defs(2, actPart("a", one, e), stop), 0, impl.ReasonTerm)
		expectFault(t, defs(2, actPart("a", e, e), stop), 0, impl.ReasonTerm)
		expectFault(t, defs(2, actPart("a", vr(1)), callPart(0, e, one)), 1, impl.ReasonTerm)
		expectFault(t, defs(2, actPart("a", vr(1)), callPart(0, one, e)), 1, impl.ReasonTerm)
	}
	for parameters := range int64(4) {
		expectFault(t, defs(parameters, guardPart(vr(parameters)), stop), 0, impl.ReasonTerm)
		expectNoFault(t, defs(parameters, sumPart(1), guardPart(vr(parameters)), stop))
		expectFault(t, defs(parameters, sumPart(1), guardPart(vr(parameters+1)), stop), 1, impl.ReasonTerm)
		// Behind the parts that belong to a sum, its variable is in scope no longer.
		expectFault(t, defs(parameters, choicePart(), sumPart(1), actPart("a", vr(parameters)), stop, actPart("a", vr(parameters)), stop), 4, impl.ReasonTerm)
	}
	// The call is over the variables of the caller.
	expectFault(t, []impl.Definition{def("p", 0, actPart("a"), callPart(1, vr(0))), def("q", 1, stop)}, 1, impl.ReasonTerm)
	expectNoFault(t, []impl.Definition{def("p", 1, actPart("a"), callPart(1)), def("q", 0, stop)})
}

func TestBodyFaultOrderInOnePart(t *testing.T) {
	stop, act, bad, one := stopPart(), actPart("a"), num(64), num(1)
	deep := func(p impl.Part) []impl.Part { return again(6, sumPart(1), p, stop) }
	three := [][]impl.Term{one, one, bad}
	for _, c := range []struct {
		part, reason int
		body         []impl.Part
	}{
		{0, impl.ReasonShape, []impl.Part{{Kind: 9, Number: 9, Name: "A"}, {Kind: 9}}},
		{0, impl.ReasonShape, []impl.Part{actPart("A", three...)}},
		{0, impl.ReasonShape, []impl.Part{callPart(9, bad), stop}},
		{0, impl.ReasonKind, []impl.Part{{Kind: 9, Number: 9, Name: "A", Arguments: three}}},
		{0, impl.ReasonKind, []impl.Part{{Kind: impl.PartAction, Number: 1, Name: "A"}, stop}},
		{0, impl.ReasonKind, []impl.Part{{Kind: impl.PartAction, Number: 1, Name: "a", Arguments: three}, stop}},
		{0, impl.ReasonKind, []impl.Part{{Kind: impl.PartSum, Number: 8, Name: "a"}, stop}},
		{0, impl.ReasonKind, []impl.Part{{Kind: impl.PartCall, Number: 9, Name: "a", Arguments: three}}},
		{1, impl.ReasonKind, []impl.Part{act, {Kind: impl.PartCall, Name: "a", Arguments: three}}},
		{0, impl.ReasonKind, []impl.Part{{Kind: impl.PartCall, Name: "a"}}},
		{0, impl.ReasonKind, []impl.Part{{Kind: impl.PartGuard, Number: 1, Arguments: three}, stop}},
		{0, impl.ReasonKind, []impl.Part{{Kind: impl.PartGuard, Name: "a", Arguments: [][]impl.Term{bad}}, stop}},
		{6, impl.ReasonKind, deep(impl.Part{Kind: impl.PartSum, Number: 1, Arguments: [][]impl.Term{bad}})},
		{0, impl.ReasonName, []impl.Part{actPart("A", three...), stop}},
		{0, impl.ReasonName, []impl.Part{actPart("", bad), stop}},
		{1, impl.ReasonNumber, []impl.Part{act, callPart(1, bad)}},
		{1, impl.ReasonNumber, []impl.Part{act, callPart(-1, one)}},
		{0, impl.ReasonNumber, []impl.Part{callPart(1)}},
		{0, impl.ReasonNumber, []impl.Part{callPart(math.MaxInt64, bad)}},
		{6, impl.ReasonNumber, deep(sumPart(0))},
		{6, impl.ReasonNumber, deep(sumPart(8))},
		{0, impl.ReasonCount, []impl.Part{callPart(0, bad)}},
		{0, impl.ReasonCount, []impl.Part{callPart(0, one)}},
		{1, impl.ReasonCount, []impl.Part{act, callPart(0, bad)}},
		{0, impl.ReasonCount, []impl.Part{actPart("tau", bad), stop}},
		{0, impl.ReasonCount, []impl.Part{actPart("a", three...), stop}},
		{0, impl.ReasonCount, []impl.Part{{Kind: impl.PartGuard, Arguments: three}, stop}},
		{6, impl.ReasonScope, deep(sumPart(1))},
	} {
		expectFault(t, defs(0, c.body...), c.part, c.reason)
	}
	expectFault(t, defs(1, callPart(0, bad)), 0, impl.ReasonPlace)
	expectFault(t, defs(1, guardPart(vr(0)), callPart(0, vr(1))), 1, impl.ReasonPlace)
	expectFault(t, defs(1, callPart(0)), 0, impl.ReasonCount)
}

func TestBodyFaultOrderInTwoParts(t *testing.T) {
	stop, act, bad := stopPart(), actPart("a"), num(64)
	// Each of these is two valid parts but for one reason in its first one; the first fault is in the first of two pairs.
	faults := []struct {
		reason int
		first  impl.Part
	}{
		{impl.ReasonKind, impl.Part{Kind: impl.PartGuard, Number: 1, Arguments: [][]impl.Term{num(1)}}},
		{impl.ReasonName, actPart("A")},
		{impl.ReasonNumber, sumPart(8)},
		{impl.ReasonCount, actPart("tau", num(1))},
		{impl.ReasonScope, sumPart(2)},
		{impl.ReasonTerm, guardPart(bad)},
	}
	for _, a := range faults {
		for _, b := range faults {
			body := append(again(6, sumPart(1), choicePart()), a.first, stop, b.first, stop)
			expectFault(t, defs(0, body...), 7, a.reason)
			body[7] = act
			expectFault(t, defs(0, body...), 9, b.reason)
			body[9] = act
			expectNoFault(t, defs(0, body...))
			// The shape is checked in all parts before anything else is.
			expectFault(t, defs(0, append(again(6, sumPart(1), choicePart()), a.first, b.first)...), 0, impl.ReasonShape)
		}
		expectFault(t, defs(0, append(again(6, sumPart(1), choicePart()), callPart(0), a.first, stop)...), 7, impl.ReasonPlace)
		expectFault(t, defs(0, append(again(6, sumPart(1), choicePart()), a.first, callPart(0), impl.Part{Kind: 9})...), 7, a.reason)
	}
}

func TestBodyFaultOfOneOfTwoDefinitions(t *testing.T) {
	list := []impl.Definition{
		def("p", 1, guardPart(vr(1)), stopPart()), def("q", 2, choicePart(), stopPart(), actPart("A"), stopPart()), def("q", 0), def("", 3, actPart("a"), callPart(2)),
	}
	expect(t, impl.BodyFault, in(list, 0), 0, impl.ReasonTerm, impl.OK)
	expect(t, impl.BodyFault, in(list, 1), 2, impl.ReasonName, impl.OK)
	expect(t, impl.BodyFault, in(list, 2), 0, impl.ReasonShape, impl.OK)
	// The other bodies, and all Names, may be invalid.
	expect(t, impl.BodyFault, in(list, 3), 0, 0, impl.ErrNotFound)
	expect(t, impl.ValidDefinitions, in(list), false)
}

func TestBodyFaultErrors(t *testing.T) {
	good := def("p", 0, stopPart())
	for _, count := range []int{5, 6, 1000} {
		for _, d := range []impl.Definition{good, {}, def("", -1), def("p", 4, callPart(9))} {
			list := slices.Repeat([]impl.Definition{d}, count)
			for _, k := range []int64{0, 4, -1, math.MinInt64, math.MaxInt64} {
				expect(t, impl.BodyFault, in(list, k), 0, 0, impl.ErrFull)
			}
		}
	}
	for count := range 5 {
		for _, d := range []impl.Definition{good, {}, def("", -1), def("p", 4, callPart(9))} {
			list := slices.Repeat([]impl.Definition{d}, count)
			for _, k := range []int64{int64(count), -1, math.MinInt64, math.MaxInt64} {
				expect(t, impl.BodyFault, in(list, k), 0, 0, impl.ErrRange)
			}
		}
	}
	for _, parameters := range []int64{-1, 4, math.MinInt64, math.MaxInt64} {
		for wrong := range 3 {
			list := []impl.Definition{good, def("q", 1), def("r", 3, stopPart())}
			list[wrong].Parameters = parameters
			for k := range 3 {
				expect(t, impl.BodyFault, in(list, k), 0, 0, impl.ErrRange)
			}
		}
	}
	expect(t, impl.BodyFault, in(nil, 0), 0, 0, impl.ErrRange)
}

func TestValidDefinitions(t *testing.T) {
	stop := stopPart()
	four := []impl.Definition{def("p", 0, stop), def("q", 1, stop), def("r", 2, stop), def("s", 3, stop)}
	expect(t, impl.ValidDefinitions, in(nil), false)
	for count := 1; count <= 4; count++ {
		expect(t, impl.ValidDefinitions, in(four[:count]), true)
	}
	expect(t, impl.ValidDefinitions, in(append(copied(four), def("t", 0, stop))), false)
	expect(t, impl.ValidDefinitions, in(make([]impl.Definition, 5000)), false)
	for k := range four {
		for _, change := range []func(d *impl.Definition){
			func(d *impl.Definition) { d.Name = "" },
			func(d *impl.Definition) { d.Name = "P" },
			func(d *impl.Definition) { d.Name = "a2345678901" },
			func(d *impl.Definition) { d.Name = four[(k+1)%4].Name },
			func(d *impl.Definition) { d.Name = four[(k+3)%4].Name },
			func(d *impl.Definition) { d.Parameters = -1 },
			func(d *impl.Definition) { d.Parameters = 4 },
			func(d *impl.Definition) { d.Body = nil },
			func(d *impl.Definition) { d.Body = append(d.Body, stop) },
			func(d *impl.Definition) { d.Body = []impl.Part{actPart("a"), callPart(4)} },
			func(d *impl.Definition) { d.Body = []impl.Part{actPart("a"), callPart(0, num(1))} },
		} {
			list := copied(four)
			change(&list[k])
			expect(t, impl.ValidDefinitions, in(list), false)
		}
	}
	// A definition, unlike an action, may be named tau, and as an action is.
	expect(t, impl.ValidDefinitions, in([]impl.Definition{def("tau", 0, actPart("a"), callPart(1)), def("a", 0, actPart("a"), callPart(0))}), true)
	expect(t, impl.ValidDefinitions, in([]impl.Definition{def("a2345678z0", 0, stop), def("a2345678z1", 0, stop)}), true)
}
