package tests

import (
	"math"
	"slices"
	"strings"
	"testing"

	"loop.example/g01075/impl"
)

// A changeOfSystem makes a change of a valid system.
type changeOfSystem func(s *impl.System)

// faultyChanges returns, for each fault, changes that break its rule and no other one in the example.
func faultyChanges() map[int64][]changeOfSystem {
	return map[int64][]changeOfSystem{
		impl.FaultDefinitions: faultyDefinitions(),
		impl.FaultComponents:  faultyComponents(),
		impl.FaultMeetings:    faultyMeetings(),
		impl.FaultAllowed:     faultyNames(func(s *impl.System, names []string) { s.Allowed = names }),
		impl.FaultHidden:      faultyNames(func(s *impl.System, names []string) { s.Hidden = names }),
	}
}

func faultyDefinitions() []changeOfSystem {
	return []changeOfSystem{
		func(s *impl.System) { s.Definitions = nil },
		func(s *impl.System) { s.Definitions = append(s.Definitions, def("fifth", 0, stopPart())) },
		func(s *impl.System) { s.Definitions[0].Name = "send" },
		func(s *impl.System) { s.Definitions[3].Name = "" },
		func(s *impl.System) { s.Definitions[0].Parameters = 4 },
		func(s *impl.System) { s.Definitions[0].Body = nil },
		func(s *impl.System) { s.Definitions[2].Body[3].Number = 4 },
		func(s *impl.System) { s.Definitions[3].Body[6].Arguments[1] = vr(2) },
		func(s *impl.System) { s.Definitions[1].Body[0].Number = 1 },
	}
}

func faultyComponents() []changeOfSystem {
	list := []changeOfSystem{
		func(s *impl.System) { s.Components = nil },
		func(s *impl.System) { s.Components = append(s.Components, impl.Component{Definition: 1}) },
		func(s *impl.System) { s.Components = make([]impl.Component, 1000) },
		func(s *impl.System) { s.Components[1].Values = []int64{1} },
		func(s *impl.System) { s.Components[2].Values = nil },
		func(s *impl.System) { s.Components[2].Values = []int64{1, 1} },
		func(s *impl.System) { s.Components[2].Values = repeated(1000, 1) },
		func(s *impl.System) { s.Components = []impl.Component{{Definition: 1}, {Definition: 3}} },
	}
	for _, k := range []int64{-1, 4, math.MinInt64, math.MaxInt64} {
		list = append(list, func(s *impl.System) { s.Components[0].Definition = k }, func(s *impl.System) { s.Components[2].Definition = k })
	}
	for _, v := range []int64{-1, 64, math.MinInt64, math.MaxInt64} {
		list = append(list, func(s *impl.System) { s.Components[2].Values[0] = v })
	}
	return list
}

// meetings returns meetings from texts of three names.
func meetings(texts ...string) []impl.Meeting {
	var list []impl.Meeting
	for _, text := range texts {
		names := strings.Split(text, " ")
		list = append(list, impl.Meeting{Left: names[0], Right: names[1], Result: names[2]})
	}
	return list
}

// noMeetings returns lists that are not as in a valid system.
func noMeetings() [][]impl.Meeting {
	return [][]impl.Meeting{
		meetings("b a c"), meetings("a b c", "d c e"),
		meetings("a b c", "a b c"), meetings("a b c", "a b d"), meetings("a c z", "a b z"), meetings("b b z", "a c z"), meetings("b b z", "a b z"), meetings("ab b z", "a b z"),
		meetings("a b a"), meetings("a b b"), meetings("a a a"), meetings("a b c", "c d e"), meetings("a b c", "b c e"), meetings("a b e", "c d b"), meetings("a b e", "c d a"),
		meetings("tau tau c"), meetings("a tau c"), meetings("a b tau"), meetings("a tau tau"), meetings("a B c"), meetings("A b c"), meetings("a b C"),
		meetings("1 b c"), meetings(" b c"), meetings("a  c"), meetings("a b "), meetings("a b a2345678901"), meetings("a a2345678901 c"), meetings("a b c(1)"),
		meetings("a b z", "a c z", "a d z", "a e z", "a f z", "a g z", "a h z"), make([]impl.Meeting, 1), make([]impl.Meeting, 1000),
	}
}

func faultyMeetings() []changeOfSystem {
	var changes []changeOfSystem
	for _, list := range noMeetings() {
		changes = append(changes, func(s *impl.System) { s.Meetings = list })
	}
	return changes
}

// manyNames returns n names in order.
func manyNames(n int) []string {
	var names []string
	for i := range n {
		names = append(names, "n"+string(rune('a'+i)))
	}
	return names
}

// noActionLists returns lists that are not strictly increasing ones of at most MaxNames names of actions.
func noActionLists() [][]string {
	return [][]string{
		{"tau"}, {"a", "tau"}, {""}, {"A"}, {"a", "1"}, {"a(1)"}, {"a2345678901"}, {"a", "a"}, {"b", "a"}, {"a", "c", "b"}, {"ab", "a"}, {"a", "a0", "aa", "a1"},
		manyNames(13), append(manyNames(12), "z"), make([]string, 1000),
	}
}

func faultyNames(put func(s *impl.System, names []string)) []changeOfSystem {
	var changes []changeOfSystem
	for _, names := range noActionLists() {
		changes = append(changes, func(s *impl.System) { put(s, names) })
	}
	return changes
}

func TestSystemFaultOfValidSystems(t *testing.T) {
	stop := stopPart()
	for _, change := range []changeOfSystem{
		func(s *impl.System) {},
		func(s *impl.System) { s.Components = s.Components[:1] },
		func(s *impl.System) {
			s.Components = slices.Repeat([]impl.Component{{Definition: 0, Values: []int64{63}}}, 3)
		},
		func(s *impl.System) { s.Components[2].Values[0] = 0 },
		func(s *impl.System) { s.Meetings, s.Allowed, s.Hidden = nil, nil, nil },
		func(s *impl.System) { s.Meetings = meetings("a a b", "a c b", "a d e", "c c b", "c d b", "d d e") },
		// The order is that of bytes: a digit is less than a letter, and a name less than a longer one that begins with it.
		func(s *impl.System) { s.Meetings = meetings("a a0 z", "a aa z", "a0 a0 z", "aa aa z") },
		// Names need not occur in the definitions, and Results need not be allowed, nor hidden names.
		func(s *impl.System) {
			s.Meetings, s.Allowed, s.Hidden = meetings("x y z"), []string{"x", "y0", "ya"}, []string{"u", "v", "w"}
		},
		func(s *impl.System) { s.Allowed, s.Hidden = manyNames(12), manyNames(12) },
		func(s *impl.System) {
			*s = impl.System{Definitions: []impl.Definition{def("p", 0, stop)}, Components: []impl.Component{{}}}
		},
		func(s *impl.System) {
			*s = impl.System{Definitions: []impl.Definition{def("p", 3, stop)}, Components: []impl.Component{{Values: []int64{0, 63, 1}}}}
		},
	} {
		s := copied(example())
		change(&s)
		expect(t, impl.SystemFault, in(s), 0)
		expect(t, impl.ValidSystem, in(s), true)
	}
}

func TestSystemFault(t *testing.T) {
	for fault, changes := range faultyChanges() {
		for i, change := range changes {
			s := copied(example())
			change(&s)
			if got := impl.SystemFault(s); got != fault {
				t.Errorf("fault %d, change %d: %d", fault, i, got)
			}
			expect(t, impl.SystemFault, in(s), fault)
			expect(t, impl.ValidSystem, in(s), false)
		}
	}
	expect(t, impl.SystemFault, in(impl.System{}), impl.FaultDefinitions)
	expect(t, impl.ValidSystem, in(impl.System{}), false)
}

// TestSystemFaultOrder breaks two rules at once, and then all rules from one on.
func TestSystemFaultOrder(t *testing.T) {
	all := faultyChanges()
	for first := int64(impl.FaultDefinitions); first <= impl.FaultHidden; first++ {
		for second := first + 1; second <= impl.FaultHidden; second++ {
			for _, a := range all[first] {
				for _, b := range all[second] {
					s := copied(example())
					// Changes of components look at those of the example.
					b(&s)
					a(&s)
					if got := impl.SystemFault(s); got != first {
						t.Fatalf("faults %d and %d: %d in %+v", first, second, got, s)
					}
				}
			}
		}
		s := copied(example())
		for fault := first; fault <= impl.FaultHidden; fault++ {
			all[fault][0](&s)
		}
		expect(t, impl.SystemFault, in(s), first)
	}
}

func TestSameSystem(t *testing.T) {
	expect(t, impl.SameSystem, in(example(), example()), true)
	expect(t, impl.SameSystem, in(impl.System{}, impl.System{}), true)
	expect(t, impl.SameSystem, in(impl.System{}, copied(impl.System{})), true)
	expect(t, impl.SameSystem, in(example(), impl.System{}), false)
	// Nil and empty slices are equal at every depth.
	if !impl.SameSystem(example(), copied(example())) || !impl.SameSystem(copied(example()), example()) {
		t.Error("nil and empty slices")
	}
	for i, change := range []changeOfSystem{
		func(s *impl.System) { s.Definitions = s.Definitions[:3] },
		func(s *impl.System) { s.Definitions[2].Name = "other" },
		func(s *impl.System) { s.Definitions[2].Parameters = 1 },
		func(s *impl.System) { s.Definitions[2].Body = s.Definitions[2].Body[:3] },
		func(s *impl.System) { s.Definitions[3].Body[7].Kind = 9 },
		func(s *impl.System) { s.Definitions[3].Body[0].Number = 6 },
		func(s *impl.System) { s.Definitions[3].Body[4].Name = "a" },
		func(s *impl.System) { s.Definitions[3].Body[6].Arguments = s.Definitions[3].Body[6].Arguments[:1] },
		func(s *impl.System) { s.Definitions[3].Body[6].Arguments[1][0].Kind = 0 },
		func(s *impl.System) { s.Definitions[3].Body[5].Arguments[0][2].Value = 0 },
		func(s *impl.System) {
			s.Definitions[3].Body[6].Arguments[1] = append(s.Definitions[3].Body[6].Arguments[1], impl.Term{})
		},
		func(s *impl.System) { s.Components = s.Components[:2] },
		func(s *impl.System) { s.Components[0].Definition = 2 },
		func(s *impl.System) { s.Components[2].Values[0] = 6 },
		func(s *impl.System) { s.Components[2].Values = nil },
		func(s *impl.System) { s.Components[0], s.Components[1] = s.Components[1], s.Components[0] },
		func(s *impl.System) { s.Meetings = s.Meetings[:1] },
		func(s *impl.System) { s.Meetings[1].Left = "a" },
		func(s *impl.System) { s.Meetings[1].Right = "a" },
		func(s *impl.System) { s.Meetings[1].Result = "a" },
		func(s *impl.System) { s.Allowed[2] = "a" },
		func(s *impl.System) { s.Allowed = nil },
		func(s *impl.System) { s.Hidden[0] = "a" },
		func(s *impl.System) { s.Hidden = append(s.Hidden, "a") },
		func(s *impl.System) { s.Allowed, s.Hidden = s.Hidden, s.Allowed },
	} {
		s := copied(example())
		change(&s)
		if impl.SameSystem(example(), s) {
			t.Error("change", i, "is not seen")
		}
		expect(t, impl.SameSystem, in(example(), s), false)
		expect(t, impl.SameSystem, in(s, example()), false)
		expect(t, impl.SameSystem, in(s, s), true)
	}
}

func TestPartEndAndScopeAt(t *testing.T) {
	list := example().Definitions
	ends := [][]int64{{3, 3, 3}, {5, 3, 3, 5, 5}, {4, 4, 4, 4}, {8, 8, 6, 6, 6, 6, 8, 8}}
	scopes := [][]int64{{1, 1, 1}, {0, 0, 0, 0, 0}, {0, 1, 1, 1}, {1, 2, 2, 2, 2, 2, 2, 2}}
	for k, d := range list {
		for part := range d.Body {
			expect(t, impl.PartEnd, in(list, k, part), ends[k][part], impl.OK)
			expect(t, impl.ScopeAt, in(list, k, part), scopes[k][part], impl.OK)
		}
	}
	// A variable is in scope behind its sum, up to the end of the parts that belong to it.
	body := []impl.Part{choicePart(), sumPart(1), choicePart(), sumPart(1), stopPart(), stopPart(), choicePart(), stopPart(), sumPart(1), actPart("a"), stopPart()}
	for part, want := range []int64{11, 6, 6, 5, 5, 6, 11, 8, 11, 11, 11} {
		expect(t, impl.PartEnd, in(defs(2, body...), 0, part), want, impl.OK)
	}
	for part, want := range []int64{2, 2, 3, 3, 4, 3, 2, 2, 2, 3, 3} {
		expect(t, impl.ScopeAt, in(defs(2, body...), 0, part), want, impl.OK)
	}
	expect(t, impl.PartEnd, in(defs(0, again(19, actPart("a"), stopPart())...), 0, 0), 20, impl.OK)
	expect(t, impl.PartEnd, in(defs(0, again(19, actPart("a"), stopPart())...), 0, 19), 20, impl.OK)
	expect(t, impl.ScopeAt, in(defs(3, again(3, sumPart(1), stopPart())...), 0, 3), 6, impl.OK)
}

// invalidDefinitions returns definitions that are not valid; each is wrong in another way.
func invalidDefinitions() [][]impl.Definition {
	var lists [][]impl.Definition
	for _, change := range faultyDefinitions() {
		s := copied(example())
		change(&s)
		lists = append(lists, s.Definitions)
	}
	return append(lists, make([]impl.Definition, 1), make([]impl.Definition, 1000))
}

func TestErrorsOfFunctionsOfDefinitions(t *testing.T) {
	list := example().Definitions
	numbers := []int64{-1, 4, math.MinInt64, math.MaxInt64}
	for _, k := range numbers {
		for _, part := range append(numbers, 0) {
			expect(t, impl.PartEnd, in(list, k, part), 0, impl.ErrRange)
			expect(t, impl.ScopeAt, in(list, k, part), 0, impl.ErrRange)
		}
		expect(t, impl.CallsOf, in(list, k), nil, impl.ErrRange)
		expect(t, impl.ActionNames, in(list, k), nil, impl.ErrRange)
	}
	for k, d := range list {
		for _, part := range []int{-1, len(d.Body), len(d.Body) + 1, math.MinInt64, math.MaxInt64} {
			expect(t, impl.PartEnd, in(list, k, part), 0, impl.ErrRange)
			expect(t, impl.ScopeAt, in(list, k, part), 0, impl.ErrRange)
		}
	}
	for _, list := range invalidDefinitions() {
		for _, k := range []int64{0, 3, 4, -1} {
			for _, part := range []int64{0, -1, 20} {
				expect(t, impl.PartEnd, in(list, k, part), 0, impl.ErrInvalid)
				expect(t, impl.ScopeAt, in(list, k, part), 0, impl.ErrInvalid)
			}
			expect(t, impl.CallsOf, in(list, k), nil, impl.ErrInvalid)
			expect(t, impl.ActionNames, in(list, k), nil, impl.ErrInvalid)
		}
	}
}

func TestCallsOfAndActionNames(t *testing.T) {
	list := example().Definitions
	for k, want := range [][]int64{{0}, {1}, {2}, {3}} {
		expect(t, impl.CallsOf, in(list, k), want, impl.OK)
	}
	for k, want := range [][]string{{"crash"}, {"put"}, {"get", "pass"}, {"show", "take"}} {
		expect(t, impl.ActionNames, in(list, k), want, impl.OK)
	}
	choice := choicePart()
	list = []impl.Definition{
		def("p", 0, choice, actPart("b"), callPart(3), choice, actPart("b10"), actPart("tau"), callPart(1), choice, actPart("a", num(1)), callPart(3), actPart("b2"), stopPart()),
		def("q", 0, stopPart()), def("r", 0, actPart("tau"), stopPart()), def("s", 0, actPart("a"), callPart(0)),
	}
	expect(t, impl.CallsOf, in(list, 0), []int64{1, 3}, impl.OK)
	expect(t, impl.ActionNames, in(list, 0), []string{"a", "b", "b10", "b2"}, impl.OK)
	for _, k := range []int64{1, 2} {
		expect(t, impl.CallsOf, in(list, k), nil, impl.OK)
		expect(t, impl.ActionNames, in(list, k), nil, impl.OK)
	}
}

// invalidSystems returns systems that are not valid; each is wrong in another way.
func invalidSystems() []impl.System {
	list := []impl.System{{}}
	for _, changes := range faultyChanges() {
		for _, change := range changes {
			s := copied(example())
			change(&s)
			list = append(list, s)
		}
	}
	return list
}

func TestErrorsOfFunctionsOfSystems(t *testing.T) {
	for _, s := range invalidSystems() {
		expect(t, impl.UsedDefinitions, in(s), nil, impl.ErrInvalid)
		expect(t, impl.PruneSystem, in(s), nil, impl.ErrInvalid)
		expect(t, impl.MeetingOf, in(s, "get", "put"), nil, impl.ErrInvalid)
		expect(t, impl.MeetingOf, in(s, "", ""), nil, impl.ErrInvalid)
	}
}

// chain is a system with four definitions, of which each calls the ones that are given, and these components.
func chain(calls [4][]int64, components ...int64) impl.System {
	var s impl.System
	for k, name := range []string{"p", "q", "r", "s"} {
		body := []impl.Part{stopPart()}
		for _, called := range calls[k] {
			body = append([]impl.Part{choicePart(), actPart(name), callPart(called, vr(0))}, body...)
		}
		s.Definitions = append(s.Definitions, def(name, 1, body...))
	}
	for _, k := range components {
		s.Components = append(s.Components, impl.Component{Definition: k, Values: []int64{k}})
	}
	return s
}

func TestUsedDefinitions(t *testing.T) {
	for _, c := range []struct {
		calls      [4][]int64
		components []int64
		want       []int64
	}{
		{[4][]int64{}, []int64{0}, []int64{0}},
		{[4][]int64{}, []int64{3}, []int64{3}},
		{[4][]int64{}, []int64{3, 0, 3}, []int64{0, 3}},
		{[4][]int64{{1}, {2}, {3}, {0}}, []int64{2}, []int64{0, 1, 2, 3}},
		{[4][]int64{{1}, {2}, {3}, {3}}, []int64{2}, []int64{2, 3}},
		{[4][]int64{{0}, {0, 1}, {1}, {2}}, []int64{2}, []int64{0, 1, 2}},
		{[4][]int64{{1, 3}, {1}, {0, 1, 2, 3}, {}}, []int64{0}, []int64{0, 1, 3}},
		{[4][]int64{{2}, {3}, {0}, {1}}, []int64{3}, []int64{1, 3}},
		{[4][]int64{{2}, {3}, {0}, {1}}, []int64{1, 0}, []int64{0, 1, 2, 3}},
		{[4][]int64{{3, 2, 1}, {}, {}, {}}, []int64{0, 0, 0}, []int64{0, 1, 2, 3}},
	} {
		s := chain(c.calls, c.components...)
		expect(t, impl.UsedDefinitions, in(s), c.want, impl.OK)
		pruned := call(t, impl.PruneSystem, s)[0].(impl.System)
		expect(t, impl.UsedDefinitions, in(pruned), counted(len(c.want)), impl.OK)
	}
	expect(t, impl.UsedDefinitions, in(example()), []int64{1, 2, 3}, impl.OK)
}

func TestPruneSystem(t *testing.T) {
	want := example()
	want.Definitions = want.Definitions[1:]
	want.Definitions[0].Body[2].Number, want.Definitions[0].Body[4].Number = 0, 0
	want.Definitions[1].Body[3].Number = 1
	want.Definitions[2].Body[5].Number = 2
	want.Components = []impl.Component{{Definition: 0}, {Definition: 1}, {Definition: 2, Values: []int64{5}}}
	expect(t, impl.PruneSystem, in(example()), want, impl.OK)
	expect(t, impl.PruneSystem, in(want), want, impl.OK)
	// Numbers of sums are no calls, and stay.
	s := impl.System{
		Definitions: []impl.Definition{def("p", 0, stopPart()), def("q", 0, sumPart(1), actPart("a"), callPart(3)), def("r", 0, stopPart()), def("s", 0, sumPart(3), actPart("a", vr(0)), callPart(1))},
		Components:  []impl.Component{{Definition: 3}, {Definition: 1}},
		Meetings:    meetings("x x y"), Allowed: []string{"crash"}, Hidden: []string{"none"},
	}
	want = impl.System{
		Definitions: []impl.Definition{def("q", 0, sumPart(1), actPart("a"), callPart(1)), def("s", 0, sumPart(3), actPart("a", vr(0)), callPart(0))},
		Components:  []impl.Component{{Definition: 1}, {Definition: 0}},
		Meetings:    meetings("x x y"), Allowed: []string{"crash"}, Hidden: []string{"none"},
	}
	expect(t, impl.PruneSystem, in(s), want, impl.OK)
	whole := chain([4][]int64{{1}, {2}, {3}, {0}}, 1)
	expect(t, impl.PruneSystem, in(whole), whole, impl.OK)
}

// TestPromise1SystemsAreTheCallers changes the result of PruneSystem, which must change neither the argument nor later results.
func TestPromise1SystemsAreTheCallers(t *testing.T) {
	given := copied(example())
	first, _ := impl.PruneSystem(given)
	second, _ := impl.PruneSystem(given)
	for _, d := range first.Definitions {
		for i := range d.Body {
			for _, e := range d.Body[i].Arguments {
				clear(e)
			}
			clear(d.Body[i].Arguments)
		}
		clear(d.Body)
	}
	for _, c := range first.Components {
		clear(c.Values)
	}
	clear(first.Definitions)
	clear(first.Components)
	clear(first.Meetings)
	clear(first.Allowed)
	clear(first.Hidden)
	third, _ := impl.PruneSystem(given)
	if !same(given, example()) || !same(second, third) || len(third.Definitions) != 3 {
		t.Errorf("%+v %+v %+v", given, second, third)
	}
}

func TestMeetingOf(t *testing.T) {
	s := copied(example())
	s.Meetings = meetings("a a one", "a b two", "a0 b one", "b b three", "b c two")
	for _, row := range [][]string{{"a", "a", "one"}, {"a", "b", "two"}, {"b", "a", "two"}, {"b", "a0", "one"}, {"a0", "b", "one"}, {"b", "b", "three"}, {"c", "b", "two"}} {
		expect(t, impl.MeetingOf, in(s, row[0], row[1]), row[2], impl.OK)
	}
	for _, row := range [][]string{{"c", "c"}, {"a", "c"}, {"c", "a"}, {"a", "a0"}, {"one", "two"}, {"", ""}, {"a", ""}, {"", "b"}, {"tau", "tau"}, {"a", "B"}, {"\xff", "a"}, {"a", "b "}} {
		expect(t, impl.MeetingOf, in(s, row[0], row[1]), nil, impl.ErrNotFound)
	}
	expect(t, impl.MeetingOf, in(example(), "put", "get"), "in", impl.OK)
	expect(t, impl.MeetingOf, in(example(), "get", "put"), "in", impl.OK)
	expect(t, impl.MeetingOf, in(example(), "get", "get"), nil, impl.ErrNotFound)
	s.Meetings = nil
	expect(t, impl.MeetingOf, in(s, "a", "b"), nil, impl.ErrNotFound)
}

// TestExampleOfChapter5 takes the example of the document: a definition that does a again and again.
func TestExampleOfChapter5(t *testing.T) {
	list := defs(0, actPart("a"), callPart(0))
	expectNoFault(t, list)
	expect(t, impl.PartEnd, in(list, 0, 0), 2, impl.OK)
	expect(t, impl.PartEnd, in(list, 0, 1), 2, impl.OK)
	expect(t, impl.CallsOf, in(list, 0), []int64{0}, impl.OK)
	expect(t, impl.ActionNames, in(list, 0), []string{"a"}, impl.OK)
	s := impl.System{Definitions: list, Components: []impl.Component{{}}, Allowed: []string{"a"}}
	start := startOf(s)
	if got := movesOf(s, start); !same(got, []impl.Move{{Label: "a", First: 0, Second: -1, State: start}}) {
		t.Error(got)
	}
}
