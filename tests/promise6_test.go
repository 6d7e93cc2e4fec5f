package tests

import (
	"math/rand/v2"
	"slices"
	"testing"

	"loop.example/g01075/impl"
)

// randomSystems returns valid systems, the same ones in every run.
func randomSystems(n int) []impl.System {
	m := maker{r: rand.New(rand.NewPCG(17, 18))}
	var list []impl.System
	for range n {
		list = append(list, m.system())
	}
	return list
}

// canComeTo returns the definitions from which one is called by calls, found by repeating until nothing is added.
func canComeTo(s impl.System) []int64 {
	var used []int64
	for k := range s.Definitions {
		if slices.ContainsFunc(s.Components, func(c impl.Component) bool { return c.Definition == int64(k) }) {
			used = append(used, int64(k))
		}
	}
	for before := 0; before < len(used); {
		before = len(used)
		for k := range s.Definitions {
			called := slices.ContainsFunc(used, func(by int64) bool {
				return slices.ContainsFunc(s.Definitions[by].Body, func(p impl.Part) bool { return p.Kind == impl.PartCall && p.Number == int64(k) })
			})
			if called && !slices.Contains(used, int64(k)) {
				used = append(used, int64(k))
			}
		}
	}
	slices.Sort(used)
	return used
}

func TestPromise6UnusedDefinitionsMayBeRemoved(t *testing.T) {
	t.Parallel()
	removed, moves, meetings := 0, 0, 0
	for _, s := range append(randomSystems(400), example()) {
		used := canComeTo(s)
		expect(t, impl.UsedDefinitions, in(s), used, impl.OK)
		results := call(t, impl.PruneSystem, s)
		pruned := results[0].(impl.System)
		if results[1] != int64(impl.OK) || !impl.ValidSystem(pruned) || len(pruned.Definitions) != len(used) {
			t.Fatalf("%+v: %+v", s, results)
		}
		for _, state := range firstStates(s, 12) {
			got, want := movesOf(pruned, renumbered(state, used)), movesOf(s, state)
			for i := range want {
				meetings += int(oneIf(want[i].Second >= 0))
				want[i].State = renumbered(want[i].State, used)
			}
			if !same(got, want) {
				t.Fatalf("%+v in %+v: %+v, and pruned %+v", s, state, want, got)
			}
			if found, code := impl.MovesOf(pruned, renumbered(state, used)); !same(found, want) || code != impl.OK {
				t.Fatalf("%+v in %+v: %+v, and pruned %+v, code %d", s, state, want, found, code)
			}
			moves += len(want)
		}
		if !same(startOf(pruned), renumbered(startOf(s), used)) {
			t.Errorf("%+v starts with %+v", pruned, startOf(pruned))
		}
		removed += len(s.Definitions) - len(used)
	}
	if removed < 100 || moves < 2000 || meetings < 200 {
		t.Error("too few cases:", removed, "definitions,", moves, "moves,", meetings, "meetings")
	}
}

// TestPromise6OnlyDefinitionsAreChanged repeats what pruning is: the used definitions stay in order, with other calls.
func TestPromise6OnlyDefinitionsAreChanged(t *testing.T) {
	for _, s := range randomSystems(400) {
		used := canComeTo(s)
		want := copied(s)
		want.Definitions = nil
		for _, k := range used {
			d := copied(s.Definitions[k])
			for i, p := range d.Body {
				if p.Kind == impl.PartCall {
					d.Body[i].Number = int64(slices.Index(used, p.Number))
				}
			}
			want.Definitions = append(want.Definitions, d)
		}
		for i, c := range s.Components {
			want.Components[i].Definition = int64(slices.Index(used, c.Definition))
		}
		expect(t, impl.PruneSystem, in(s), want, impl.OK)
		expect(t, impl.PruneSystem, in(want), want, impl.OK)
		expect(t, impl.SameSystem, in(s, want), len(used) == len(s.Definitions))
	}
}

// spoiled returns a body with one random change, which seldom leaves it valid.
func spoiled(r *rand.Rand, body []impl.Part) []impl.Part {
	body = copied(body)
	i := r.IntN(len(body))
	p := &body[i]
	switch r.IntN(10) {
	case 0:
		p.Kind = r.Int64N(8) - 1
	case 1:
		p.Number = r.Int64N(10) - 1
	case 2:
		p.Name = []string{"", "tau", "a", "A"}[r.IntN(4)]
	case 3:
		p.Arguments = append(p.Arguments, randomExpression(r, 1+r.IntN(16), 3))
	case 4:
		p.Arguments = p.Arguments[:len(p.Arguments)-min(1, len(p.Arguments))]
	case 5:
		if len(p.Arguments) > 0 {
			p.Arguments[r.IntN(len(p.Arguments))] = vr(r.Int64N(8))
		}
	case 6:
		return slices.Delete(body, i, i+1)
	case 7, 8:
		return slices.Insert(body, i, again(1+r.IntN(6), sumPart(1+r.Int64N(2)))...)
	case 9:
		return slices.Insert(body, i, body[r.IntN(len(body))])
	}
	return body
}

// checkFault compares the fault of a body with that of the definition, and returns the latter's reason.
func checkFault(t *testing.T, list []impl.Definition, k int) int64 {
	t.Helper()
	wantPart, wantReason := firstFault(list, k)
	wantCode := int64(impl.OK)
	if wantReason == 0 {
		wantCode = impl.ErrNotFound
	}
	part, reason, code := impl.BodyFault(list, int64(k))
	if part != wantPart || reason != wantReason || code != wantCode {
		t.Fatalf("BodyFault(%+v, %d) is %d, %d, %d; want %d, %d", list, k, part, reason, code, wantPart, wantReason)
	}
	return wantReason
}

func TestPromise6FaultsAreThoseOfTheDefinition(t *testing.T) {
	t.Parallel()
	m := maker{r: rand.New(rand.NewPCG(19, 20))}
	var seen [9]int
	for i := range 20000 {
		list := m.definitions()
		for k := range list {
			for range m.r.IntN(4) {
				if len(list[k].Body) > 0 {
					list[k].Body = spoiled(m.r, list[k].Body)
				}
			}
		}
		valid := true
		for k := range list {
			reason := checkFault(t, list, k)
			seen[reason]++
			valid = valid && reason == 0
		}
		if impl.ValidDefinitions(list) != valid {
			t.Fatalf("ValidDefinitions(%+v) is not %v", list, valid)
		}
		if i%50 == 0 {
			call(t, impl.BodyFault, list, 0)
			call(t, impl.ValidDefinitions, list)
		}
	}
	for reason, times := range seen {
		if times < 100 {
			t.Error("too few bodies with reason", reason, times)
		}
	}
}

// TestPromise6SmallBodies takes all bodies of at most four of some parts, most of which are not valid.
func TestPromise6SmallBodies(t *testing.T) {
	parts := []impl.Part{
		stopPart(), actPart("a"), actPart("a", vr(3)), actPart("A", vr(9)), actPart("tau", num(1)), choicePart(), guardPart(vr(3)), sumPart(1), sumPart(8),
		callPart(0, num(1), num(1), num(1)), callPart(0), callPart(1), {Kind: 6}, {Kind: impl.PartStop, Number: 1},
	}
	bodies := [][]impl.Part{nil}
	for range 5 {
		var longer [][]impl.Part
		for _, body := range bodies {
			list := defs(3, body...)
			if valid := checkFault(t, list, 0) == 0; impl.ValidDefinitions(list) != valid {
				t.Fatalf("ValidDefinitions(%+v) is not %v", list, valid)
			}
			for _, p := range parts {
				longer = append(longer, append(slices.Clone(body), p))
			}
		}
		bodies = longer
	}
}

func TestPromise6EndsAndScopesAreThoseOfTheDefinition(t *testing.T) {
	deepest := int64(0)
	for _, s := range randomSystems(400) {
		list := s.Definitions
		for k, d := range list {
			for part := range d.Body {
				end, code := impl.PartEnd(list, int64(k), int64(part))
				scope, other := impl.ScopeAt(list, int64(k), int64(part))
				if end != int64(endOf(d.Body, part)) || scope != scopeOf(d, part) || code != impl.OK || other != impl.OK {
					t.Fatalf("part %d of %+v: %d, %d, %d, %d", part, d, end, code, scope, other)
				}
				deepest = max(deepest, scope)
			}
		}
	}
	if deepest < impl.MaxVariables {
		t.Error("the greatest scope is", deepest)
	}
}

func TestPromise6CallsAndNamesAreThoseOfTheDefinition(t *testing.T) {
	for _, s := range randomSystems(100) {
		for k, d := range s.Definitions {
			has := func(p impl.Part) bool {
				return slices.ContainsFunc(d.Body, func(q impl.Part) bool { return q.Kind == p.Kind && q.Number == p.Number && q.Name == p.Name })
			}
			var calls []int64
			for called := range int64(impl.MaxDefinitions) {
				if has(callPart(called)) {
					calls = append(calls, called)
				}
			}
			var names []string
			for _, name := range []string{"a", "b", "c", "d"} {
				if has(actPart(name)) {
					names = append(names, name)
				}
			}
			expect(t, impl.CallsOf, in(s.Definitions, k), calls, impl.OK)
			expect(t, impl.ActionNames, in(s.Definitions, k), names, impl.OK)
		}
	}
}

func TestPromise6MeetingsAreThoseOfTheDefinition(t *testing.T) {
	names := []string{"a", "b", "c", "d", "e", "tau", ""}
	for _, s := range randomSystems(400) {
		for _, a := range names {
			for _, b := range names {
				result, code := impl.MeetingOf(s, a, b)
				if want := resultOf(s, a, b); result != want || (code == impl.OK) != (want != "") || code != impl.OK && code != impl.ErrNotFound {
					t.Fatalf("MeetingOf(%+v, %q, %q) is %q, %d", s.Meetings, a, b, result, code)
				}
			}
		}
	}
}
