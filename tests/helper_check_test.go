package tests

import (
	"reflect"
	"testing"

	"loop.example/g01075/impl"
)

// The checks of promise 1 are only worth something if they see what they look for.

func TestHelperSeesSharedMemory(t *testing.T) {
	list := []int64{1, 2, 3, 4}
	nested := [][]int64{list}
	terms := []impl.Term{{Kind: 1}, {Kind: 1}}
	words := []string{"a", "b", "c"}
	holder := struct{ Lists [][]int64 }{nested}
	cases := []struct {
		what          string
		args, results []any
		want          bool
	}{
		{"the same slice", []any{list}, []any{list}, true},
		{"unused capacity of an argument", []any{list[:1]}, []any{list[3:]}, true},
		{"unused capacity of a result", []any{list[2:]}, []any{list[:1]}, true},
		{"an inner slice of an argument", []any{nested}, []any{list}, true},
		{"an inner slice of a result", []any{list}, []any{nested}, true},
		{"inner slices of one result", nil, []any{[][]int64{list[:2:2], list[1:]}}, true},
		{"two results", nil, []any{list, list}, true},
		{"terms", []any{terms}, []any{terms[1:]}, true},
		{"unused capacity of terms", []any{terms[:1]}, []any{terms[1:]}, true},
		{"operands in one memory", nil, []any{[][]impl.Term{terms[:1], terms[1:]}}, true},
		{"traces in one memory", nil, []any{[][]string{words[:1], words}}, true},
		{"unused capacity of a trace", []any{words[:1]}, []any{[][]string{nil, words[1:]}}, true},
		{"a system and a trace", nil, []any{impl.Lts{Labels: words}, words[1:]}, true},
		{"a system and a set", nil, []any{impl.Lts{Labels: words}, [][]int64{list}}, false},
		{"a field of a struct", []any{list}, []any{holder}, true},
		{"two arguments", []any{list, list}, []any{[]int64{1}}, false},
		{"neighbours", nil, []any{[][]int64{list[:2:2], list[2:]}}, false},
		{"strings and numbers", []any{"a", int64(1)}, []any{"a", int64(1)}, false},
	}
	for _, c := range cases {
		if got := sharesMemory(valuesOf(c.args), valuesOf(c.results)); got != c.want {
			t.Errorf("%s: got %v, want %v", c.what, got, c.want)
		}
	}
}

func valuesOf(list []any) []reflect.Value {
	var values []reflect.Value
	for _, a := range list {
		values = append(values, reflect.ValueOf(a))
	}
	return values
}

func TestHelperSeesChanges(t *testing.T) {
	for _, change := range []func([][]int64){
		func(r [][]int64) { r[0][0]++ },
		func(r [][]int64) { r[0] = append(r[0], 5) },
		func(r [][]int64) { _ = append(r, []int64{5}) },
		func(r [][]int64) { r[0], r[1] = r[1], r[0] },
	} {
		given := copyOf(reflect.ValueOf([][]int64{{1, 2}, {3}}), spareRoom)
		before := withCapacity(given).Interface()
		change(given.Interface().([][]int64))
		if reflect.DeepEqual(before, withCapacity(given).Interface()) {
			t.Error("a change of an argument is not seen")
		}
	}
}

func TestHelperSeesChangesOfTraces(t *testing.T) {
	for i, change := range []func([]string){
		func(trace []string) { trace[1] = "c" },
		func(trace []string) { trace[0], trace[1] = trace[1], trace[0] },
		func(trace []string) { _ = append(trace, "c") },
		func(trace []string) { _ = append(trace[:1], trace[2:3]...) },
	} {
		given := copyOf(reflect.ValueOf([]string{"a", "b"}), spareRoom)
		before := withCapacity(given).Interface()
		change(given.Interface().([]string))
		if reflect.DeepEqual(before, withCapacity(given).Interface()) {
			t.Error("a change of a trace is not seen:", i)
		}
	}
}

func TestHelperSeesChangesOfTerms(t *testing.T) {
	for _, change := range []func([]impl.Term){
		func(e []impl.Term) { e[0].Kind++ },
		func(e []impl.Term) { e[1].Value++ },
		func(e []impl.Term) { _ = append(e, impl.Term{}) },
	} {
		given := copyOf(reflect.ValueOf(op(impl.OpAdd, num(1), num(2))), spareRoom)
		before := withCapacity(given).Interface()
		change(given.Interface().([]impl.Term))
		if reflect.DeepEqual(before, withCapacity(given).Interface()) {
			t.Error("a change of terms is not seen")
		}
	}
}

// systemParts returns functions that give each slice of a system: of its definitions, their bodies, and so on.
func systemParts() map[string]func(s impl.System) any {
	return map[string]func(s impl.System) any{
		"definitions": func(s impl.System) any { return s.Definitions },
		"a body":      func(s impl.System) any { return s.Definitions[3].Body },
		"arguments":   func(s impl.System) any { return s.Definitions[3].Body[6].Arguments },
		"terms":       func(s impl.System) any { return s.Definitions[3].Body[6].Arguments[1] },
		"components":  func(s impl.System) any { return s.Components },
		"values":      func(s impl.System) any { return s.Components[2].Values },
		"meetings":    func(s impl.System) any { return s.Meetings },
		"allowed":     func(s impl.System) any { return s.Allowed },
		"hidden":      func(s impl.System) any { return s.Hidden },
	}
}

func TestHelperSeesSharedMemoryOfSystems(t *testing.T) {
	s := copied(example())
	other := copied(example())
	for what, part := range systemParts() {
		if !sharesMemory(valuesOf([]any{s}), valuesOf([]any{part(s)})) || !sharesMemory(valuesOf([]any{part(s)}), valuesOf([]any{s})) {
			t.Error("shared with an argument:", what)
		}
		if !sharesMemory(nil, valuesOf([]any{s, part(s)})) {
			t.Error("shared with another result:", what)
		}
		if sharesMemory(valuesOf([]any{s}), valuesOf([]any{part(other)})) {
			t.Error("not shared:", what)
		}
	}
	if sharesMemory(valuesOf([]any{s}), valuesOf([]any{other})) {
		t.Error("not shared")
	}
	other.Components[0].Values = other.Components[2].Values
	if !sharesMemory(nil, valuesOf([]any{other})) {
		t.Error("values of two components of one result")
	}
	other = copied(example())
	other.Definitions[1].Body = other.Definitions[2].Body
	if !sharesMemory(nil, valuesOf([]any{other})) {
		t.Error("bodies of one result")
	}
}

func TestHelperSeesChangesOfSystems(t *testing.T) {
	for i, change := range []changeOfSystem{
		func(s *impl.System) { s.Definitions[1].Name = "other" },
		func(s *impl.System) { s.Definitions[1].Body[2].Number = 2 },
		func(s *impl.System) { s.Definitions[3].Body[6].Arguments[0] = nil },
		func(s *impl.System) { s.Definitions[3].Body[6].Arguments[1][0].Value = 5 },
		func(s *impl.System) { _ = append(s.Definitions[3].Body[6].Arguments[1], impl.Term{}) },
		func(s *impl.System) { _ = append(s.Definitions[3].Body[6].Arguments, nil) },
		func(s *impl.System) { _ = append(s.Definitions[0].Body, impl.Part{}) },
		func(s *impl.System) { _ = append(s.Definitions, impl.Definition{}) },
		func(s *impl.System) { s.Components[2].Values[0] = 6 },
		func(s *impl.System) { _ = append(s.Components[0].Values, 6) },
		func(s *impl.System) { s.Components[0].Definition = 2 },
		func(s *impl.System) { _ = append(s.Components, impl.Component{}) },
		func(s *impl.System) { s.Meetings[0].Result = "x" },
		func(s *impl.System) { _ = append(s.Meetings, impl.Meeting{}) },
		func(s *impl.System) { s.Allowed[0] = "x" },
		func(s *impl.System) { _ = append(s.Allowed, "x") },
		func(s *impl.System) { _ = append(s.Hidden, "x") },
	} {
		given := copyOf(reflect.ValueOf(example()), spareRoom)
		before := withCapacity(given).Interface()
		s := given.Interface().(impl.System)
		change(&s)
		if reflect.DeepEqual(before, withCapacity(given).Interface()) {
			t.Error("a change of a system is not seen:", i)
		}
	}
}

// someMoves returns two moves of two components, each with a value, that share no memory.
func someMoves() []impl.Move {
	return copied([]impl.Move{{State: []impl.Point{pt(0, 0, 1), pt(0, 0, 2)}}, {State: []impl.Point{pt(0, 0, 1), pt(0, 0, 2)}}})
}

func TestHelperSeesSharedMemoryOfMoves(t *testing.T) {
	if sharesMemory(valuesOf([]any{someMoves()}), valuesOf([]any{someMoves()})) {
		t.Error("not shared")
	}
	for i, change := range []func(moves []impl.Move){
		func(moves []impl.Move) { moves[1].State = moves[0].State },
		func(moves []impl.Move) { moves[1].State[0].Values = moves[0].State[0].Values },
		func(moves []impl.Move) { moves[1].State[1].Values = moves[1].State[0].Values },
		func(moves []impl.Move) { moves[1].State[1].Values = moves[0].State[0].Values[:0:1] },
	} {
		moves := someMoves()
		change(moves)
		if !sharesMemory(nil, valuesOf([]any{moves})) {
			t.Error("shared inside of a result:", i)
		}
	}
	moves, steps := someMoves(), []impl.Step{{Next: pt(0, 0, 1)}}
	for i, part := range []any{moves[1].State, moves[1].State[1].Values, moves[0].State[:1], impl.Point{Values: moves[0].State[0].Values}} {
		if !sharesMemory(valuesOf([]any{part}), valuesOf([]any{moves})) || !sharesMemory(valuesOf([]any{moves}), valuesOf([]any{part})) {
			t.Error("shared with an argument:", i)
		}
	}
	if !sharesMemory(valuesOf([]any{steps[0].Next}), valuesOf([]any{steps})) || !sharesMemory(nil, valuesOf([]any{steps, steps[0].Next.Values})) {
		t.Error("shared by a step")
	}
}

func TestHelperSeesChangesOfStates(t *testing.T) {
	for i, change := range []func(state []impl.Point){
		func(state []impl.Point) { state[0].Part = 1 },
		func(state []impl.Point) { state[2].Values[0] = 6 },
		func(state []impl.Point) { _ = append(state[2].Values, 6) },
		func(state []impl.Point) { _ = append(state[0].Values, 6) },
		func(state []impl.Point) { _ = append(state, impl.Point{}) },
		func(state []impl.Point) { state[:4][3].Values[0] = 6 },
	} {
		given := copyOf(reflect.ValueOf(startOf(example())), spareRoom)
		before := withCapacity(given).Interface()
		change(given.Interface().([]impl.Point))
		if reflect.DeepEqual(before, withCapacity(given).Interface()) {
			t.Error("a change of a state is not seen:", i)
		}
	}
}

// linearParts returns functions that give each slice of a linear process: its Start, its summands, and what these hold.
func linearParts() []func(l impl.Linear) any {
	return []func(l impl.Linear) any{
		func(l impl.Linear) any { return l.Start },
		func(l impl.Linear) any { return l.Summands },
		func(l impl.Linear) any { return l.Summands[1].Sums },
		func(l impl.Linear) any { return l.Summands[1].Guard },
		func(l impl.Linear) any { return l.Summands[1].Arguments },
		func(l impl.Linear) any { return l.Summands[1].Arguments[1] },
		func(l impl.Linear) any { return l.Summands[1].Next },
		func(l impl.Linear) any { return l.Summands[1].Next[2] },
	}
}

func TestHelperSeesSharedMemoryOfLinears(t *testing.T) {
	l, other := copied(counter()), copied(counter())
	for i, part := range linearParts() {
		if !sharesMemory(valuesOf([]any{l}), valuesOf([]any{part(l)})) || !sharesMemory(valuesOf([]any{part(l)}), valuesOf([]any{l})) {
			t.Error("shared with an argument:", i)
		}
		if !sharesMemory(nil, valuesOf([]any{l, part(l)})) {
			t.Error("shared with another result:", i)
		}
		if sharesMemory(valuesOf([]any{l}), valuesOf([]any{part(other)})) {
			t.Error("not shared:", i)
		}
	}
	if sharesMemory(valuesOf([]any{l}), valuesOf([]any{other})) || sharesMemory(nil, valuesOf([]any{l, other})) {
		t.Error("not shared")
	}
	for i, change := range []changeOfLinear{
		func(l *impl.Linear) { l.Summands[2].Sums = l.Summands[1].Sums[1:] },
		func(l *impl.Linear) { l.Summands[2].Sums = l.Start[:1] },
		func(l *impl.Linear) { l.Summands[2].Guard = l.Summands[1].Guard },
		func(l *impl.Linear) { l.Summands[2].Arguments = l.Summands[1].Next[:2] },
		func(l *impl.Linear) { l.Summands[2].Next[0] = l.Summands[2].Next[1] },
		func(l *impl.Linear) { l.Summands[2].Next[0] = l.Summands[1].Arguments[0] },
	} {
		shared := copied(counter())
		change(&shared)
		if !sharesMemory(nil, valuesOf([]any{shared})) {
			t.Error("shared inside of a result:", i)
		}
	}
}

func TestHelperSeesChangesOfLinears(t *testing.T) {
	for i, change := range []changeOfLinear{
		func(l *impl.Linear) { l.Start[2]++ },
		func(l *impl.Linear) { _ = append(l.Start, 1) },
		func(l *impl.Linear) { l.Summands[1].Name = "c" },
		func(l *impl.Linear) { _ = append(l.Summands, impl.Summand{}) },
		func(l *impl.Linear) { l.Summands[1].Sums[1]++ },
		func(l *impl.Linear) { _ = append(l.Summands[1].Sums, 1) },
		func(l *impl.Linear) { l.Summands[1].Guard[0].Value++ },
		func(l *impl.Linear) { _ = append(l.Summands[1].Guard, impl.Term{}) },
		func(l *impl.Linear) { _ = append(l.Summands[0].Arguments, nil) },
		func(l *impl.Linear) { l.Summands[1].Arguments[1][0].Kind++ },
		func(l *impl.Linear) { _ = append(l.Summands[1].Arguments[1], impl.Term{}) },
		func(l *impl.Linear) {
			l.Summands[1].Next[0], l.Summands[1].Next[1] = l.Summands[1].Next[1], l.Summands[1].Next[0]
		},
		func(l *impl.Linear) { _ = append(l.Summands[1].Next, nil) },
		func(l *impl.Linear) { _ = append(l.Summands[1].Next[2], impl.Term{}) },
	} {
		given := copyOf(reflect.ValueOf(counter()), spareRoom)
		before := withCapacity(given).Interface()
		l := given.Interface().(impl.Linear)
		change(&l)
		if reflect.DeepEqual(before, withCapacity(given).Interface()) {
			t.Error("a change of a linear process is not seen:", i)
		}
	}
}

func TestHelperSeesSharedMemoryOfLtss(t *testing.T) {
	x, other := copied(house()), copied(house())
	for i, part := range []func(x impl.Lts) any{
		func(x impl.Lts) any { return x.Labels },
		func(x impl.Lts) any { return x.Labels[:1] },
		func(x impl.Lts) any { return x.Edges },
		func(x impl.Lts) any { return x.Edges[9:] },
		func(x impl.Lts) any { return impl.Lts{Edges: x.Edges} },
	} {
		if !sharesMemory(valuesOf([]any{x}), valuesOf([]any{part(x)})) || !sharesMemory(valuesOf([]any{part(x)}), valuesOf([]any{x})) {
			t.Error("shared with an argument:", i)
		}
		if !sharesMemory(nil, valuesOf([]any{x, part(x)})) {
			t.Error("shared with another result:", i)
		}
		if sharesMemory(valuesOf([]any{x}), valuesOf([]any{part(other)})) {
			t.Error("not shared:", i)
		}
	}
	// Lists of states, which hold lists of values or of points with values.
	states := [][][]impl.Point{copied([][]impl.Point{{pt(0, 0, 1), pt(0, 0, 2)}, {pt(0, 0, 3)}}), copied([][]impl.Point{{pt(0, 0, 1), pt(0, 0, 2)}, {pt(0, 0, 3)}}), copied([][]impl.Point{{pt(0, 0, 1)}, {pt(0, 0, 3)}})}
	if sharesMemory(nil, valuesOf([]any{states[0], states[1], states[2]})) {
		t.Error("not shared")
	}
	states[0][1][0].Values = states[0][0][1].Values
	states[1][1] = states[1][0][:1]
	states[2][1][0].Values = states[2][0][0].Values[:0:1]
	for i, list := range states {
		if !sharesMemory(nil, valuesOf([]any{list})) {
			t.Error("shared inside of a result:", i)
		}
	}
}

func TestHelperSeesChangesOfLtss(t *testing.T) {
	for i, change := range []changeOfLts{
		func(x *impl.Lts) { x.Labels[1] = "c" },
		func(x *impl.Lts) { _ = append(x.Labels, "c") },
		func(x *impl.Lts) { x.Edges[0].From++ },
		func(x *impl.Lts) { x.Edges[9].Label++ },
		func(x *impl.Lts) { x.Edges[9].To++ },
		func(x *impl.Lts) { x.Edges[0], x.Edges[1] = x.Edges[1], x.Edges[0] },
		func(x *impl.Lts) { _ = append(x.Edges, impl.Edge{}) },
	} {
		given := copyOf(reflect.ValueOf(house()), spareRoom)
		before := withCapacity(given).Interface()
		x := given.Interface().(impl.Lts)
		change(&x)
		if reflect.DeepEqual(before, withCapacity(given).Interface()) {
			t.Error("a change of a transition system is not seen:", i)
		}
	}
}

// TestHelperTriesNilAndEmptySlices looks at the copies that the functions are called with.
func TestHelperTriesNilAndEmptySlices(t *testing.T) {
	nested := reflect.ValueOf([][]int64{nil, {}})
	none := copyOf(nested, noSlice).Interface().([][]int64)
	empty := copyOf(nested, 0).Interface().([][]int64)
	roomy := copyOf(nested, spareRoom).Interface().([][]int64)
	for i := range 2 {
		if none[i] != nil || empty[i] == nil || cap(empty[i]) != 0 || len(roomy[i]) != 0 || cap(roomy[i]) != spareRoom {
			t.Error(none, empty, roomy)
		}
	}
	if cap(roomy) != 2+spareRoom || roomy[:3][2] == nil {
		t.Error(roomy)
	}
}

func TestHelperComparesEmptyLists(t *testing.T) {
	if !same([]int64(nil), []int64{}) || !same([][]int64{nil}, [][]int64{{}}) || same([]int64{0}, []int64{}) || same(int64(0), false) {
		t.Error("same")
	}
	if !isZero([]int64{}) || !isZero("") || !isZero(false) || isZero([]int64{0}) || isZero(int64(1)) {
		t.Error("isZero")
	}
}
