package tests

import (
	"math"
	"slices"
	"strings"
	"testing"

	"loop.example/g01075/impl"
)

// noNames returns texts that are not names.
func noNames() []string {
	return []string{"", " ", "A", "aB", "1", "1a", "a-b", "a ", " a", "a(1)", "a2345678901", strings.Repeat("a", 3000), "\x00", "é", "\xff", "a\n"}
}

func noIndices(count int64) []int64 {
	return []int64{-1, count, count + 1, math.MinInt64, math.MaxInt64}
}

func TestRenameDefinition(t *testing.T) {
	for k := range example().Definitions {
		// A definition may have the name of an action, tau and its own name as well.
		for _, name := range []string{"a", "tau", "sum", "proc", "put", "z123456789", example().Definitions[k].Name} {
			want := example()
			want.Definitions[k].Name = name
			expect(t, impl.RenameDefinition, in(example(), k, name), want, impl.OK)
		}
	}
	s, _ := impl.RenameDefinition(example(), 1, "tau")
	lines := exampleLines()
	lines[1], lines[4] = "proc tau 0 = put(1).tau + put(2).tau", "run tau | hold | add(5)"
	expect(t, impl.SystemLines, in(s), lines, impl.OK)
	checkParsed(t, strings.Join(lines, "\n"), s)
}

func TestRenameDefinitionErrors(t *testing.T) {
	for k := range int64(4) {
		for other, d := range example().Definitions {
			if int64(other) != k {
				expect(t, impl.RenameDefinition, in(example(), k, d.Name), nil, impl.ErrExists)
			}
		}
		for _, name := range noNames() {
			expect(t, impl.RenameDefinition, in(example(), k, name), nil, impl.ErrRange)
		}
	}
	for _, k := range noIndices(4) {
		// Also with a name that another definition has.
		for _, name := range []string{"fresh", "send", "", "A"} {
			expect(t, impl.RenameDefinition, in(example(), k, name), nil, impl.ErrRange)
		}
	}
	for _, s := range invalidSystems() {
		expect(t, impl.RenameDefinition, in(s, 0, "fresh"), nil, impl.ErrInvalid)
		expect(t, impl.RenameDefinition, in(s, 0, "send"), nil, impl.ErrInvalid)
		expect(t, impl.RenameDefinition, in(s, -1, "A"), nil, impl.ErrInvalid)
	}
}

// renamed returns the text of a system after its action from has been renamed.
func renamed(t *testing.T, s impl.System, from, to string) string {
	t.Helper()
	results := call(t, impl.RenameAction, s, from, to)
	if results[1] != int64(impl.OK) {
		t.Errorf("%s to %s: %v", from, to, results[1])
	}
	return impl.SystemText(results[0].(impl.System))
}

func TestRenameAction(t *testing.T) {
	s, _, _, code := impl.ParseSystem("proc p 0 = b(1).tau.(d.p + b.p)\nproc d 0 = d.b.d\nrun p | d\nmeet b b m\nmeet b d n\nmeet c d n\nallow b d m x\nhide b n")
	if code != impl.OK {
		t.Fatal(code)
	}
	for _, c := range []struct{ from, to, want string }{
		{"b", "a", "proc p 0 = a(1).tau.(d.p + a.p)\nproc d 0 = d.a.d\nrun p | d\nmeet a a m\nmeet a d n\nmeet c d n\nallow a d m x\nhide a n"},
		// Behind c, the meetings are in another order; behind d, the names of one are, too.
		{"b", "cc", "proc p 0 = cc(1).tau.(d.p + cc.p)\nproc d 0 = d.cc.d\nrun p | d\nmeet c d n\nmeet cc cc m\nmeet cc d n\nallow cc d m x\nhide cc n"},
		{"b", "z", "proc p 0 = z(1).tau.(d.p + z.p)\nproc d 0 = d.z.d\nrun p | d\nmeet c d n\nmeet d z n\nmeet z z m\nallow d m x z\nhide n z"},
		{"d", "a", "proc p 0 = b(1).tau.(a.p + b.p)\nproc d 0 = a.b.d\nrun p | d\nmeet a b n\nmeet a c n\nmeet b b m\nallow a b m x\nhide b n"},
		{"d", "bb", "proc p 0 = b(1).tau.(bb.p + b.p)\nproc d 0 = bb.b.d\nrun p | d\nmeet b b m\nmeet b bb n\nmeet bb c n\nallow b bb m x\nhide b n"},
		// Names that occur in one place only: as a Left, a Result, in Allowed.
		{"c", "p", "proc p 0 = b(1).tau.(d.p + b.p)\nproc d 0 = d.b.d\nrun p | d\nmeet b b m\nmeet b d n\nmeet d p n\nallow b d m x\nhide b n"},
		{"n", "a", "proc p 0 = b(1).tau.(d.p + b.p)\nproc d 0 = d.b.d\nrun p | d\nmeet b b m\nmeet b d a\nmeet c d a\nallow b d m x\nhide a b"},
		{"m", "sum", "proc p 0 = b(1).tau.(d.p + b.p)\nproc d 0 = d.b.d\nrun p | d\nmeet b b sum\nmeet b d n\nmeet c d n\nallow b d sum x\nhide b n"},
		{"x", "a1", "proc p 0 = b(1).tau.(d.p + b.p)\nproc d 0 = d.b.d\nrun p | d\nmeet b b m\nmeet b d n\nmeet c d n\nallow a1 b d m\nhide b n"},
	} {
		if got := renamed(t, s, c.from, c.to); got != c.want {
			t.Errorf("%s to %s: got\n%s\nwant\n%s", c.from, c.to, got, c.want)
		}
		back := call(t, impl.RenameAction, call(t, impl.RenameAction, s, c.from, c.to)[0], c.to, c.from)
		if !same(back[0], s) {
			t.Errorf("%s to %s and back: %+v", c.from, c.to, back)
		}
	}
	// Nothing changes if a name stays as it is, or does not occur; names of definitions are no names of actions.
	for _, names := range [][2]string{{"b", "b"}, {"x", "x"}, {"none", "none"}, {"none", "other"}, {"p", "other"}, {"p", "p"}, {"a", "bb"}} {
		expect(t, impl.RenameAction, in(s, names[0], names[1]), s, impl.OK)
	}
}

func TestRenameActionErrors(t *testing.T) {
	// The names occur in an action, as Left, Right and Result of a meeting, in Allowed and in Hidden.
	s, _, _, _ := impl.ParseSystem("proc p 0 = a.p\nrun p\nmeet b c d\nallow e\nhide f")
	for _, to := range []string{"a", "b", "c", "d", "e", "f"} {
		for _, from := range []string{"a", "b", "c", "d", "e", "f", "none", "p"} {
			if from != to {
				expect(t, impl.RenameAction, in(s, from, to), nil, impl.ErrExists)
			}
		}
	}
	for _, name := range append(noNames(), "tau") {
		for _, other := range []string{"a", "b", "f", "none", "tau", ""} {
			expect(t, impl.RenameAction, in(s, name, other), nil, impl.ErrRange)
			expect(t, impl.RenameAction, in(s, other, name), nil, impl.ErrRange)
		}
		expect(t, impl.RenameAction, in(s, name, name), nil, impl.ErrRange)
	}
	for _, invalid := range invalidSystems() {
		for _, names := range [][2]string{{"put", "fresh"}, {"put", "get"}, {"tau", "A"}, {"put", "put"}} {
			expect(t, impl.RenameAction, in(invalid, names[0], names[1]), nil, impl.ErrInvalid)
		}
	}
}

func TestAddComponent(t *testing.T) {
	s := example()
	s.Components = s.Components[:1]
	for _, c := range []impl.Component{
		{Definition: 0, Values: []int64{0}}, {Definition: 0, Values: []int64{63}}, {Definition: 1}, {Definition: 2}, {Definition: 3, Values: []int64{7}},
	} {
		want := copied(s)
		want.Components = append(want.Components, c)
		expect(t, impl.AddComponent, in(s, c), want, impl.OK)
		three := copied(want)
		three.Components = append(three.Components, impl.Component{Definition: 2})
		expect(t, impl.AddComponent, in(want, impl.Component{Definition: 2}), three, impl.OK)
		expect(t, impl.AddComponent, in(three, impl.Component{Definition: 2}), nil, impl.ErrFull)
		expect(t, impl.AddComponent, in(three, c), nil, impl.ErrFull)
	}
}

// faultyAdditions returns components that do not fit to the example.
func faultyAdditions() []impl.Component {
	list := []impl.Component{
		{Definition: 0}, {Definition: 0, Values: []int64{1, 1}}, {Definition: 1, Values: []int64{1}}, {Definition: 3}, {Definition: 3, Values: repeated(1000, 0)},
		{Definition: 0, Values: []int64{-1}}, {Definition: 0, Values: []int64{64}}, {Definition: 3, Values: []int64{math.MinInt64}}, {Definition: 3, Values: []int64{math.MaxInt64}},
	}
	for _, k := range noIndices(4) {
		list = append(list, impl.Component{Definition: k}, impl.Component{Definition: k, Values: []int64{1}})
	}
	return list
}

func TestAddComponentErrors(t *testing.T) {
	one := example()
	one.Components = one.Components[:1]
	for _, c := range faultyAdditions() {
		expect(t, impl.AddComponent, in(one, c), nil, impl.ErrRange)
		// The example has as many components as there may be.
		expect(t, impl.AddComponent, in(example(), c), nil, impl.ErrRange)
	}
	for _, s := range invalidSystems() {
		for _, c := range []impl.Component{{}, {Definition: 1}, {Definition: -1}} {
			expect(t, impl.AddComponent, in(s, c), nil, impl.ErrInvalid)
		}
	}
}

func TestRemoveComponent(t *testing.T) {
	for k := range 3 {
		two := example()
		two.Components = slices.Delete(two.Components, k, k+1)
		expect(t, impl.RemoveComponent, in(example(), k), two, impl.OK)
		for i := range 2 {
			one := copied(two)
			one.Components = slices.Delete(one.Components, i, i+1)
			expect(t, impl.RemoveComponent, in(two, i), one, impl.OK)
			expect(t, impl.RemoveComponent, in(one, 0), nil, impl.ErrState)
			for _, none := range noIndices(1) {
				expect(t, impl.RemoveComponent, in(one, none), nil, impl.ErrRange)
			}
		}
		for _, none := range noIndices(2) {
			expect(t, impl.RemoveComponent, in(two, none), nil, impl.ErrRange)
		}
	}
	for _, none := range noIndices(3) {
		expect(t, impl.RemoveComponent, in(example(), none), nil, impl.ErrRange)
	}
	for _, s := range invalidSystems() {
		expect(t, impl.RemoveComponent, in(s, 0), nil, impl.ErrInvalid)
		expect(t, impl.RemoveComponent, in(s, -1), nil, impl.ErrInvalid)
	}
}
