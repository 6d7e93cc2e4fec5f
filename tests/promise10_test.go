package tests

import (
	"fmt"
	"maps"
	"math/rand/v2"
	"slices"
	"strings"
	"testing"

	"loop.example/g01075/impl"
)

// someMeetings returns lists of meetings of the names that random processes have, which are a and b.
func someMeetings() [][]impl.Meeting {
	return [][]impl.Meeting{nil, meetings("a b c"), meetings("a a c", "b b d"), meetings("a a c", "a b d", "b b c"), meetings("a c d", "b b c0")}
}

// eachPair calls a function for pairs of random processes and meetings.
func eachPair(n int, check func(a, b impl.Linear, list []impl.Meeting)) {
	all := randomLinears(n)
	for i, b := range all[1:] {
		check(all[i], b, someMeetings()[i%5])
	}
	for i, s := range heavySystems(n / 4) {
		a, code := linearDefined(s, 0)
		b, other := linearDefined(s, len(s.Components)-1)
		if code == impl.OK && other == impl.OK {
			check(a, b, s.Meetings)
			check(b, all[i], someMeetings()[i%5])
		}
	}
}

func TestPromise10CompositionsAreThoseOfTheDefinition(t *testing.T) {
	t.Parallel()
	codes, met := map[int64]int{}, 0
	eachPair(600, func(a, b impl.Linear, list []impl.Meeting) {
		both, code := composed(a, b, nil)
		expect(t, impl.InterleaveLinear, in(a, b), both, code)
		want, code := composed(a, b, list)
		expect(t, impl.MeetLinear, in(a, b, list), want, code)
		codes[code]++
		met += max(0, len(want.Summands)-len(a.Summands)-len(b.Summands))
	})
	if codes[impl.OK] < 500 || codes[impl.ErrFull] < 50 || met < 400 {
		t.Error("too few cases:", codes, met)
	}
}

// TestPromise10CompositionsMoveAsBothProcesses compares the moves of a composition with those of both processes, which it
// takes from their states alone.
func TestPromise10CompositionsMoveAsBothProcesses(t *testing.T) {
	t.Parallel()
	r := rand.New(rand.NewPCG(61, 62))
	moves, met := 0, 0
	eachPair(400, func(a, b impl.Linear, list []impl.Meeting) {
		both, code := impl.MeetLinear(a, b, list)
		if code != impl.OK {
			return
		}
		others := someStates(r, b)
		for i, state := range someStates(r, a) {
			other := others[(i+r.IntN(2))%len(others)]
			want, count := movesOfBoth(a, b, list, state, other)
			got := movesAt(t, both, slices.Concat(state, other), counted(int(both.Parameters)))
			if !same(pairsOfMoves(got, textOfMove), pairsOfMoves(want, textOfMove)) {
				t.Fatalf("%q and %q in %v and %v: %+v; want %+v", exactText(a), exactText(b), state, other, got, want)
			}
			moves += len(want)
			met += count
		}
	})
	if moves < 10000 || met < 600 {
		t.Error("too few cases:", moves, met)
	}
}

// movesOfBoth returns the moves of two processes in a state of each, and how many of them are meetings.
func movesOfBoth(a, b impl.Linear, list []impl.Meeting, state, other []int64) (moves []impl.LinearMove, met int) {
	lefts, rights := linearMovesOf(a, state), linearMovesOf(b, other)
	for _, left := range lefts {
		moves = append(moves, impl.LinearMove{Label: left.Label, Next: slices.Concat(left.Next, other)})
		for _, right := range rights {
			if label := metLabel(left.Label, right.Label, list); label != "" {
				moves = append(moves, impl.LinearMove{Label: label, Next: slices.Concat(left.Next, right.Next)})
				met++
			}
		}
	}
	for _, right := range rights {
		moves = append(moves, impl.LinearMove{Label: right.Label, Next: slices.Concat(state, right.Next)})
	}
	return withoutRepeats(moves), met
}

// metLabel returns the label of the meeting of two labels, and the empty text if they do not meet.
func metLabel(left, right string, list []impl.Meeting) string {
	x, values, _ := strings.Cut(left, "(")
	y, others, _ := strings.Cut(right, "(")
	name := resultOf(impl.System{Meetings: list}, x, y)
	if name == "" || values != others {
		return ""
	}
	return strings.Replace(left, x, name, 1)
}

// namedLists returns some lists of the names that random processes have.
func namedLists() [][]string {
	return [][]string{nil, {"a"}, {"b"}, {"a", "b"}, {"c", "d"}, {"a", "c"}}
}

func TestPromise10ChangesAreThoseOfTheDefinition(t *testing.T) {
	t.Parallel()
	r := rand.New(rand.NewPCG(63, 64))
	kept, hidden, repeats := 0, 0, 0
	eachLinear(300, func(l impl.Linear) {
		if n := len(l.Summands); n > 0 && n < 30 && r.IntN(2) == 0 {
			l.Summands = append(l.Summands, l.Summands[r.IntN(n)], l.Summands[r.IntN(n)])
		}
		names := namedLists()[r.IntN(6)]
		expect(t, impl.RestrictLinear, in(l, names), restrictedLinear(l, names), impl.OK)
		expect(t, impl.HideLinear, in(l, names), hiddenLinear(l, names), impl.OK)
		from, to := []string{"a", "b", "c"}[r.IntN(3)], []string{"a", "b", "x"}[r.IntN(3)]
		expect(t, impl.RenameLinear, in(l, from, to), renamedLinear(l, from, to), impl.OK)
		expect(t, impl.DistinctSummands, in(l), distinctLinear(l), impl.OK)
		expect(t, impl.LinearNames, in(l), namesOfLinear(l), impl.OK)
		start := randomValues(r, int(l.Parameters))
		expect(t, impl.StartLinear, in(l, start), startedLinear(l, start), impl.OK)
		kept += len(restrictedLinear(l, names).Summands)
		hidden += len(namesOfLinear(l)) - len(namesOfLinear(hiddenLinear(l, names)))
		repeats += len(l.Summands) - len(distinctLinear(l).Summands)
	})
	if kept < 300 || hidden < 100 || repeats < 100 {
		t.Error("too few cases:", kept, hidden, repeats)
	}
}

// relabelled returns moves with other labels, without those whose label becomes empty.
func relabelled(moves []impl.LinearMove, label func(name, values string) string) []impl.LinearMove {
	var changed []impl.LinearMove
	for _, move := range moves {
		name, _, _ := strings.Cut(move.Label, "(")
		if move.Label = label(name, strings.TrimPrefix(move.Label, name)); move.Label != "" {
			changed = append(changed, move)
		}
	}
	return withoutRepeats(changed)
}

// TestPromise10ChangesOfNamesChangeLabelsAlone compares moves before and behind a change of names.
func TestPromise10ChangesOfNamesChangeLabelsAlone(t *testing.T) {
	t.Parallel()
	r := rand.New(rand.NewPCG(65, 66))
	moves := 0
	eachLinear(200, func(l impl.Linear) {
		names := namedLists()[r.IntN(6)]
		restricted, _ := impl.RestrictLinear(l, names)
		hidden, _ := impl.HideLinear(l, names)
		renamed, _ := impl.RenameLinear(l, "a", "b")
		distinct, _ := impl.DistinctSummands(joinedLinear(l, summandsAt(l, counts(min(len(l.Summands), 60-len(l.Summands)))...)))
		all := counted(int(l.Parameters))
		for _, state := range someStates(r, l) {
			want := linearMovesOf(l, state)
			for _, c := range []struct {
				changed impl.Linear
				label   func(name, values string) string
			}{
				{restricted, func(name, values string) string {
					if name == "tau" || slices.Contains(names, name) {
						return name + values
					}
					return ""
				}},
				{hidden, func(name, values string) string {
					if slices.Contains(names, name) {
						return "tau"
					}
					return name + values
				}},
				{renamed, func(name, values string) string {
					if name == "a" {
						return "b" + values
					}
					return name + values
				}},
				{distinct, func(name, values string) string { return name + values }},
			} {
				if got := movesAt(t, c.changed, state, all); !same(got, relabelled(want, c.label)) {
					t.Fatalf("%q and %q in %v: %+v and %+v", exactText(l), exactText(c.changed), state, want, got)
				}
			}
			moves += len(want)
		}
	})
	if moves < 3000 {
		t.Error("too few cases:", moves)
	}
}

// networkSystems returns systems of which most have a linear process.
func networkSystems(n int) []impl.System {
	return slices.Concat(randomSystems(n), wideSystems(n/4), heavySystems(n/4), []impl.System{example()})
}

func TestPromise10NetworksAreThoseOfTheDefinition(t *testing.T) {
	t.Parallel()
	codes := map[string]int{}
	for _, s := range networkSystems(400) {
		want, code := networkDefined(s)
		expect(t, impl.NetworkLinear, in(s), want, code)
		codes[fmt.Sprint(len(s.Components), code)]++
	}
	for _, c := range []string{"1 0", "2 0", "3 0", "2 5", "3 5"} {
		if codes[c] < 20 {
			t.Error("too few cases:", codes)
		}
	}
}

// TestPromise10NetworksMoveAsTheirSystems compares the moves in each state, by the meaning of the parts of bodies alone,
// with those of the linear process in the state of the same numbers. So these pairs of states are a bisimulation.
func TestPromise10NetworksMoveAsTheirSystems(t *testing.T) {
	t.Parallel()
	moves, met := 0, 0
	for _, s := range networkSystems(200) {
		network, code := impl.NetworkLinear(s)
		if code != impl.OK {
			continue
		}
		left := changingOf(s)
		if start := numbersOf(s, startOf(s), left); !same(network.Start, start) || !impl.ValidLinear(network) {
			t.Fatalf("%+v: starts in %v; want %v", s, network.Start, start)
		}
		for _, state := range firstStates(s, 10) {
			var want []impl.LinearMove
			for _, move := range movesOf(s, state) {
				want = append(want, impl.LinearMove{Label: move.Label, Next: numbersOf(s, move.State, left)})
				met += int(oneIf(move.Second >= 0))
			}
			got := movesAt(t, network, numbersOf(s, state, left), counted(int(network.Parameters)))
			if !same(pairsOfMoves(got, textOfMove), pairsOfMoves(withoutRepeats(want), textOfMove)) {
				t.Fatalf("%+v in %+v: %+v; want %+v", s, state, got, want)
			}
			moves += len(want)
		}
	}
	if moves < 3000 || met < 300 {
		t.Error("too few cases:", moves, met)
	}
}

// A graph is a set of states, given as texts, with the labels and goals of their moves; the first state is first.
type graph struct {
	first string
	moves map[string][][2]string
}

// graphOf returns all states that are reached from one, and false if there are more than most.
func graphOf[T any](first T, most int, movesOf func(state T) (labels []string, goals []T)) (graph, bool) {
	g := graph{fmt.Sprint(first), map[string][][2]string{}}
	for work := []T{first}; len(work) > 0; work = work[1:] {
		from := fmt.Sprint(work[0])
		if g.moves[from] != nil {
			continue
		}
		if len(g.moves) == most {
			return graph{}, false
		}
		g.moves[from] = [][2]string{}
		labels, goals := movesOf(work[0])
		for i, label := range labels {
			g.moves[from] = append(g.moves[from], [2]string{label, fmt.Sprint(goals[i])})
		}
		work = append(work, goals...)
	}
	return g, true
}

func graphOfSystem(s impl.System, most int) (graph, bool) {
	return graphOf(startOf(s), most, func(state []impl.Point) (labels []string, goals [][]impl.Point) {
		for _, move := range movesOf(s, state) {
			labels, goals = append(labels, move.Label), append(goals, move.State)
		}
		return labels, goals
	})
}

func graphOfLinear(l impl.Linear, most int) (graph, bool) {
	return graphOf(l.Start, most, func(state []int64) (labels []string, goals [][]int64) {
		moves, _ := impl.LinearMoves(l, state)
		for _, move := range moves {
			labels, goals = append(labels, move.Label), append(goals, move.Next)
		}
		return labels, goals
	})
}

// areBisimilar reports whether the first states of two graphs are strongly bisimilar: states are told apart by the labels
// of their moves and by which states their goals cannot be told apart from, until no more of them are.
func areBisimilar(a, b graph) bool {
	classes := map[string]string{}
	for count := 0; ; {
		next := map[string]string{}
		names := map[string]bool{}
		for side, g := range []graph{a, b} {
			for state, moves := range g.moves {
				var seen []string
				for _, move := range moves {
					seen = append(seen, move[0]+" to "+classes[fmt.Sprint(side, move[1])])
				}
				slices.Sort(seen)
				name := strings.Join(slices.Compact(seen), ";")
				next[fmt.Sprint(side, state)] = name
				names[name] = true
			}
		}
		// Short names, as those of the next round are made of them.
		numbers := map[string]string{}
		for i, name := range slices.Sorted(maps.Keys(names)) {
			numbers[name] = fmt.Sprint(i)
		}
		for state, name := range next {
			next[state] = numbers[name]
		}
		classes = next
		if len(names) == count {
			return classes[fmt.Sprint(0, a.first)] == classes[fmt.Sprint(1, b.first)]
		}
		count = len(names)
	}
}

// TestPromise10NetworksAreStronglyBisimilar decides strong bisimilarity for systems with few states, from the moves that
// both have and without any knowledge of how their states belong together.
func TestPromise10NetworksAreStronglyBisimilar(t *testing.T) {
	t.Parallel()
	compared, states, different := 0, 0, 0
	var last graph
	for _, s := range networkSystems(400) {
		network, code := impl.NetworkLinear(s)
		if code != impl.OK {
			continue
		}
		want, ok := graphOfSystem(s, 60)
		got, found := graphOfLinear(network, 60)
		if ok != found {
			t.Fatalf("%+v: only one of both has few states", s)
		}
		if !ok || len(want.moves) < 2 {
			continue
		}
		if !areBisimilar(want, got) {
			t.Fatalf("%+v and %q are not bisimilar", s, exactText(network))
		}
		if compared > 0 {
			different += int(oneIf(!areBisimilar(last, got)))
		}
		last = got
		compared++
		states += len(want.moves)
	}
	if compared < 100 || states < 500 || different < 80 {
		t.Error("too few cases:", compared, "systems with", states, "states; different from the one before:", different)
	}
}
