package tests

import (
	"fmt"
	"slices"
	"strings"

	"loop.example/g01075/impl"
)

// What the parts of a body mean, and so the moves of systems, is repeated here as the document says it, for valid
// systems and without the limits: promises 6 and 8 are about moves.

// stepsOf returns the steps of a component at a part with values for the variables in scope.
func stepsOf(list []impl.Definition, p impl.Point) []impl.Step {
	body := list[p.Definition].Body
	part := body[p.Part]
	at := func(k int64, values []int64) impl.Point {
		return impl.Point{Definition: p.Definition, Part: k, Values: values}
	}
	var steps []impl.Step
	switch part.Kind {
	case impl.PartAction:
		next := at(p.Part+1, p.Values)
		if called := body[p.Part+1]; called.Kind == impl.PartCall {
			next = impl.Point{Definition: called.Number, Values: valuesOfAll(called.Arguments, p.Values)}
		}
		steps = []impl.Step{{Label: impl.LabelText(part.Name, valuesOfAll(part.Arguments, p.Values)), Next: next}}
	case impl.PartChoice:
		second := int64(endOf(body, int(p.Part)+1))
		steps = append(stepsOf(list, at(p.Part+1, p.Values)), stepsOf(list, at(second, p.Values))...)
	case impl.PartGuard:
		if treeOf(part.Arguments[0]).value(p.Values) != 0 {
			steps = stepsOf(list, at(p.Part+1, p.Values))
		}
	case impl.PartSum:
		for v := range part.Number + 1 {
			steps = append(steps, stepsOf(list, at(p.Part+1, append(slices.Clone(p.Values), v)))...)
		}
	}
	return withoutRepeats(steps)
}

func valuesOfAll(list [][]impl.Term, values []int64) []int64 {
	var results []int64
	for _, e := range list {
		results = append(results, treeOf(e).value(values))
	}
	return results
}

// withoutRepeats keeps the first ones of equal steps or moves. Their texts are equal exactly if they are, as in these
// nil and empty slices look the same and labels have no blanks.
func withoutRepeats[T any](list []T) []T {
	var kept []T
	seen := map[string]bool{}
	for _, x := range list {
		if text := fmt.Sprint(x); !seen[text] {
			seen[text] = true
			kept = append(kept, x)
		}
	}
	return kept
}

func startOf(s impl.System) []impl.Point {
	var state []impl.Point
	for _, c := range s.Components {
		state = append(state, impl.Point{Definition: c.Definition, Values: c.Values})
	}
	return state
}

// resultOf returns the name of the meeting of two names, and the empty text if there is none.
func resultOf(s impl.System, a, b string) string {
	for _, m := range s.Meetings {
		if m.Left == a && m.Right == b || m.Left == b && m.Right == a {
			return m.Result
		}
	}
	return ""
}

// A goal is where a component goes on.
type goal struct {
	component int
	point     impl.Point
}

// moveOf returns a move of one component, or of two in order, with the label of a name and values unless it is hidden.
func moveOf(s impl.System, state []impl.Point, name string, values []int64, goals ...goal) impl.Move {
	move := impl.Move{Label: impl.LabelText(name, values), First: int64(goals[0].component), Second: -1, State: slices.Clone(state)}
	if slices.Contains(s.Hidden, name) {
		move.Label = "tau"
	}
	if len(goals) == 2 {
		move.Second = int64(goals[1].component)
	}
	for _, g := range goals {
		move.State[g.component] = g.point
	}
	return move
}

func movesOf(s impl.System, state []impl.Point) []impl.Move {
	var moves []impl.Move
	for i, p := range state {
		for _, step := range stepsOf(s.Definitions, p) {
			name := impl.LabelName(step.Label)
			values, _ := impl.LabelValues(step.Label)
			if name == "tau" || slices.Contains(s.Allowed, name) {
				moves = append(moves, moveOf(s, state, name, values, goal{i, step.Next}))
			}
		}
	}
	for i := range state {
		for k := i + 1; k < len(state); k++ {
			moves = append(moves, meetingsOf(s, state, i, k)...)
		}
	}
	return withoutRepeats(moves)
}

// meetingsOf returns the moves of two components together.
func meetingsOf(s impl.System, state []impl.Point, i, k int) []impl.Move {
	var moves []impl.Move
	others := stepsOf(s.Definitions, state[k])
	for _, a := range stepsOf(s.Definitions, state[i]) {
		for _, b := range others {
			left, list, _ := strings.Cut(a.Label, "(")
			right, otherList, _ := strings.Cut(b.Label, "(")
			if name := resultOf(s, left, right); list == otherList && slices.Contains(s.Allowed, name) {
				values, _ := impl.LabelValues(a.Label)
				moves = append(moves, moveOf(s, state, name, values, goal{i, a.Next}, goal{k, b.Next}))
			}
		}
	}
	return moves
}

// renumbered returns a state in which each definition has its position in a list.
func renumbered(state []impl.Point, used []int64) []impl.Point {
	moved := slices.Clone(state)
	for i, p := range moved {
		moved[i].Definition = int64(slices.Index(used, p.Definition))
	}
	return moved
}

// firstStates returns the states of a system that are reached first, at most as many as most.
func firstStates(s impl.System, most int) [][]impl.Point {
	states := [][]impl.Point{startOf(s)}
	for i := 0; i < len(states); i++ {
		for _, move := range movesOf(s, states[i]) {
			states = withoutRepeats(append(states, move.State))
		}
		states = states[:min(len(states), most)]
	}
	return states
}
