package tests

import (
	"slices"
	"strconv"
	"strings"
	"testing"

	"loop.example/g01075/impl"
)

// In the tests of chapter 7, systems are given as source texts, and points, steps and moves as short texts that are read
// here without any check.

// systemOf returns the system of the lines of a source text.
func systemOf(t *testing.T, lines ...string) impl.System {
	t.Helper()
	s, line, at, code := impl.ParseSystem(strings.Join(lines, "\n"))
	if code != impl.OK {
		t.Fatalf("%q: line %d, byte %d, code %d", lines, line, at, code)
	}
	return s
}

// definitionsOf returns the definitions of some process lines, and behind them one that stops.
func definitionsOf(t *testing.T, lines ...string) []impl.Definition {
	t.Helper()
	return systemOf(t, append(slices.Clone(lines), "proc stop 0 = 0", "run stop")...).Definitions
}

func pt(definition, part int64, values ...int64) impl.Point {
	return impl.Point{Definition: definition, Part: part, Values: values}
}

// pointFrom returns the point of a text like p:1:0,5 or p:0:-, without values.
func pointFrom(list []impl.Definition, text string) impl.Point {
	fields := strings.Split(text, ":")
	named := func(d impl.Definition) bool { return d.Name == fields[0] }
	p := pt(int64(slices.IndexFunc(list, named)), numberFrom(fields[1]))
	if fields[2] != "-" {
		for value := range strings.SplitSeq(fields[2], ",") {
			p.Values = append(p.Values, numberFrom(value))
		}
	}
	return p
}

func numberFrom(text string) int64 {
	n, err := strconv.ParseInt(text, 10, 64)
	if err != nil {
		panic(err)
	}
	return n
}

// stateFrom returns the state of the texts of points, with a blank between two.
func stateFrom(s impl.System, text string) []impl.Point {
	var state []impl.Point
	for _, point := range strings.Fields(text) {
		state = append(state, pointFrom(s.Definitions, point))
	}
	return state
}

// stepsFrom returns the steps of texts like "a(1) p:0:-", of a label and a point.
func stepsFrom(list []impl.Definition, texts ...string) []impl.Step {
	var steps []impl.Step
	for _, text := range texts {
		label, point, _ := strings.Cut(text, " ")
		steps = append(steps, impl.Step{Label: label, Next: pointFrom(list, point)})
	}
	return steps
}

// movesFrom returns the moves of texts like "a(1) 0 -1 p:0:- q:0:-", of Label, First, Second and State.
func movesFrom(s impl.System, texts ...string) []impl.Move {
	var moves []impl.Move
	for _, text := range texts {
		fields := strings.SplitN(text, " ", 4)
		moves = append(moves, impl.Move{Label: fields[0], First: numberFrom(fields[1]), Second: numberFrom(fields[2]), State: stateFrom(s, fields[3])})
	}
	return moves
}

// expectSteps checks the steps of a point.
func expectSteps(t *testing.T, list []impl.Definition, p impl.Point, texts ...string) {
	t.Helper()
	want := stepsFrom(list, texts...)
	expect(t, impl.StepsOf, in(list, p), want, impl.OK)
	if defined := stepsOf(list, p); !same(defined, want) {
		t.Errorf("the steps of %+v are defined as %+v, and expected as %+v", p, defined, want)
	}
}

// expectMoves checks the moves of a state, and whether there are any.
func expectMoves(t *testing.T, s impl.System, state []impl.Point, texts ...string) {
	t.Helper()
	want := movesFrom(s, texts...)
	expect(t, impl.MovesOf, in(s, state), want, impl.OK)
	expect(t, impl.IsStuck, in(s, state), len(want) == 0)
	if defined := movesOf(s, state); !same(defined, want) {
		t.Errorf("the moves of %+v are defined as %+v, and expected as %+v", state, defined, want)
	}
}

// expectStart checks the moves of the first state.
func expectStart(t *testing.T, s impl.System, texts ...string) {
	t.Helper()
	expectMoves(t, s, startOf(s), texts...)
}

// expectStepCount checks the number of steps of a point; a negative one stands for too many.
func expectStepCount(t *testing.T, list []impl.Definition, p impl.Point, want int) {
	t.Helper()
	if want < 0 {
		expect(t, impl.StepsOf, in(list, p), nil, impl.ErrFull)
		return
	}
	results := call(t, impl.StepsOf, list, p)
	if steps := results[0].([]impl.Step); len(steps) != want || results[1] != int64(impl.OK) {
		t.Errorf("%d steps, code %d; want %d", len(steps), results[1], want)
	}
}

// expectMoveCount checks the number of moves of the first state; a negative one stands for too many.
func expectMoveCount(t *testing.T, s impl.System, want int) {
	t.Helper()
	start := startOf(s)
	if want < 0 {
		expect(t, impl.MovesOf, in(s, start), nil, impl.ErrFull)
		expect(t, impl.MoveLabels, in(s, start), nil, impl.ErrFull)
		expect(t, impl.TakeMoves, in(s, start, []int64{0}), nil, nil, impl.ErrFull)
		return
	}
	results := call(t, impl.MovesOf, s, start)
	moves := results[0].([]impl.Move)
	if len(moves) != want || results[1] != int64(impl.OK) {
		t.Errorf("%d moves, code %d; want %d", len(moves), results[1], want)
	}
	expect(t, impl.IsStuck, in(s, start), want == 0)
	expect(t, impl.TakeMoves, in(s, start, []int64{int64(want)}), nil, nil, impl.ErrRange)
	for i, move := range moves {
		state, labels, code := impl.TakeMoves(s, start, []int64{int64(i)})
		if !same(state, move.State) || !same(labels, []string{move.Label}) || code != impl.OK {
			t.Fatalf("choice %d: %+v, %q, %d; want %+v", i, state, labels, code, move)
		}
	}
}
