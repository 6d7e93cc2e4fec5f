package tests

import (
	"math/rand/v2"
	"slices"
	"testing"

	"loop.example/g01075/impl"
)

// withinLimit returns a list, or no list and ErrFull if there are more than MaxSteps elements.
func withinLimit[T any](list []T) ([]T, int64) {
	if len(list) > 200 {
		return nil, impl.ErrFull
	}
	return list, impl.OK
}

// limitedMoves returns what MovesOf should return for a state.
func limitedMoves(s impl.System, state []impl.Point) ([]impl.Move, int64) {
	for _, p := range state {
		if _, code := withinLimit(stepsOf(s.Definitions, p)); code != impl.OK {
			return nil, code
		}
	}
	return withinLimit(movesOf(s, state))
}

// hasMove reports whether a state has moves, however many steps and moves there are.
func hasMove(s impl.System, state []impl.Point) bool {
	for i, p := range state {
		for _, step := range stepsOf(s.Definitions, p) {
			if step.Label == "tau" || slices.Contains(s.Allowed, impl.LabelName(step.Label)) {
				return true
			}
		}
		for k := range i {
			if len(meetingsOf(s, state, k, i)) > 0 {
				return true
			}
		}
	}
	return false
}

// wideSystems returns systems whose points have many steps: sums with an action are put in front of the bodies of some
// random systems.
func wideSystems(n int) []impl.System {
	m := maker{r: rand.New(rand.NewPCG(37, 38))}
	list := randomSystems(n)
	for _, s := range list {
		for k, d := range s.Definitions {
			var front []impl.Part
			for range 1 + m.r.IntN(4) {
				front = append(front, sumPart(1+m.r.Int64N(7)))
			}
			action := actPart([]string{"a", "b"}[m.r.IntN(2)], m.expressions(m.r.IntN(3), d.Parameters+int64(len(front)))...)
			s.Definitions[k].Body = slices.Concat(front, []impl.Part{choicePart(), action, stopPart()}, d.Body)
			if !impl.ValidSystem(s) {
				s.Definitions[k].Body = d.Body
			}
		}
	}
	return list
}

// pointsOf returns one point with random values for each part at which a component can be.
func pointsOf(r *rand.Rand, list []impl.Definition) []impl.Point {
	var points []impl.Point
	for k, d := range list {
		for part, p := range d.Body {
			if p.Kind != impl.PartCall {
				points = append(points, pt(int64(k), int64(part), randomValues(r, int(scopeOf(d, part)))...))
			}
		}
	}
	return points
}

// headsOf returns one point with random values for the part 0 of each definition.
func headsOf(r *rand.Rand, list []impl.Definition) []impl.Point {
	return slices.DeleteFunc(pointsOf(r, list), func(p impl.Point) bool { return p.Part > 0 })
}

// randomState returns a state with some points, to which moves need not lead.
func randomState(r *rand.Rand, s impl.System, points []impl.Point) []impl.Point {
	var state []impl.Point
	for range s.Components {
		state = append(state, points[r.IntN(len(points))])
	}
	return state
}

// eachState calls a function for some states of many systems.
func eachState(n int, check func(s impl.System, state []impl.Point)) {
	r := rand.New(rand.NewPCG(31, 32))
	for _, s := range append(randomSystems(n), example()) {
		points := pointsOf(r, s.Definitions)
		for _, state := range append(firstStates(s, 6), randomState(r, s, points), randomState(r, s, points)) {
			check(s, state)
		}
	}
	for _, s := range wideSystems(n) {
		check(s, startOf(s))
		check(s, randomState(r, s, headsOf(r, s.Definitions)))
		check(s, randomState(r, s, pointsOf(r, s.Definitions)))
	}
}

func TestPromise8StepsAreThoseOfTheDefinition(t *testing.T) {
	t.Parallel()
	r := rand.New(rand.NewPCG(33, 34))
	steps, full := 0, 0
	check := func(list []impl.Definition, points []impl.Point) {
		for _, p := range points {
			want, code := withinLimit(stepsOf(list, p))
			expect(t, impl.StepsOf, in(list, p), want, code)
			expect(t, impl.ValidPoint, in(list, p), true)
			steps += len(want)
			full += int(oneIf(code != impl.OK))
		}
	}
	for _, s := range randomSystems(100) {
		check(s.Definitions, pointsOf(r, s.Definitions))
	}
	for _, s := range wideSystems(200) {
		check(s.Definitions, headsOf(r, s.Definitions))
	}
	if steps < 10000 || full < 50 {
		t.Error("too few cases:", steps, "steps,", full, "points with too many")
	}
}

func TestPromise8MovesAreThoseOfTheDefinition(t *testing.T) {
	t.Parallel()
	moves, full, stuck := 0, 0, 0
	eachState(150, func(s impl.System, state []impl.Point) {
		want, code := limitedMoves(s, state)
		expect(t, impl.MovesOf, in(s, state), want, code)
		expect(t, impl.MoveLabels, in(s, state), labelsOf(want), code)
		isStuck := !hasMove(s, state)
		expect(t, impl.IsStuck, in(s, state), isStuck)
		moves += len(want)
		full += int(oneIf(code != impl.OK))
		stuck += int(oneIf(isStuck))
	})
	if moves < 5000 || full < 80 || stuck < 100 {
		t.Error("too few cases:", moves, "moves,", full, "states with too many,", stuck, "without any")
	}
}

// labelsOf returns the labels of moves, tau first.
func labelsOf(moves []impl.Move) []string {
	var labels []string
	for _, move := range moves {
		if move.Label != "tau" && !slices.Contains(labels, move.Label) {
			labels = append(labels, move.Label)
		}
	}
	slices.Sort(labels)
	if slices.ContainsFunc(moves, func(move impl.Move) bool { return move.Label == "tau" }) {
		labels = slices.Insert(labels, 0, "tau")
	}
	return labels
}

// TestPromise8LabelsAreAllowed looks at moves without their definition.
func TestPromise8LabelsAreAllowed(t *testing.T) {
	t.Parallel()
	alone, together, internal := 0, 0, 0
	eachState(600, func(s impl.System, state []impl.Point) {
		moves, _ := impl.MovesOf(s, state)
		for _, move := range moves {
			name := impl.LabelName(move.Label)
			switch {
			case !impl.IsLabel(move.Label) || slices.Contains(s.Hidden, name):
				t.Fatalf("%+v in %+v", move, s)
			case name == "tau":
				internal++
			case !slices.Contains(s.Allowed, name):
				t.Fatalf("%+v in %+v", move, s)
			case move.Second < 0:
				alone++
			default:
				together++
			}
		}
	})
	if alone < 5000 || together < 1000 || internal < 1000 {
		t.Error("too few cases:", alone, together, internal)
	}
}

// TestPromise8OnlyNamedComponentsChange looks at moves without their definition, too.
func TestPromise8OnlyNamedComponentsChange(t *testing.T) {
	t.Parallel()
	eachState(300, func(s impl.System, state []impl.Point) {
		moves, _ := impl.MovesOf(s, state)
		steps := make([][]impl.Step, len(state))
		for i, p := range state {
			steps[i], _ = impl.StepsOf(s.Definitions, p)
		}
		if len(withoutRepeats(moves)) != len(moves) {
			t.Fatalf("equal moves: %+v", moves)
		}
		for _, move := range moves {
			last := int64(len(state) - 1)
			if move.First < 0 || move.First > last || move.Second != -1 && (move.Second <= move.First || move.Second > last) || !impl.ValidState(s, move.State) {
				t.Fatalf("%+v in %+v", move, s)
			}
			for i := range state {
				named := int64(i) == move.First || int64(i) == move.Second
				if !named && !same(move.State[i], state[i]) || named && !leadsTo(steps[i], move.State[i]) {
					t.Fatalf("component %d in %+v from %+v", i, move, state)
				}
			}
		}
	})
}

func leadsTo(steps []impl.Step, p impl.Point) bool {
	return slices.ContainsFunc(steps, func(step impl.Step) bool {
		next := step.Next
		return next.Definition == p.Definition && next.Part == p.Part && slices.Equal(next.Values, p.Values)
	})
}

func TestPromise8ChosenMovesAreMade(t *testing.T) {
	t.Parallel()
	r := rand.New(rand.NewPCG(35, 36))
	made, ends := 0, map[int64]int{}
	for _, s := range slices.Concat(randomSystems(150), wideSystems(100), []impl.System{example()}) {
		state, code := impl.StartState(s)
		var choices []int64
		var labels []string
		for range 10 {
			expect(t, impl.TakeMoves, in(s, startOf(s), choices), state, labels, code)
			moves, code := limitedMoves(s, state)
			wrong := []int64{-1, int64(len(moves)), int64(len(moves)) + r.Int64N(1000)}[r.IntN(3)]
			if code == impl.OK {
				code = impl.ErrRange
			}
			expect(t, impl.TakeMoves, in(s, startOf(s), append(slices.Clone(choices), wrong, 0)), nil, nil, code)
			if len(moves) == 0 {
				ends[code]++
				break
			}
			choice := r.IntN(len(moves))
			choices, labels, state = append(choices, int64(choice)), append(labels, moves[choice].Label), moves[choice].State
			made++
		}
	}
	if made < 800 || ends[impl.ErrFull] < 10 || ends[impl.ErrRange] < 100 {
		t.Error("too few cases:", made, ends)
	}
}

func TestPromise8StatesAreReadBack(t *testing.T) {
	t.Parallel()
	eachState(200, func(s impl.System, state []impl.Point) {
		text := ""
		for i, p := range state {
			if i > 0 {
				text += " "
			}
			text += s.Definitions[p.Definition].Name + ":" + impl.Decimal(p.Part) + ":" + impl.ListText(p.Values)
		}
		expect(t, impl.StateText, in(s, state), text)
		expect(t, impl.ReadState, in(s, text), state, true)
		expect(t, impl.ValidState, in(s, state), true)
	})
}

// TestPromise8OnlyTextsOfStatesAreRead takes all states of a small system, and texts that differ from theirs by a byte.
func TestPromise8OnlyTextsOfStatesAreRead(t *testing.T) {
	t.Parallel()
	for _, lines := range [][]string{
		{"proc p 1 = a.p(1)", "proc p1 0 = sum 1.b.p1", "run p(3)"},
		{"proc p 0 = a.b.p", "proc q 0 = 0", "run p | q"},
	} {
		s := systemOf(t, lines...)
		texts := map[string][]impl.Point{}
		for _, state := range allStates(s) {
			texts[impl.StateText(s, state)] = state
		}
		for text := range texts {
			for _, other := range changedTexts(text, "0123456789:,- +pq\t\x00") {
				want, found := texts[other]
				if state, ok := impl.ReadState(s, other); !same(state, want) || ok != found {
					t.Fatalf("%q is read as %+v, %v; want %+v, %v", other, state, ok, want, found)
				}
			}
		}
		if len(texts) != len(allStates(s)) || texts[""] != nil {
			t.Error(len(texts), "texts")
		}
	}
}

// allStates returns all states of a system in whose points there is at most one value.
func allStates(s impl.System) [][]impl.Point {
	states := [][]impl.Point{nil}
	for range s.Components {
		var longer [][]impl.Point
		for _, state := range states {
			for _, p := range allPoints(s.Definitions) {
				longer = append(longer, append(slices.Clone(state), p))
			}
		}
		states = longer
	}
	return states
}

func allPoints(list []impl.Definition) []impl.Point {
	var points []impl.Point
	for k, d := range list {
		for part, p := range d.Body {
			switch scope := scopeOf(d, part); {
			case p.Kind == impl.PartCall:
			case scope == 0:
				points = append(points, pt(int64(k), int64(part)))
			default:
				for v := range int64(64) {
					points = append(points, pt(int64(k), int64(part), v))
				}
			}
		}
	}
	return points
}

// changedTexts returns the text and those with one byte less, or with one of some bytes more or in place of another one.
func changedTexts(text, bytes string) []string {
	list := []string{text, ""}
	for i := range len(text) + 1 {
		for _, c := range bytes {
			list = append(list, text[:i]+string(c)+text[i:])
			if i < len(text) {
				list = append(list, text[:i]+string(c)+text[i+1:])
			}
		}
		if i < len(text) {
			list = append(list, text[:i]+text[i+1:])
		}
	}
	return list
}
