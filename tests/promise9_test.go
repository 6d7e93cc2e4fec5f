package tests

import (
	"fmt"
	"math/rand/v2"
	"slices"
	"testing"

	"loop.example/g01075/impl"
)

// linear returns a valid process with few parameters, of which some stay in Start and some are not needed.
func (m *maker) linear() impl.Linear {
	l := impl.Linear{Parameters: m.r.Int64N(7)}
	l.Start = randomValues(m.r, int(l.Parameters))
	for range m.r.IntN(5) {
		s := impl.Summand{Name: []string{"a", "b", "tau"}[m.r.IntN(3)]}
		for range m.r.IntN(4) {
			s.Sums = append(s.Sums, 1+m.r.Int64N(3))
		}
		variables := l.Parameters + int64(len(s.Sums))
		s.Guard = [][]impl.Term{num(1), num(m.r.Int64N(3)), m.expression(0), m.expression(min(variables, 1)), m.expression(variables)}[m.r.IntN(5)]
		if s.Name != "tau" {
			s.Arguments = m.expressions(m.r.IntN(3), []int64{0, min(variables, 2), variables}[m.r.IntN(3)])
		}
		for k := range l.Parameters {
			s.Next = append(s.Next, m.next(l, k, variables))
		}
		l.Summands = append(l.Summands, s)
	}
	return l
}

// next returns an expression for parameter k, which often leaves it as it is.
func (m *maker) next(l impl.Linear, k, variables int64) []impl.Term {
	other := m.r.Int64N(l.Parameters)
	switch m.r.IntN(12) {
	case 0:
		return m.expression(variables)
	case 1:
		return vr(m.r.Int64N(variables))
	case 2:
		return num(l.Start[k])
	case 3:
		return op(impl.OpAdd, vr(other), num((l.Start[k]-l.Start[other]+64)%64))
	case 4:
		return op(impl.OpMul, vr(other), num(l.Start[k]))
	}
	return vr(k)
}

// randomLinears returns valid processes, the same ones in every run.
func randomLinears(n int) []impl.Linear {
	m := maker{r: rand.New(rand.NewPCG(41, 42))}
	var list []impl.Linear
	for range n {
		list = append(list, m.linear())
	}
	return list
}

// eachLinear calls a function for random processes, and for those of the components of random systems.
func eachLinear(n int, check func(l impl.Linear)) {
	for _, l := range randomLinears(n) {
		check(l)
	}
	for _, s := range append(randomSystems(n/4), example()) {
		for k := range s.Components {
			if l, code := linearDefined(s, k); code == impl.OK {
				check(l)
			}
		}
	}
}

// linearStates returns the states of a process that are reached first, at most as many as most.
func linearStates(l impl.Linear, most int) [][]int64 {
	states := [][]int64{l.Start}
	for i := 0; i < len(states); i++ {
		for _, move := range linearMovesOf(l, states[i]) {
			states = append(states, move.Next)
		}
		states = withoutRepeats(states)
		states = states[:min(len(states), most)]
	}
	return states
}

// someStates returns states of a process that are reached, and others.
func someStates(r *rand.Rand, l impl.Linear) [][]int64 {
	states := linearStates(l, 8)
	for range 4 {
		states = append(states, randomValues(r, int(l.Parameters)))
	}
	return states
}

func TestPromise9LinearMovesAreThoseOfTheDefinition(t *testing.T) {
	t.Parallel()
	r := rand.New(rand.NewPCG(43, 44))
	moves, repeats := 0, 0
	eachLinear(300, func(l impl.Linear) {
		expect(t, impl.ValidLinear, in(l), true)
		for _, state := range someStates(r, l) {
			want := linearMovesOf(l, state)
			expect(t, impl.LinearMoves, in(l, state), want, impl.OK)
			expect(t, impl.LinearMoves, in(l, append(slices.Clone(state), 0)), nil, impl.ErrRange)
			moves += len(want)
			repeats += len(everyLinearMove(l, state)) - len(want)
		}
	})
	if moves < 5000 || repeats < 500 {
		t.Error("too few cases:", moves, repeats)
	}
}

// heavySystems returns systems in which sums and guards with many terms are put in front of the bodies of some random
// systems, so that some components have no linear process.
func heavySystems(n int) []impl.System {
	m := maker{r: rand.New(rand.NewPCG(51, 52))}
	list := randomSystems(n)
	for _, s := range list {
		for k, d := range s.Definitions {
			var front []impl.Part
			scope := d.Parameters
			for range m.r.IntN(8) {
				if m.r.IntN(2) == 0 {
					front = append(front, guardPart(randomExpression(m.r, 8+m.r.IntN(8), scope)))
				} else {
					front = append(front, sumPart(1+m.r.Int64N(7)))
					scope++
				}
			}
			s.Definitions[k].Body = slices.Concat(front, []impl.Part{choicePart(), actPart("a", m.expressions(2, scope)...), stopPart()}, d.Body)
			if !impl.ValidSystem(s) {
				s.Definitions[k].Body = d.Body
			}
		}
	}
	return list
}

func TestPromise9LinearProcessesAreThoseOfTheDefinition(t *testing.T) {
	t.Parallel()
	codes := map[int64]int{}
	for _, s := range slices.Concat(randomSystems(300), wideSystems(100), heavySystems(300), []impl.System{example()}) {
		expect(t, impl.PlacesOf, in(s), placesOf(s), impl.OK)
		for k := range s.Components {
			want, code := linearDefined(s, k)
			expect(t, impl.LinearOf, in(s, k), want, code)
			codes[code]++
		}
	}
	if codes[impl.OK] < 800 || codes[impl.ErrFull] < 30 {
		t.Error("too few cases:", codes)
	}
}

// pairsOfMoves returns the labels and goals of moves or steps as texts, in ascending order.
func pairsOfMoves[T any](list []T, text func(T) string) []string {
	var texts []string
	for _, x := range list {
		texts = append(texts, text(x))
	}
	slices.Sort(texts)
	return texts
}

func textOfMove(move impl.LinearMove) string { return fmt.Sprint(move.Label, " ", move.Next) }

// eachPlace calls a function for each place of a system with some values, and the steps of a component that is there.
func eachPlace(r *rand.Rand, s impl.System, check func(p impl.Point, steps []impl.Step)) {
	for _, p := range pointsOf(r, s.Definitions) {
		if placeIndex(s, p.Definition, p.Part) >= 0 {
			check(p, stepsOf(s.Definitions, p))
		}
	}
}

// TestPromise9ComponentsBehaveAsTheirLinearProcesses compares the steps at every place, by the meaning of the parts alone,
// with the moves of the linear process.
func TestPromise9ComponentsBehaveAsTheirLinearProcesses(t *testing.T) {
	t.Parallel()
	r := rand.New(rand.NewPCG(45, 46))
	compared, places := 0, 0
	for _, s := range slices.Concat(randomSystems(300), wideSystems(30), []impl.System{example()}) {
		for k := range s.Components {
			l, code := impl.LinearOf(s, int64(k))
			if code != impl.OK {
				continue
			}
			if !same(l.Start, linearStateOf(s, startOf(s)[k])) {
				t.Fatalf("component %d of %+v starts in %v", k, s, l.Start)
			}
			eachPlace(r, s, func(p impl.Point, steps []impl.Step) {
				want := pairsOfMoves(steps, func(step impl.Step) string {
					return textOfMove(impl.LinearMove{Label: step.Label, Next: linearStateOf(s, step.Next)})
				})
				moves, code := impl.LinearMoves(l, linearStateOf(s, p))
				if got := pairsOfMoves(moves, textOfMove); !same(got, want) || code != impl.OK {
					t.Fatalf("%+v in %+v: %q, code %d; want %q", p, s, got, code, want)
				}
				if found, code := impl.StepsOf(s.Definitions, p); code == impl.OK && len(found) != len(moves) {
					t.Fatalf("%+v in %+v: %+v and %+v", p, s, found, moves)
				}
				compared += len(want)
				places++
			})
		}
	}
	if compared < 15000 || places < 2000 {
		t.Error("too few cases:", compared, "steps at", places, "places")
	}
}

func TestPromise9SimplificationsAreThoseOfTheDefinition(t *testing.T) {
	t.Parallel()
	constant, needed, removed, full := 0, 0, 0, 0
	eachLinear(400, func(l impl.Linear) {
		constants := constantsOf(l)
		left := slices.DeleteFunc(counted(int(l.Parameters)), func(k int64) bool { return slices.Contains(constants, k) })
		expect(t, impl.ConstantParameters, in(l), constants, impl.OK)
		expect(t, impl.RemoveConstants, in(l), withParameters(l, left), left, impl.OK)
		expect(t, impl.NeededParameters, in(l), neededOf(l), impl.OK)
		expect(t, impl.RemoveUnused, in(l), withParameters(l, neededOf(l)), neededOf(l), impl.OK)
		expect(t, impl.FoldLinear, in(l), foldedLinear(l), impl.OK)
		unrolled, code := unrolledLinear(l)
		expect(t, impl.UnrollSums, in(l), unrolled, code)
		constant += len(constants)
		needed += len(neededOf(l))
		removed += len(l.Summands) - len(foldedLinear(l).Summands)
		full += int(oneIf(code != impl.OK))
	})
	if constant < 300 || needed < 300 || removed < 50 || full < 20 {
		t.Error("too few cases:", constant, needed, removed, full)
	}
}

// numbersAt returns the numbers of a state for some parameters.
func numbersAt(state []int64, left []int64) []int64 {
	var list []int64
	for _, k := range left {
		list = append(list, state[k])
	}
	return list
}

// movesAt returns the moves in a state, where of each Next only some parameters are left.
func movesAt(t *testing.T, l impl.Linear, state, left []int64) []impl.LinearMove {
	t.Helper()
	moves, code := impl.LinearMoves(l, state)
	if code != impl.OK {
		t.Fatalf("%+v in %v: code %d", l, state, code)
	}
	for i, move := range moves {
		moves[i].Next = numbersAt(move.Next, left)
	}
	return withoutRepeats(moves)
}

// checkRemoval checks that a process has the same moves in some states without the parameters that a function removes. It
// returns the parameters that are left, and the number of moves if not all are.
func checkRemoval(t *testing.T, l impl.Linear, remove func(impl.Linear) (impl.Linear, []int64, int64), states [][]int64) (left []int64, moves int) {
	t.Helper()
	less, left, code := remove(l)
	if code != impl.OK || !impl.ValidLinear(less) || !same(less.Start, numbersAt(l.Start, left)) {
		t.Fatalf("%+v: %+v, %v, code %d", l, less, left, code)
	}
	for _, state := range states {
		want := movesAt(t, l, state, left)
		if got := movesAt(t, less, numbersAt(state, left), counted(len(left))); !same(got, want) {
			t.Fatalf("%+v in %v: %+v, and with fewer parameters %+v", l, state, want, got)
		}
		if len(left) < int(l.Parameters) {
			moves += len(want)
		}
	}
	return left, moves
}

func TestPromise9ConstantsMayBeRemoved(t *testing.T) {
	t.Parallel()
	moves := 0
	eachLinear(300, func(l impl.Linear) {
		left, count := checkRemoval(t, l, impl.RemoveConstants, linearStates(l, 20))
		moves += count
		constant, _ := impl.ConstantParameters(l)
		if len(left)+len(constant) != int(l.Parameters) {
			t.Fatalf("%+v: %v and %v", l, left, constant)
		}
		for _, state := range linearStates(l, 20) {
			if !same(numbersAt(state, constant), numbersAt(l.Start, constant)) {
				t.Fatalf("%+v comes to %v, but %v are constant", l, state, constant)
			}
		}
	})
	if moves < 1500 {
		t.Error("too few cases:", moves)
	}
}

func TestPromise9UnusedParametersMayBeRemoved(t *testing.T) {
	t.Parallel()
	r := rand.New(rand.NewPCG(47, 48))
	moves := 0
	eachLinear(300, func(l impl.Linear) {
		_, count := checkRemoval(t, l, impl.RemoveUnused, someStates(r, l))
		moves += count
	})
	if moves < 2000 {
		t.Error("too few cases:", moves)
	}
}

func TestPromise9FoldingAndUnrollingChangeNoMove(t *testing.T) {
	t.Parallel()
	r := rand.New(rand.NewPCG(49, 50))
	moves := 0
	eachLinear(300, func(l impl.Linear) {
		forms := []impl.Linear{}
		for _, simplify := range []func(impl.Linear) (impl.Linear, int64){impl.FoldLinear, impl.UnrollSums} {
			if form, code := simplify(l); code == impl.OK && impl.ValidLinear(form) && same(form.Start, l.Start) {
				forms = append(forms, form)
			} else if code != impl.ErrFull {
				t.Fatalf("%+v: %+v, code %d", l, form, code)
			}
		}
		for _, state := range someStates(r, l) {
			want := movesAt(t, l, state, counted(int(l.Parameters)))
			for _, form := range forms {
				if got := movesAt(t, form, state, counted(int(l.Parameters))); !same(got, want) {
					t.Fatalf("%+v in %v: %+v, and then %+v", l, state, want, got)
				}
				moves += len(want)
			}
		}
	})
	if moves < 10000 {
		t.Error("too few cases:", moves)
	}
}

// TestPromise9ComponentsBehaveAsSimplifiedProcesses applies all simplifications one after the other.
func TestPromise9ComponentsBehaveAsSimplifiedProcesses(t *testing.T) {
	t.Parallel()
	moves, removed := 0, 0
	for _, s := range append(randomSystems(200), example()) {
		for k := range s.Components {
			l, code := impl.LinearOf(s, int64(k))
			if code != impl.OK {
				continue
			}
			less, notConstant, _ := impl.RemoveConstants(l)
			less, _ = impl.FoldLinear(less)
			less, needed, _ := impl.RemoveUnused(less)
			left := numbersAt(notConstant, needed)
			for _, state := range firstStates(impl.System{Definitions: s.Definitions, Components: s.Components[k : k+1], Allowed: []string{"a", "b", "c", "d"}}, 8) {
				var want []impl.LinearMove
				for _, step := range stepsOf(s.Definitions, state[0]) {
					want = append(want, impl.LinearMove{Label: step.Label, Next: numbersAt(linearStateOf(s, step.Next), left)})
				}
				got := movesAt(t, less, numbersAt(linearStateOf(s, state[0]), left), counted(len(left)))
				if !same(pairsOfMoves(got, textOfMove), pairsOfMoves(withoutRepeats(want), textOfMove)) {
					t.Fatalf("%+v in %+v: %+v; want %+v", state, s, got, want)
				}
				moves += len(want)
			}
			removed += int(l.Parameters) - len(left)
		}
	}
	if moves < 1000 || removed < 200 {
		t.Error("too few cases:", moves, "moves,", removed, "parameters")
	}
}

func TestPromise9TextsAreReadBack(t *testing.T) {
	t.Parallel()
	eachLinear(400, func(l impl.Linear) {
		text := exactText(l)
		expect(t, impl.LinearText, in(l), text)
		expect(t, impl.ReadLinear, in(text), l, true)
	})
}

// TestPromise9OnlyTextsOfLinearsAreRead takes texts that differ by a byte from those of processes.
func TestPromise9OnlyTextsOfLinearsAreRead(t *testing.T) {
	t.Parallel()
	read := 0
	for _, l := range append(randomLinears(4), counter(), lin("linear 0: -", "sum 1 if !(v0+1) do a(v0*(v0+1)) then -")) {
		for _, text := range changedTexts(exactText(l), "012678:,;- ()!+*=<&|vabtsz\n\r\t\x00A") {
			want, ok := readLinearText(text)
			ok = ok && isLinear(want) && exactText(want) == text
			if !ok {
				want = impl.Linear{}
			}
			if got, found := impl.ReadLinear(text); !same(got, want) || found != ok {
				t.Fatalf("%q is read as %+v, %v; want %+v, %v", text, got, found, want, ok)
			}
			read += int(oneIf(ok))
		}
	}
	if read < 300 {
		t.Error("too few cases:", read)
	}
}
