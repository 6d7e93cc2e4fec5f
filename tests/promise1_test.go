package tests

import (
	"math"
	"math/rand/v2"
	"reflect"
	"runtime"
	"slices"
	"strings"
	"sync"
	"testing"
	"time"

	"loop.example/g01075/impl"
)

// functionsOfStage1 returns all functions of chapters 1 and 2.
func functionsOfStage1() []any {
	return []any{
		impl.CodeName, impl.IsName, impl.Decimal, impl.ReadDecimal, impl.SplitWords, impl.ListText, impl.ReadList, impl.Crc16,
		impl.CompareLists, impl.IsAction, impl.IsLabel, impl.LabelName, impl.LabelValues, impl.LabelText,
		impl.IsPartition, impl.NormalPartition, impl.BlocksOf, impl.FromBlocks, impl.RefinesPartition, impl.MeetPartitions,
		impl.JoinPartitions, impl.PairsOf, impl.IsRelation, impl.ComposeRelations, impl.InverseRelation, impl.ClosureOf,
		impl.SpanOf, impl.PartitionText, impl.ReadPartition,
	}
}

// functionsOfStage2 returns all functions of chapters 3 and 4.
func functionsOfStage2() []any {
	return []any{
		impl.ValidTerms, impl.Operate, impl.Evaluate, impl.VariablesOf, impl.OperandsOf, impl.Substitute, impl.ShiftVariables,
		impl.FoldTerms, impl.ConstantOf, impl.Conjunction, impl.SolutionsOf,
		impl.LevelOf, impl.OperatorText, impl.ReadOperator, impl.TokensOf, impl.ExpressionText, impl.ParseExpression,
		impl.CanonicalTerms, impl.DifferingValues, impl.PostfixOf, impl.FromPostfix,
	}
}

// functionsOfStage3 returns all functions of chapter 5.
func functionsOfStage3() []any {
	return []any{
		impl.BodyFault, impl.ValidDefinitions, impl.SystemFault, impl.ValidSystem, impl.SameSystem, impl.PartEnd, impl.ScopeAt,
		impl.CallsOf, impl.ActionNames, impl.UsedDefinitions, impl.PruneSystem, impl.MeetingOf,
	}
}

// functionsOfStage4 returns all functions of chapter 6.
func functionsOfStage4() []any {
	return []any{
		impl.DefinitionText, impl.SystemLines, impl.SystemText, impl.ParseSystem, impl.IsSource, impl.CanonicalSource,
		impl.RenameDefinition, impl.RenameAction, impl.AddComponent, impl.RemoveComponent,
	}
}

// functionsOfStage5 returns all functions of chapter 7.
func functionsOfStage5() []any {
	return []any{
		impl.ValidPoint, impl.ValidState, impl.StartState, impl.StepsOf, impl.MovesOf, impl.TakeMoves, impl.IsStuck, impl.MoveLabels,
		impl.StateText, impl.ReadState,
	}
}

// functionsOfStage6 returns all functions of chapter 8.
func functionsOfStage6() []any {
	return []any{
		impl.ValidLinear, impl.LinearMoves, impl.PlacesOf, impl.LinearOf, impl.ConstantParameters, impl.RemoveConstants, impl.NeededParameters,
		impl.RemoveUnused, impl.FoldLinear, impl.UnrollSums, impl.LinearText, impl.ReadLinear,
	}
}

// functionsOfStage7 returns all functions of chapter 9.
func functionsOfStage7() []any {
	return []any{
		impl.InterleaveLinear, impl.MeetLinear, impl.RestrictLinear, impl.HideLinear, impl.RenameLinear, impl.DistinctSummands, impl.LinearNames,
		impl.StartLinear, impl.NetworkLinear,
	}
}

// functionsOfStage8 returns all functions of chapter 10, and those of chapter 11 that its tests need.
func functionsOfStage8() []any {
	return []any{
		impl.ExploreLinear, impl.ExploreSystem, impl.StateIndex, impl.DistancesOf, impl.ShortestPath, impl.EndOfPath, impl.PathLabels,
		impl.ReplayLabels, impl.ReplayLinear, impl.CheckInvariant, impl.DeadlockTrace, impl.ValidLts, impl.LtsText,
	}
}

// functionsOfStage9 returns the other functions of chapter 11.
func functionsOfStage9() []any {
	return []any{
		impl.SameLts, impl.ReadLts, impl.OutOf, impl.SuccessorsOf, impl.ReachableStates, impl.ReachablePart, impl.DeadlocksOf, impl.IsDeterministicLts,
		impl.UsedLabels, impl.HideLabels, impl.RenameLabels, impl.UnionLts, impl.ProductLts,
	}
}

// functionsOfStage10 returns all functions of chapter 12.
func functionsOfStage10() []any {
	return []any{
		impl.InternalClosure, impl.AfterTrace, impl.IsCompletedTrace, impl.DeterminizeLts, impl.IncludesTraces, impl.EqualTraces, impl.MinimalTraces,
		impl.CountTraces, impl.TracesOf, impl.CommonTraces,
	}
}

// argumentsOf returns arguments of one type, most of them invalid somewhere.
func argumentsOf(typ reflect.Type) []any {
	switch typ {
	case reflect.TypeFor[int64]():
		return []any{int64(math.MinInt64), int64(-1), int64(0), int64(1), int64(2), int64(3), int64(11), int64(12), int64(40), int64(41),
			int64(64), int64(65535), int64(65536), int64(math.MaxInt64)}
	case reflect.TypeFor[string]():
		return []any{"", " ", "-", "|", ",", "(", "tau", "a", "a(1)", "a(01)", "send(1,0)", "tau(0)", "0", "-0", "1,2", "0 2|1", "1|0",
			"+", "<=", "v0", "v0+)", "(v0", "v0 64", "!(v0=1)&v1-(2-v2)<3", strings.Repeat("!", 60) + "0", strings.Repeat("(", 400),
			"\x00", "\xff", "\xff(\xff)", "é(1)", " a  b ", strings.Repeat("a", 3000), strings.Repeat("0|", 3000), strings.Repeat(",", 3000),
			strings.Repeat("9", 3000), "\ud7ff\ue000",
			"put", "p:0:-", "send:0:- hold:0:- add:0:5", "send:0:- hold:0:- add:0:05", "p:0:0 r:0:-9", "proc p 0 = a.p", "proc p 0 = a.p\nrun p", "proc p 0 = a.q\nrun p", "proc p 0 = a.p(1)\nrun p",
			"1 0|-|-", "1 0||", "2 0|a|0:1:1", "2 0|a|0:1:1 0:0:1", "41 0|-|-", "tau|a|0:0:0",
			"linear 0: -", "linear 1: 5\nsum 1 if v0<v1 do a(v1) then v0", "linear 1: 5\nsum 1 if v0<v2 do a(v1) then v0"}
	case reflect.TypeFor[[]int64]():
		return []any{[]int64(nil), []int64{0}, []int64{1}, []int64{-1}, []int64{0, 0}, []int64{0, 1, 0}, []int64{0, 1, 1}, []int64{0, 2},
			[]int64{7, 3, 7, 5}, []int64{math.MinInt64, math.MaxInt64}, counted(40), repeated(40, 0), counted(41), repeated(64, 3), repeated(65, 3),
			repeated(1000, 0)}
	case reflect.TypeFor[[]impl.Term]():
		return termArguments()
	case reflect.TypeFor[[]impl.Definition]():
		return definitionArguments()
	case reflect.TypeFor[impl.System]():
		return systemArguments()
	case reflect.TypeFor[impl.Component]():
		return []any{impl.Component{}, impl.Component{Definition: 1}, impl.Component{Definition: 3, Values: []int64{7}}, impl.Component{Definition: -1},
			impl.Component{Definition: math.MaxInt64, Values: []int64{math.MinInt64}}, impl.Component{Values: repeated(1000, 0)}}
	case reflect.TypeFor[impl.Point]():
		return pointArguments()
	case reflect.TypeFor[[]impl.Point]():
		return stateArguments()
	case reflect.TypeFor[impl.Linear]():
		return linearArguments()
	case reflect.TypeFor[impl.Lts]():
		return ltsArguments()
	case reflect.TypeFor[[]string]():
		return []any{[]string(nil), []string{"a"}, []string{"a", "a", "a(1)"}, []string{"tau", "tau", "b"}, []string{"a", "b", "move"}, manyNames(12), manyNames(13), []string{"b", "a"}, []string{"a", "a"}, []string{"tau"}, []string{""},
			[]string{"\xff"}, make([]string, 1000)}
	case reflect.TypeFor[[]impl.Meeting]():
		return []any{[]impl.Meeting(nil), meetings("a a c", "a b c"), meetings("a taus c", "b b c"), meetings("b a c"), meetings("a b tau"), make([]impl.Meeting, 1000)}
	case reflect.TypeFor[[][]impl.Term]():
		return []any{[][]impl.Term(nil), [][]impl.Term{nil}, [][]impl.Term{num(1)}, [][]impl.Term{vr(0), vr(1)}, [][]impl.Term{vr(0), nil},
			[][]impl.Term{vr(0), num(64)}, slices.Repeat([][]impl.Term{num(1)}, 30), slices.Repeat([][]impl.Term{num(1)}, 31),
			[][]impl.Term{nots(59, num(1))}, [][]impl.Term{nots(59, num(1)), num(1)}, slices.Repeat([][]impl.Term{num(1)}, 5000)}
	}
	return []any{[][]int64(nil), [][]int64{nil}, [][]int64{{}, {0}}, [][]int64{{0}}, [][]int64{{0, 0}}, [][]int64{{0, 1}, {1, 0}},
		[][]int64{{1, 0}, {0, 1}}, [][]int64{{0, 1}, {0, 1}}, [][]int64{{0, 1}, {1, 2}}, [][]int64{{0, 1, 2}}, [][]int64{{1}, {2, 0}},
		[][]int64{{0}, {1}, {2}}, [][]int64{{-1, 0}}, [][]int64{{math.MinInt64, math.MaxInt64}}, [][]int64{counted(40)},
		[][]int64{counted(41)}, [][]int64{repeated(1000, 0)}, allPairs(12), make([][]int64, 100)}
}

func termArguments() []any {
	sum := op(impl.OpAdd, vr(0), vr(1))
	return []any{[]impl.Term(nil), num(0), num(1), num(63), num(64), num(-1), vr(0), vr(1), vr(28), vr(29), vr(-1), sum, not(sum), sum[1:], sum[:2],
		op(impl.OpLess, vr(0), vr(1)), op(impl.OpMul, op(impl.OpAdd, num(2), num(3)), vr(0)), op(9, vr(0), vr(1)), op(-1, vr(0), vr(1)),
		append(sum[:3:3], num(0)...), []impl.Term{{Kind: 3, Value: 1}, {}}, []impl.Term{{Kind: 4}}, []impl.Term{{Kind: -1}},
		[]impl.Term{{Kind: math.MaxInt64, Value: math.MinInt64}}, []impl.Term{{Kind: 1}, {Kind: 1, Value: 1}, {Kind: 2}},
		nots(59, vr(0)), nots(60, vr(0)), slices.Repeat(num(0), 1000), slices.Repeat([]impl.Term{{Kind: 2}}, 1000)}
}

func definitionArguments() []any {
	stop := stopPart()
	list := []any{
		[]impl.Definition(nil), make([]impl.Definition, 1), make([]impl.Definition, 4), make([]impl.Definition, 5), example().Definitions,
		defs(3, stop), defs(4, stop), defs(math.MinInt64, stop), defs(0), defs(0, stop, stop), defs(0, again(1000, stop)...), defs(0, again(20, guardPart(num(1)))...),
		defs(0, impl.Part{Kind: math.MaxInt64, Number: math.MinInt64, Name: "\xff"}), defs(0, actPart("\xff", nil), stop), defs(0, sumPart(8), stop),
		defs(0, actPart("a"), callPart(math.MaxInt64)), defs(0, callPart(0)), defs(3, again(4, sumPart(1), stop)...), defs(0, guardPart(vr(math.MinInt64)), stop),
		append(defs(0, stop), def("p", 0, stop)), append(defs(0, actPart("a"), callPart(1, vr(0))), def("q", 1, actPart("b", vr(0)), callPart(0))),
	}
	for _, s := range randomSystems(3) {
		list = append(list, s.Definitions)
	}
	return list
}

func systemArguments() []any {
	calls := [4][]int64{{1}, {0}, {3, 2}, {0}}
	list := []any{impl.System{}, example(), chain(calls, 1), chain(calls, 2, 0), chain(calls, 4), chain(calls)}
	for _, change := range []changeOfSystem{
		func(s *impl.System) { s.Meetings = meetings("a a b") },
		func(s *impl.System) { s.Meetings = meetings("tau a b") },
		func(s *impl.System) { s.Allowed = []string{"b", "a"} },
		func(s *impl.System) { s.Hidden = make([]string, 1000) },
		func(s *impl.System) { s.Components[2].Values = []int64{math.MinInt64} },
	} {
		s := example()
		change(&s)
		list = append(list, s)
	}
	return append(list, randomSystems(1)[0])
}

func pointArguments() []any {
	var list []any
	for _, p := range []impl.Point{
		{}, pt(0, 0, 1), pt(1, 0), pt(1, 1), pt(1, 2), pt(2, 1, 3), pt(3, 0, 5), pt(3, 6, 5, 7), pt(3, 5, 5, 7), pt(3, 8, 5, 7), pt(0, 1, 1), pt(0, 0, 1, 2, 3),
		pt(0, 0, -1), pt(0, 0, 64), pt(0, -1), pt(-1, 0), pt(4, 0), pt(math.MinInt64, math.MaxInt64, math.MinInt64), pt(0, 0, repeated(1000, 0)...),
	} {
		list = append(list, p)
	}
	return list
}

func stateArguments() []any {
	list := []any{startOf(example()), startOf(randomSystems(1)[0]), firstStates(example(), 20)[19], make([]impl.Point, 1000)}
	for _, state := range notStates()[:9] {
		list = append(list, state)
	}
	for _, p := range pointArguments() {
		list = append(list, []impl.Point{p.(impl.Point)})
	}
	return list
}

func linearArguments() []any {
	list := []any{impl.Linear{Parameters: math.MaxInt64, Start: repeated(1000, math.MinInt64), Summands: make([]impl.Summand, 1000)}, impl.Linear{Summands: make([]impl.Summand, 1)}}
	for _, l := range slices.Concat(validLinears(), invalidLinears(), randomLinears(20), walkers(20)) {
		list = append(list, l)
	}
	return list
}

func ltsArguments() []any {
	list := []any{impl.Lts{States: math.MinInt64, Initial: math.MaxInt64, Labels: make([]string, 1000), Edges: make([]impl.Edge, 1000)}}
	for _, x := range slices.Concat(validLtss(), invalidLtss(), smallLtss(20), largeLtss(5), tooLargeLtss(), largestLtss(), []impl.Lts{hall()}) {
		list = append(list, x)
	}
	return list
}

func TestPromise1AllArguments(t *testing.T) {
	t.Parallel()
	for _, f := range slices.Concat(functionsOfStage1(), functionsOfStage2(), functionsOfStage3(), functionsOfStage4(), functionsOfStage5(), functionsOfStage6(), functionsOfStage7(), functionsOfStage8(), functionsOfStage9(), functionsOfStage10()) {
		t.Run(nameOf(f), func(t *testing.T) {
			t.Parallel()
			for _, args := range argumentLists(reflect.TypeOf(f)) {
				checkZeroValues(t, f, args, call(t, f, args...))
			}
		})
	}
}

// argumentLists returns all lists of arguments of a function, or some if there are very many.
func argumentLists(typ reflect.Type) [][]any {
	const most = 12000
	r := rand.New(rand.NewPCG(67, 68))
	lists := [][]any{nil}
	for i := range typ.NumIn() {
		var longer [][]any
		for _, list := range lists {
			for _, a := range argumentsOf(typ.In(i)) {
				longer = append(longer, append(list[:len(list):len(list)], a))
			}
		}
		if len(longer) > most {
			r.Shuffle(len(longer), func(i, k int) { longer[i], longer[k] = longer[k], longer[i] })
			longer = longer[:most]
		}
		lists = longer
	}
	return lists
}

// checkZeroValues checks that the results beside an error code or a false are zero values.
func checkZeroValues(t *testing.T, f any, args, results []any) {
	t.Helper()
	last := len(results) - 1
	if last == 0 || results[last] == int64(impl.OK) || results[last] == true {
		return
	}
	// The place of the first error is that of an error of syntax or, in a source text, of a name that is not found.
	hasPlace := results[last] == int64(impl.ErrSyntax) || results[last] == int64(impl.ErrNotFound) && nameOf(f) == "ParseSystem"
	for _, r := range results[:last] {
		if _, isNumber := r.(int64); isNumber && hasPlace {
			continue
		}
		if !isZero(r) {
			t.Errorf("%s%s: %#v is not a zero value", nameOf(f), argumentText(args), results)
		}
	}
}

// TestPromise1ManyCalls repeats calls whose inner maps are large, as the order in a map differs from call to call.
func TestPromise1ManyCalls(t *testing.T) {
	blocks := [][]int64{}
	for i := range int64(20) {
		blocks = append(blocks, []int64{39 - i, i})
	}
	want, _ := impl.FromBlocks(40, blocks)
	for range 50 {
		expect(t, impl.FromBlocks, in(40, blocks), want, impl.OK)
		expect(t, impl.PartitionText, in(counted(40)), textOfNumbers(40, "|"))
		expect(t, impl.NormalPartition, in(counted(40)), counted(40), impl.OK)
		expect(t, impl.JoinPartitions, in(want, counted(40)), want, impl.OK)
		expect(t, impl.MeetPartitions, in(want, repeated(40, 0)), want, impl.OK)
	}
}

// TestPromise1ResultsAreTheCallers changes results, which must not change what later calls return.
func TestPromise1ResultsAreTheCallers(t *testing.T) {
	for range 2 {
		blocks, _ := impl.BlocksOf([]int64{0, 1, 0})
		closed, _ := impl.ClosureOf(2, nil)
		if !same(blocks, [][]int64{{0, 2}, {1}}) || !same(closed, [][]int64{{0, 0}, {1, 1}}) {
			t.Error(blocks, closed)
		}
		blocks[0][0], closed[0][0] = 9, 9
		blocks[1], closed[1] = nil, nil
	}
}

func TestPromise1TermsAreTheCallers(t *testing.T) {
	sum := op(impl.OpAdd, vr(0), num(1))
	for range 2 {
		operands, _ := impl.OperandsOf(sum)
		always, _ := impl.Conjunction(nil)
		solutions, _ := impl.SolutionsOf(num(1), []int64{1})
		tokens, offsets, _ := impl.TokensOf("v0<=1")
		got := []any{operands, always, solutions, tokens, offsets}
		want := []any{[][]impl.Term{vr(0), num(1)}, num(1), [][]int64{{0}, {1}}, []string{"v0", "<=", "1"}, []int64{0, 2, 4}}
		for i := range want {
			if !same(got[i], want[i]) {
				t.Error(got[i], want[i])
			}
		}
		operands[0][0], always[0], solutions[0][0], tokens[0], offsets[0] = impl.Term{}, impl.Term{}, 9, "", 9
		operands[1], solutions[1] = nil, nil
	}
}

// checkCallers makes results twice and changes them in between, which must not change what is made the second time.
func checkCallers(t *testing.T, results func() []any) {
	t.Helper()
	var first []any
	for range 2 {
		for i, result := range results() {
			if len(first) <= i {
				first = append(first, emptyForNil(result))
			}
			if !same(result, first[i]) {
				t.Errorf("result %d: %+v; at first %+v", i, result, first[i])
			}
			clearAll(reflect.ValueOf(result))
		}
	}
}

func TestPromise1StatesAreTheCallers(t *testing.T) {
	s, state := copied(example()), copied(startOf(example()))
	checkCallers(t, func() []any {
		start, _ := impl.StartState(s)
		steps, _ := impl.StepsOf(s.Definitions, state[2])
		moves, _ := impl.MovesOf(s, state)
		none, _, _ := impl.TakeMoves(s, state, nil)
		one, labels, _ := impl.TakeMoves(s, state, []int64{8})
		names, _ := impl.MoveLabels(s, state)
		read, _ := impl.ReadState(s, "send:0:- hold:0:- add:0:5")
		return []any{start, steps, moves, none, one, labels, names, read}
	})
	if !same(s, example()) || !same(state, startOf(example())) {
		t.Error("an argument is changed")
	}
}

func TestPromise1LinearsAreTheCallers(t *testing.T) {
	s, l := copied(example()), lin("linear 3: 7,0,9", "sum 1,2 if v0+v1<v3 do a(v2,v4) then v0;v3;v2", "sum - if 1 do tau then 7;v1;v0+2")
	checkCallers(t, func() []any {
		places, _ := impl.PlacesOf(s)
		moves, _ := impl.LinearMoves(l, []int64{0, 0, 5})
		made, _ := impl.LinearOf(s, 2)
		folded, _ := impl.FoldLinear(l)
		unrolled, _ := impl.UnrollSums(l)
		less, left, _ := impl.RemoveConstants(l)
		used, needed, _ := impl.RemoveUnused(l)
		constant, _ := impl.ConstantParameters(l)
		also, _ := impl.NeededParameters(l)
		read, _ := impl.ReadLinear("linear 1: 5\nsum 1 if v0<v1 do a(v1) then v0")
		return []any{places, moves, made, folded, unrolled, less, left, used, needed, constant, also, read}
	})
	if !same(s, example()) || exactText(l) != "linear 3: 7,0,9\nsum 1,2 if v0+v1<v3 do a(v2,v4) then v0;v3;v2\nsum - if 1 do tau then 7;v1;v0+2" {
		t.Error("an argument is changed")
	}
}

// TestPromise1NetworksAreTheCallers also composes a process with itself.
func TestPromise1NetworksAreTheCallers(t *testing.T) {
	s, l := copied(example()), copied(actions())
	list, names, start := meetings("a a c", "b b c"), []string{"a"}, []int64{1, 2}
	checkCallers(t, func() []any {
		both, _ := impl.InterleaveLinear(l, l)
		met, _ := impl.MeetLinear(l, l, list)
		alone, _ := impl.MeetLinear(l, impl.Linear{}, list)
		restricted, _ := impl.RestrictLinear(l, names)
		hidden, _ := impl.HideLinear(l, names)
		renamed, _ := impl.RenameLinear(l, "a", "b")
		distinct, _ := impl.DistinctSummands(l)
		found, _ := impl.LinearNames(l)
		started, _ := impl.StartLinear(l, start)
		network, _ := impl.NetworkLinear(s)
		return []any{both, met, alone, restricted, hidden, renamed, distinct, found, started, network}
	})
	if !same(s, example()) || !same(l, actions()) || !same(list, meetings("a a c", "b b c")) || !same(names, []string{"a"}) || !same(start, []int64{1, 2}) {
		t.Error("an argument is changed")
	}
}

// TestPromise1ExplorationsAreTheCallers also takes the state beside a false, which is one of those that were explored.
func TestPromise1ExplorationsAreTheCallers(t *testing.T) {
	s := systemOf(t, "proc p 1 = sum 1.[v0<2]a(v1).p(v0+1)", "proc q 0 = a(1).q", "run p(0) | q", "meet a a c", "allow a c")
	l, x := lin("linear 2: 7,0", "sum 1 if v1<2 do a(v2) then v0;v1+1", "sum - if v0=7 do tau then 8;v1"), copied(house())
	targets, path, labels, e := []int64{0, 3}, []int64{3, 6}, []string{"a(1)"}, op(impl.OpLess, vr(1), num(2))
	checkCallers(t, func() []any {
		one, states, _ := impl.ExploreLinear(l)
		two, points, _ := impl.ExploreSystem(s)
		distances, _ := impl.DistancesOf(x)
		shortest, _ := impl.ShortestPath(x, targets)
		names, _ := impl.PathLabels(x, path)
		replayed, _ := impl.ReplayLabels(x, labels)
		none, _ := impl.ReplayLabels(x, nil)
		reached, _ := impl.ReplayLinear(l, []string{"a(0)"})
		start, _ := impl.ReplayLinear(l, nil)
		_, broken, _ := impl.CheckInvariant(l, e)
		trace, _ := impl.DeadlockTrace(l)
		return []any{one, states, two, points, distances, shortest, names, replayed, none, reached, start, broken, trace}
	})
	if !same(l.Start, []int64{7, 0}) || !same(x, house()) || !same(targets, []int64{0, 3}) || !same(path, []int64{3, 6}) || !same(labels, []string{"a(1)"}) || !same(e, op(impl.OpLess, vr(1), num(2))) {
		t.Error("an argument is changed")
	}
}

// TestPromise1LtssAreTheCallers also combines a system with itself.
func TestPromise1LtssAreTheCallers(t *testing.T) {
	x, names := copied(house()), []string{"b"}
	checkCallers(t, func() []any {
		read, _ := impl.ReadLts("2 0|a|0:1:1")
		out, _ := impl.OutOf(x, 1)
		next, _ := impl.SuccessorsOf(x, 1, "tau")
		states, _ := impl.ReachableStates(x)
		part, numbers, _ := impl.ReachablePart(x)
		ends, _ := impl.DeadlocksOf(impl.Lts{States: 1, Labels: x.Labels[:1]})
		used, _ := impl.UsedLabels(x)
		kept, _ := impl.HideLabels(x, nil)
		hidden, _ := impl.HideLabels(x, names)
		renamed, _ := impl.RenameLabels(x, "b", "b")
		union, _ := impl.UnionLts(x, x)
		product, _ := impl.ProductLts(x, x, names)
		alone, _ := impl.ProductLts(x, impl.Lts{States: 1, Labels: x.Labels}, names)
		return []any{read, out, next, states, part, numbers, ends, used, kept, hidden, renamed, union, product, alone}
	})
	if !same(x, house()) || !same(names, []string{"b"}) {
		t.Error("an argument is changed")
	}
}

// TestPromise1TracesAreTheCallers also takes traces beside a false, and sets and traces of one result.
func TestPromise1TracesAreTheCallers(t *testing.T) {
	x, y, states, trace := copied(hall()), ring(3, "a"), []int64{0, 3}, []string{"a", "a(1)"}
	checkCallers(t, func() []any {
		closed, _ := impl.InternalClosure(x, states)
		end, _ := impl.InternalClosure(x, []int64{4})
		after, _ := impl.AfterTrace(x, trace)
		start, _ := impl.AfterTrace(x, nil)
		d, sets, _ := impl.DeterminizeLts(x)
		alone, one, _ := impl.DeterminizeLts(impl.Lts{States: 1, Labels: x.Labels})
		_, missing, _ := impl.IncludesTraces(y, x)
		_, other, _ := impl.EqualTraces(x, y)
		least, _ := impl.MinimalTraces(x)
		traces, _ := impl.TracesOf(x, 3)
		empty, _ := impl.TracesOf(x, 0)
		common, _ := impl.CommonTraces(x, x)
		less, _ := impl.CommonTraces(x, y)
		return []any{closed, end, after, start, d, sets, alone, one, missing, other, least, traces, empty, common, less}
	})
	if !same(x, hall()) || !same(y, ring(3, "a")) || !same(states, []int64{0, 3}) || !same(trace, []string{"a", "a(1)"}) {
		t.Error("an argument is changed")
	}
}

// clearAll puts other values into all slices that a result holds.
func clearAll(v reflect.Value) {
	switch v.Kind() {
	case reflect.Struct:
		for i := range v.NumField() {
			clearAll(v.Field(i))
		}
	case reflect.Slice:
		for i := range v.Len() {
			clearAll(v.Index(i))
			fill(v.Index(i))
		}
	}
}

// TestPromise1AtTheSameTime makes calls from several goroutines, which can only agree if nothing is kept between calls.
func TestPromise1AtTheSameTime(t *testing.T) {
	texts := []string{"!(v0=1)&v1-(2-v2)<3", "v0-v1-v2", "v0+)", "(v0", "", "1+64", strings.Repeat("!", 61) + "v5", "v0 v1 v2 v3"}
	var all sync.WaitGroup
	for k := range 8 {
		all.Go(func() {
			for i := range 200 {
				s := texts[(i+k)%len(texts)]
				e, at, code := impl.ParseExpression(s)
				again, atAgain, codeAgain := impl.ParseExpression(s)
				if !same(e, again) || at != atAgain || code != codeAgain {
					t.Error(s, e, at, code, again, atAgain, codeAgain)
				}
				if code == impl.OK && impl.ExpressionText(e) != s {
					t.Error(s, impl.ExpressionText(e))
				}
			}
		})
	}
	all.Wait()
}

// TestPromise1NoGoroutineIsLeft looks for goroutines that still wait when texts end in an error.
func TestPromise1NoGoroutineIsLeft(t *testing.T) {
	before := runtime.NumGoroutine()
	for _, s := range []string{"v0+)+1+2+3", "64 1 2 3", "(v0", ")))", "v0 v1 v2", strings.Repeat("0+", 60) + "0", strings.Repeat(")", 400), "", "v0"} {
		for range 20 {
			impl.ParseExpression(s)
			impl.TokensOf(s)
		}
	}
	// A goroutine may need a moment to end behind its last action.
	for range 5000 {
		if runtime.NumGoroutine() <= before {
			return
		}
		time.Sleep(time.Millisecond)
	}
	t.Errorf("%d goroutines before and %d behind the calls", before, runtime.NumGoroutine())
}
