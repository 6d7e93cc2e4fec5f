package tests

import (
	"math/rand/v2"
	"slices"
	"testing"

	"loop.example/g01075/impl"
)

// walker returns a linear process whose values stay small, so that it often has few states.
func (m *maker) walker() impl.Linear {
	l := impl.Linear{Parameters: m.r.Int64N(4)}
	most := make([]int64, l.Parameters)
	for k := range most {
		most[k] = 1 + m.r.Int64N(6)
		l.Start = append(l.Start, m.r.Int64N(most[k]))
	}
	sums := []int64{2, 2, 7}[m.r.IntN(3)]
	for range m.r.IntN(6) {
		s := impl.Summand{Name: []string{"a", "b", "c", "tau"}[m.r.IntN(4)], Guard: num(1)}
		for range m.r.IntN(3) {
			s.Sums = append(s.Sums, 1+m.r.Int64N(sums))
		}
		variables := l.Parameters + int64(len(s.Sums))
		if variables > 0 && m.r.IntN(4) > 0 {
			s.Guard = op([]int64{impl.OpEqual, impl.OpLess, impl.OpUnequal}[m.r.IntN(3)], vr(m.r.Int64N(variables)), num(m.r.Int64N(4)))
		}
		if s.Name != "tau" && variables > 0 && m.r.IntN(2) == 0 {
			s.Arguments = [][]impl.Term{vr(variables - 1), vr(m.r.Int64N(variables))}[:1+m.r.IntN(2)]
		}
		for k := range l.Parameters {
			s.Next = append(s.Next, m.stepOf(k, most[k], variables))
		}
		if l.Parameters > 0 && len(s.Sums) == 2 && m.r.IntN(6) == 0 {
			s.Next[0] = op(impl.OpAdd, op(impl.OpMul, vr(variables-2), num(8)), vr(variables-1))
		}
		l.Summands = append(l.Summands, s)
	}
	return l
}

// stepOf returns an expression for parameter k, whose values are seldom greater than most.
func (m *maker) stepOf(k, most, variables int64) []impl.Term {
	switch m.r.IntN(8) {
	case 0, 4:
		return op(impl.OpMul, op(impl.OpLess, vr(k), num(most)), op(impl.OpAdd, vr(k), num(1)))
	case 1:
		return num(m.r.Int64N(most))
	case 2:
		return vr(m.r.Int64N(variables))
	case 3:
		return op(impl.OpSub, vr(k), op(impl.OpLess, num(0), vr(k)))
	}
	return vr(k)
}

// walkers returns linear processes, the same ones in every run. One half of them has a summand for each edge of a
// transition system, in any order.
func walkers(n int) []impl.Linear {
	m := maker{r: rand.New(rand.NewPCG(71, 72))}
	var list []impl.Linear
	for range n / 2 {
		x := m.lts(1+m.r.Int64N(20), m.r.IntN(40))
		l := impl.Linear{Parameters: 1, Start: []int64{x.Initial}}
		for _, i := range m.r.Perm(len(x.Edges)) {
			e := x.Edges[i]
			name, values := impl.LabelName(x.Labels[e.Label]), labelNumbers(x.Labels[e.Label])
			l.Summands = append(l.Summands, impl.Summand{Guard: op(impl.OpEqual, vr(0), num(e.From)), Name: name, Arguments: values, Next: [][]impl.Term{num(e.To)}})
		}
		list = append(list, l, m.walker())
	}
	return list
}

// labelNumbers returns the values of a label as expressions.
func labelNumbers(label string) [][]impl.Term {
	var list [][]impl.Term
	values, _ := impl.LabelValues(label)
	for _, v := range values {
		list = append(list, num(v))
	}
	return list
}

// A tally counts what random cases are like.
type tally map[string]int

func (c tally) add(n size) {
	switch {
	case n.fits():
		c["explored"]++
		c["states"] += n.states
		c["edges"] += n.edges
		c["moves of one edge"] += n.moves - n.edges
	case n.tooManyMoves:
		c["too many moves"]++
	case n.states > 40:
		c["too many states"]++
	default:
		c["too many labels"] += int(oneIf(n.labels > 12 && n.edges <= 300))
	}
}

// expect reports what there is too little of.
func (c tally) expect(t *testing.T, least tally) {
	t.Helper()
	for what, n := range least {
		if c[what] < n {
			t.Errorf("too few cases: %q is %d of at least %d in %v", what, c[what], n, c)
		}
	}
}

// checkExploration checks the results of an exploration against the definition.
func checkExploration[S any](t *testing.T, w world[S], n size, results []any) {
	t.Helper()
	x, states, code := results[0].(impl.Lts), results[1].([]S), results[2].(int64)
	if !n.fits() {
		if code != impl.ErrFull || !isZero(x) || len(states) > 0 {
			t.Fatalf("%+v, code %d; there are %+v", x, code, n)
		}
		return
	}
	if code != impl.OK || n.states != len(states) || n.labels != len(x.Labels) || n.edges != len(x.Edges) {
		t.Fatalf("%+v with %d states, code %d; there are %+v", x, len(states), code, n)
	}
	w.check(t, x, states)
}

func TestPromise11LinearsAreExploredExactly(t *testing.T) {
	t.Parallel()
	c := tally{}
	for _, l := range slices.Concat(walkers(1500), randomLinears(300), validLinears()) {
		w := worldOfLinear(l)
		n := w.size()
		checkExploration(t, w, n, call(t, impl.ExploreLinear, l))
		c.add(n)
	}
	c.expect(t, tally{"explored": 1000, "states": 5000, "edges": 8000, "too many states": 100, "too many labels": 10})
}

func TestPromise11SystemsAreExploredExactly(t *testing.T) {
	t.Parallel()
	c := tally{}
	for _, s := range slices.Concat(randomSystems(500), wideSystems(100), heavySystems(100), equalComponents(200)) {
		w := worldOfSystem(s)
		n := w.size()
		checkExploration(t, w, n, call(t, impl.ExploreSystem, s))
		c.add(n)
	}
	c.expect(t, tally{"explored": 400, "states": 2000, "edges": 4000, "moves of one edge": 100, "too many moves": 20, "too many states": 50})
}

// equalComponents returns systems in which all components have the definition and the values of the first one.
func equalComponents(n int) []impl.System {
	list := randomSystems(n)
	for _, s := range list {
		for k := range s.Components {
			s.Components[k] = s.Components[0]
		}
	}
	return list
}

// TestPromise11StatesOfExplorationsAreFound looks for the states of explorations and for others.
func TestPromise11StatesOfExplorationsAreFound(t *testing.T) {
	t.Parallel()
	r := rand.New(rand.NewPCG(73, 74))
	found, missing := 0, 0
	for _, l := range walkers(300) {
		_, states, code := impl.ExploreLinear(l)
		for range 5 {
			state := randomValues(r, int(l.Parameters))
			for k := range state {
				state[k] %= 4
			}
			number := slices.IndexFunc(states, func(s []int64) bool { return same(s, state) })
			switch {
			case code != impl.OK:
				expect(t, impl.StateIndex, in(l, state), 0, impl.ErrFull)
			case number < 0:
				expect(t, impl.StateIndex, in(l, state), 0, impl.ErrNotFound)
				missing++
			default:
				expect(t, impl.StateIndex, in(l, state), number, impl.OK)
				found++
			}
		}
		for number, state := range states {
			expect(t, impl.StateIndex, in(l, state), number, impl.OK)
		}
	}
	if found < 100 || missing < 300 {
		t.Error("too few cases:", found, missing)
	}
}

func TestPromise11InvariantsHoldInAllStates(t *testing.T) {
	t.Parallel()
	r := rand.New(rand.NewPCG(75, 76))
	c := map[string]int{}
	for _, l := range walkers(400) {
		_, states, code := impl.ExploreLinear(l)
		for range 4 {
			e := randomExpression(r, 1+r.IntN(6), l.Parameters)
			if l.Parameters > 0 && r.IntN(2) == 0 {
				e = op([]int64{impl.OpAtMost, impl.OpUnequal}[r.IntN(2)], vr(r.Int64N(l.Parameters)), num(r.Int64N(6)))
			}
			first := slices.IndexFunc(states, func(state []int64) bool { return treeOf(e).value(state) == 0 })
			switch {
			case code != impl.OK:
				expect(t, impl.CheckInvariant, in(l, e), false, nil, impl.ErrFull)
			case first < 0:
				expect(t, impl.CheckInvariant, in(l, e), true, nil, impl.OK)
				c["in none"]++
			default:
				expect(t, impl.CheckInvariant, in(l, e), false, states[first], impl.OK)
				c[[]string{"in the first", "later"}[min(first, 1)]]++
			}
		}
	}
	if c["in none"] < 100 || c["in the first"] < 100 || c["later"] < 100 {
		t.Error("too few cases:", c)
	}
}

// TestPromise11DeadlockTraces takes the least state without edges in the system that is explored, and the least path to it.
func TestPromise11DeadlockTraces(t *testing.T) {
	t.Parallel()
	codes, steps, several := map[int64]int{}, 0, 0
	for _, l := range walkers(1500) {
		x, _, code := impl.ExploreLinear(l)
		var ends []int64
		for k := range x.States {
			if !slices.ContainsFunc(x.Edges, func(e impl.Edge) bool { return e.From == k }) {
				ends = append(ends, k)
			}
		}
		var want []string
		if code == impl.OK && len(ends) == 0 {
			code = impl.ErrNotFound
		}
		if code == impl.OK {
			path, _ := leastPath(x, ends[:1])
			want = labelsOn(x, path)
			several += int(oneIf(len(ends) > 1))
		}
		expect(t, impl.DeadlockTrace, in(l), want, code)
		codes[code]++
		steps += len(want)
	}
	if codes[impl.OK] < 400 || codes[impl.ErrNotFound] < 200 || codes[impl.ErrFull] < 50 || steps < 500 || several < 80 {
		t.Error("too few cases:", codes, steps, several)
	}
}

// lts returns a valid system with some states, at most so many edges, and any initial state.
func (m *maker) lts(states int64, edges int) impl.Lts {
	x := impl.Lts{States: states, Initial: m.r.Int64N(states), Labels: [][]string{{"tau"}, {"tau", "a"}, {"tau", "a", "a(1)", "b"}}[m.r.IntN(3)]}
	for range edges {
		x.Edges = append(x.Edges, impl.Edge{From: m.r.Int64N(states), Label: m.r.Int64N(int64(len(x.Labels))), To: m.r.Int64N(states)})
	}
	slices.SortFunc(x.Edges, func(a, b impl.Edge) int {
		return slices.Compare([]int64{a.From, a.Label, a.To}, []int64{b.From, b.Label, b.To})
	})
	x.Edges = slices.Compact(x.Edges)
	return x
}

// smallLtss returns systems with so few states and edges that all paths can be listed, and largeLtss those with more.
func smallLtss(n int) []impl.Lts {
	m := maker{r: rand.New(rand.NewPCG(77, 78))}
	var list []impl.Lts
	for range n {
		list = append(list, m.lts(2+m.r.Int64N(4), 2+m.r.IntN(8)))
	}
	return list
}

func largeLtss(n int) []impl.Lts {
	m := maker{r: rand.New(rand.NewPCG(79, 80))}
	var list []impl.Lts
	for range n {
		list = append(list, m.lts(20+m.r.Int64N(21), 20+m.r.IntN(60)))
	}
	return append(list, m.lts(40, 300), m.lts(3, 300))
}

// someTargets returns a strictly increasing list of states.
func someTargets(r *rand.Rand, x impl.Lts) []int64 {
	var targets []int64
	for k := range x.States {
		if r.Int64N(x.States+3) < 2 {
			targets = append(targets, k)
		}
	}
	return targets
}

// TestPromise11ShortestPathsAreShortest lists all paths, by their lengths and in lexicographic order.
func TestPromise11ShortestPathsAreShortest(t *testing.T) {
	t.Parallel()
	r := rand.New(rand.NewPCG(81, 82))
	lengths := map[int]int{}
	for _, x := range smallLtss(3000) {
		distances := repeated(int(x.States), -1)
		firsts := make([][]int64, x.States)
		var all [][]int64
		for length := range int(x.States) {
			for _, path := range pathsOf(x, length) {
				if end := endIn(x, path); distances[end] < 0 {
					distances[end], firsts[end] = int64(length), path
				}
				all = append(all, path)
			}
		}
		expect(t, impl.DistancesOf, in(x), distances, impl.OK)
		for range 4 {
			targets := someTargets(r, x)
			first := slices.IndexFunc(all, func(path []int64) bool { return slices.Contains(targets, endIn(x, path)) })
			if first < 0 {
				expect(t, impl.ShortestPath, in(x, targets), nil, impl.ErrNotFound)
				lengths[-1]++
				continue
			}
			expect(t, impl.ShortestPath, in(x, targets), all[first], impl.OK)
			lengths[len(all[first])]++
		}
		for k, path := range firsts {
			if distances[k] >= 0 {
				expect(t, impl.ShortestPath, in(x, []int64{int64(k)}), path, impl.OK)
			}
		}
	}
	if lengths[-1] < 500 || lengths[0] < 500 || lengths[1] < 500 || lengths[2] < 300 || lengths[3] < 30 {
		t.Error("too few cases:", lengths)
	}
}

// TestPromise11ShortestPathsOfLargeSystems finds distances by relaxing edges, and paths by going where it is nearer.
func TestPromise11ShortestPathsOfLargeSystems(t *testing.T) {
	t.Parallel()
	r := rand.New(rand.NewPCG(83, 84))
	steps, missing := 0, 0
	for _, x := range largeLtss(300) {
		distances := distancesIn(x)
		expect(t, impl.DistancesOf, in(x), distances, impl.OK)
		for range 6 {
			targets := someTargets(r, x)
			path, code := leastPath(x, targets)
			expect(t, impl.ShortestPath, in(x, targets), path, code)
			if code != impl.OK {
				missing++
				continue
			}
			least := int64(far)
			for _, k := range targets {
				if distances[k] >= 0 {
					least = min(least, distances[k])
				}
			}
			if int64(len(path)) != least {
				t.Fatalf("to %v in %q: %v", targets, exactLtsText(x), path)
			}
			expect(t, impl.EndOfPath, in(x, path), endIn(x, path), impl.OK)
			expect(t, impl.PathLabels, in(x, path), labelsOn(x, path), impl.OK)
			steps += len(path)
		}
	}
	if steps < 1500 || missing < 100 {
		t.Error("too few cases:", steps, missing)
	}
}

// TestPromise11PathsEndWhereTheirEdgesLead takes all paths of some systems, and lists that are no paths.
func TestPromise11PathsEndWhereTheirEdgesLead(t *testing.T) {
	t.Parallel()
	r := rand.New(rand.NewPCG(85, 86))
	codes := map[int64]int{}
	for _, x := range smallLtss(300) {
		edges := int64(len(x.Edges))
		for length := range 4 {
			paths := pathsOf(x, length)
			for range 6 {
				path := make([]int64, length)
				for i := range path {
					path[i] = r.Int64N(edges+2) - oneIf(r.IntN(8) == 0)
				}
				if r.IntN(2) == 0 && len(paths) > 0 {
					path = paths[r.IntN(len(paths))]
				}
				code := int64(impl.OK)
				switch isPath := slices.ContainsFunc(paths, func(p []int64) bool { return slices.Equal(p, path) }); {
				case slices.ContainsFunc(path, func(i int64) bool { return i < 0 || i >= edges }):
					code = impl.ErrRange
				case !isPath:
					code = impl.ErrOrder
				}
				codes[code]++
				if code != impl.OK {
					expect(t, impl.EndOfPath, in(x, path), 0, code)
					expect(t, impl.PathLabels, in(x, path), nil, code)
					continue
				}
				expect(t, impl.EndOfPath, in(x, path), endIn(x, path), impl.OK)
				expect(t, impl.PathLabels, in(x, path), labelsOn(x, path), impl.OK)
			}
		}
	}
	if codes[impl.OK] < 1000 || codes[impl.ErrRange] < 500 || codes[impl.ErrOrder] < 500 {
		t.Error("too few cases:", codes)
	}
}

// someLabels returns labels, most of which are those of a path.
func someLabels(r *rand.Rand, x impl.Lts) []string {
	var path []int64
	for range r.IntN(6) {
		var next []int64
		for i, e := range x.Edges {
			if e.From == endIn(x, path) {
				next = append(next, int64(i))
			}
		}
		if len(next) > 0 {
			path = append(path, next[r.IntN(len(next))])
		}
	}
	labels := labelsOn(x, path)
	if r.IntN(4) == 0 {
		labels = slices.Insert(labels, r.IntN(len(labels)+1), []string{"tau", "a", "b", "c"}[r.IntN(4)])
	}
	return labels
}

func TestPromise11ReplaysAreThoseOfAllPaths(t *testing.T) {
	t.Parallel()
	r := rand.New(rand.NewPCG(87, 88))
	found, missing, several := 0, 0, 0
	for i, x := range append(smallLtss(500), largeLtss(300)...) {
		for range 4 {
			labels := someLabels(r, x)
			if len(x.Edges) > 100 {
				labels = labels[:min(len(labels), 2)]
			}
			var want []int64
			for k := range x.States {
				if isReplayed(x, labels, k) {
					want = append(want, k)
				}
			}
			code := int64(impl.OK)
			if len(want) == 0 {
				code = impl.ErrNotFound
				missing++
			}
			expect(t, impl.ReplayLabels, in(x, labels), want, code)
			found += len(want)
			several += int(oneIf(len(want) > 1))
			// For small systems, what is defined from behind is also that of all paths.
			if i < 500 && len(labels) < 5 {
				var ends []int64
				for _, path := range pathsOf(x, len(labels)) {
					if slices.Equal(labelsOn(x, path), labels) {
						ends = append(ends, endIn(x, path))
					}
				}
				slices.Sort(ends)
				if ends = slices.Compact(ends); !same(ends, want) && len(ends)+len(want) > 0 {
					t.Fatalf("%q in %q: %v and %v", labels, exactLtsText(x), ends, want)
				}
			}
		}
	}
	if found < 2000 || missing < 300 || several < 500 {
		t.Error("too few cases:", found, missing, several)
	}
}

// spreads returns linear processes in which one label often leads to about as many states as there may be.
func spreads(n int) []impl.Linear {
	m := maker{r: rand.New(rand.NewPCG(91, 92))}
	var list []impl.Linear
	for range n {
		l := lin("linear 2: 0,0", "sum 7,7 if v0<2 do a then v0+1;v2*8+v3", "sum - if v0 do b then v0;v1", "sum - if v1<7 do c then 0;7", "sum 2 if v0=1 do tau then v2;v1")
		l.Summands[0].Sums = []int64{3 + m.r.Int64N(5), 3 + m.r.Int64N(5)}
		l.Summands[2].Guard = op(impl.OpLess, vr(m.r.Int64N(2)), num(m.r.Int64N(64)))
		list = append(list, l)
	}
	return list
}

// TestPromise11ReplaysOfLinears also compares the states with those of the explored system, where there is one.
func TestPromise11ReplaysOfLinears(t *testing.T) {
	t.Parallel()
	r := rand.New(rand.NewPCG(89, 90))
	codes, compared, unexplored := map[int64]int{}, 0, 0
	for _, l := range slices.Concat(walkers(600), randomLinears(300), spreads(100)) {
		x, states, code := impl.ExploreLinear(l)
		for range 3 {
			labels := someLabels(r, x)
			if code != impl.OK {
				labels = labelsOfWalk(r, l)
			}
			want, expected := replayedStates(l, labels)
			expect(t, impl.ReplayLinear, in(l, labels), want, expected)
			codes[expected]++
			if code != impl.OK {
				unexplored++
				continue
			}
			numbers, other := impl.ReplayLabels(x, labels)
			var named [][]int64
			for _, k := range numbers {
				named = append(named, states[k])
			}
			slices.SortFunc(named, slices.Compare)
			if !same(named, want) && len(want) > 0 || other != expected {
				t.Fatalf("%q in %q: %v, code %d, and %v, code %d", labels, exactText(l), want, expected, named, other)
			}
			compared += len(want)
		}
	}
	if codes[impl.OK] < 800 || codes[impl.ErrNotFound] < 100 || codes[impl.ErrFull] < 5 || compared < 1000 || unexplored < 100 {
		t.Error("too few cases:", codes, compared, unexplored)
	}
}

// labelsOfWalk returns the labels of some moves, one after the other.
func labelsOfWalk(r *rand.Rand, l impl.Linear) []string {
	var labels []string
	state := l.Start
	for range r.IntN(6) {
		moves := linearMovesOf(l, state)
		if len(moves) == 0 {
			break
		}
		move := moves[r.IntN(len(moves))]
		labels, state = append(labels, move.Label), move.Next
	}
	return labels
}
