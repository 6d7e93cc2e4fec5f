package tests

import (
	"fmt"
	"slices"

	"loop.example/g01075/impl"
)

// What chapter 12 says of traces is repeated here by matrices of the states between which there are paths, by systems whose
// states are texts of sets, and by the lengths of the traces that tell states apart.

// A matrix says from which states something leads to which ones.
type matrix [][]bool

func noWays(states int64) matrix {
	m := make(matrix, states)
	for k := range m {
		m[k] = make([]bool, states)
	}
	return m
}

// rowOf returns the states to which one of some states leads.
func (m matrix) rowOf(states []bool) []bool {
	row := make([]bool, len(m))
	for from, isIn := range states {
		for to, leads := range m[from] {
			row[to] = row[to] || isIn && leads
		}
	}
	return row
}

func (m matrix) then(other matrix) matrix {
	var product matrix
	for _, row := range m {
		product = append(product, other.rowOf(row))
	}
	return product
}

// A tracer has the paths of a system without visible labels, and for each visible label those with this one alone.
type tracer struct {
	x        impl.Lts
	internal matrix
	visible  map[string]matrix
}

func tracerOf(x impl.Lts) tracer {
	edges := map[string]matrix{}
	for _, label := range x.Labels {
		edges[label] = noWays(x.States)
	}
	for _, e := range x.Edges {
		edges[x.Labels[e.Label]][e.From][e.To] = true
	}
	r := tracer{x, edges["tau"], map[string]matrix{}}
	for k := range r.internal {
		r.internal[k][k] = true
	}
	for by := range r.internal {
		for _, row := range r.internal {
			for to, leads := range r.internal[by] {
				row[to] = row[to] || row[by] && leads
			}
		}
	}
	for _, label := range x.Labels[1:] {
		r.visible[label] = r.internal.then(edges[label]).then(r.internal)
	}
	return r
}

func listOf(row []bool) []int64 {
	var list []int64
	for k, isIn := range row {
		if isIn {
			list = append(list, int64(k))
		}
	}
	return list
}

func rowFrom(list []int64, states int64) []bool {
	row := make([]bool, states)
	for _, k := range list {
		row[k] = true
	}
	return row
}

// behind returns the states behind a label from one of some states.
func (r tracer) behind(states []int64, label string) []int64 {
	ways, known := r.visible[label]
	if !known {
		return nil
	}
	return listOf(ways.rowOf(rowFrom(states, r.x.States)))
}

// after returns the states behind a list of visible labels; none if it is not a trace.
func (r tracer) after(trace []string) []int64 {
	states := listOf(r.internal[r.x.Initial])
	for _, label := range trace {
		states = r.behind(states, label)
	}
	return states
}

// hasTrace repeats in which states paths end by looking for a path from one of some states back to the initial one.
func hasTrace(x impl.Lts, trace []string, end int64) bool {
	type place struct {
		state int64
		left  int
	}
	seen := map[place]bool{}
	var search func(p place) bool
	search = func(p place) bool {
		if seen[p] {
			return false
		}
		seen[p] = true
		if p.left == 0 && p.state == x.Initial {
			return true
		}
		for _, e := range x.Edges {
			label := x.Labels[e.Label]
			if e.To == p.state && (label == "tau" && search(place{e.From, p.left}) || p.left > 0 && label == trace[p.left-1] && search(place{e.From, p.left - 1})) {
				return true
			}
		}
		return false
	}
	return search(place{end, len(trace)})
}

func longer(trace []string, label string) []string { return append(slices.Clone(trace), label) }

// sets returns the sets of states behind traces in the order of the first traces behind which they are; if there are more
// than 40, only so many that this can be seen.
func (r tracer) sets() [][]int64 {
	var sets [][]int64
	known := map[string]bool{}
	for level := [][]string{nil}; len(level) > 0 && len(sets) <= 40; {
		var next [][]string
		for _, trace := range level {
			set := r.after(trace)
			if text := fmt.Sprint(set); len(set) > 0 && !known[text] {
				known[text] = true
				sets = append(sets, set)
				for _, label := range r.x.Labels[1:] {
					next = append(next, longer(trace, label))
				}
			}
		}
		level = next
	}
	return sets
}

// determinized returns what DeterminizeLts should return.
func determinized(x impl.Lts) (impl.Lts, [][]int64, int64) {
	r := tracerOf(x)
	sets := r.sets()
	s := sketch{initial: fmt.Sprint(sets[0]), labels: x.Labels}
	for _, set := range sets {
		from := fmt.Sprint(set)
		s.states = append(s.states, from)
		for _, label := range x.Labels[1:] {
			if next := r.behind(set, label); len(next) > 0 {
				s.edges = append(s.edges, arrow{from, label, fmt.Sprint(next)})
			}
		}
	}
	d, code := s.limited()
	if code != impl.OK {
		return impl.Lts{}, nil, code
	}
	return d, sets, impl.OK
}

// A duel has two deterministic systems as the states to which labels lead, and behind their states one more for nowhere. For
// each pair of these, shortest is the length of the shortest trace that is sought, and far if there is none.
type duel struct {
	a, b     []map[string]int64
	labels   []string
	shortest [][]int64
}

func goalsIn(x impl.Lts) []map[string]int64 {
	goals := make([]map[string]int64, x.States+1)
	for k := range goals {
		goals[k] = map[string]int64{}
		for _, label := range x.Labels[1:] {
			goals[k][label] = x.States
		}
	}
	for _, e := range x.Edges {
		goals[e.From][x.Labels[e.Label]] = e.To
	}
	return goals
}

func goalIn(goals []map[string]int64, k int64, label string) int64 {
	if next, known := goals[k][label]; known {
		return next
	}
	return int64(len(goals) - 1)
}

// duelOf takes the traces for which a function says by whether they are those of the first and the second system that they
// are sought.
func duelOf(a, b impl.Lts, isSought func(inA, inB bool) bool) duel {
	d := duel{a: goalsIn(a), b: goalsIn(b), labels: slices.Concat(a.Labels[1:], b.Labels[1:])}
	slices.Sort(d.labels)
	d.labels = slices.Compact(d.labels)
	for x := range d.a {
		d.shortest = append(d.shortest, repeated(len(d.b), far))
		for y := range d.b {
			if isSought(x < len(d.a)-1, y < len(d.b)-1) {
				d.shortest[x][y] = 0
			}
		}
	}
	for changed := true; changed; {
		changed = false
		for x, row := range d.shortest {
			for y := range row {
				for _, label := range d.labels {
					if n := d.shortest[goalIn(d.a, int64(x), label)][goalIn(d.b, int64(y), label)] + 1; n < row[y] {
						row[y], changed = n, true
					}
				}
			}
		}
	}
	return d
}

// trace returns the first trace that is sought from two states on, and nothing if there is none.
func (d duel) trace(x, y int64) []string {
	var trace []string
	for n := d.shortest[x][y]; n > 0 && n < far; n-- {
		for _, label := range d.labels {
			if nextX, nextY := goalIn(d.a, x, label), goalIn(d.b, y, label); d.shortest[nextX][nextY] == n-1 {
				trace, x, y = append(trace, label), nextX, nextY
				break
			}
		}
	}
	return trace
}

func inSecondAlone(inA, inB bool) bool { return inB && !inA }

func inOneAlone(inA, inB bool) bool { return inA != inB }

// soughtIn returns the first trace of two systems that is sought; it is empty if there is none.
func soughtIn(a, b impl.Lts, isSought func(inA, inB bool) bool) ([]string, int64) {
	one, _, code := determinized(a)
	two, _, other := determinized(b)
	if code != impl.OK || other != impl.OK {
		return nil, impl.ErrFull
	}
	return duelOf(one, two, isSought).trace(0, 0), impl.OK
}

// leastOf returns what MinimalTraces should return: of the states of one class, the first one stays.
func leastOf(x impl.Lts) (impl.Lts, int64) {
	d, _, code := determinized(x)
	if code != impl.OK {
		return impl.Lts{}, code
	}
	apart := duelOf(d, d, inOneAlone).shortest
	first := func(k int64) string { return fmt.Sprint(slices.Index(apart[k], far)) }
	s := sketch{initial: first(0)}
	for k := range d.States {
		if first(k) == fmt.Sprint(k) {
			s.states = append(s.states, first(k))
		}
	}
	for _, e := range d.Edges {
		s.edges = append(s.edges, arrow{first(e.From), d.Labels[e.Label], first(e.To)})
		s.labels = append(s.labels, d.Labels[e.Label])
	}
	return s.limited()
}

// countsIn returns how many traces of each length up to 12 a deterministic system has, from the initial state on.
func countsIn(d impl.Lts) []int64 {
	var counts []int64
	ends := repeated(int(d.States), 0)
	ends[d.Initial] = 1
	for range 13 {
		total, next := int64(0), repeated(int(d.States), 0)
		for _, n := range ends {
			total += n
		}
		for _, e := range d.Edges {
			next[e.To] += ends[e.From]
		}
		counts, ends = append(counts, total), next
	}
	return counts
}

// tracesIn returns the traces of a system with at most n labels, in order; ErrFull if there are more than 200.
func tracesIn(x impl.Lts, n int) ([][]string, int64) {
	r := tracerOf(x)
	all, level := [][]string{{}}, [][]string{{}}
	for range n {
		var next [][]string
		for _, trace := range level {
			for _, label := range x.Labels[1:] {
				if more := longer(trace, label); len(r.after(more)) > 0 {
					next = append(next, more)
				}
			}
		}
		if all, level = append(all, next...), next; len(all) > 200 {
			return nil, impl.ErrFull
		}
	}
	return all, impl.OK
}

// commonOf returns what CommonTraces should return.
func commonOf(a, b impl.Lts) (impl.Lts, int64) {
	one, _, code := determinized(a)
	two, _, other := determinized(b)
	if code != impl.OK || other != impl.OK {
		return impl.Lts{}, impl.ErrFull
	}
	var names []string
	for _, label := range slices.Concat(one.Labels, two.Labels) {
		names = append(names, nameIn(label))
	}
	both, code := productOf(sketchOf(one), sketchOf(two), names).reachable().limited()
	if code != impl.OK {
		return impl.Lts{}, code
	}
	return leastOf(both)
}
