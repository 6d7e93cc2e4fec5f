package tests

import (
	"fmt"
	"maps"
	"slices"
	"strings"
	"testing"

	"loop.example/g01075/impl"
)

// In the tests of chapter 10, transition systems are given as their texts, which are read here without any check. What the
// chapter says of the numbers of states and of paths is repeated in other forms.

// ltsFrom returns the system with a text like "2 0|a|0:1:1", which need not be valid.
func ltsFrom(text string) impl.Lts {
	parts := strings.Split(text, "|")
	numbers := strings.Fields(parts[0])
	return impl.Lts{
		States:  numberFrom(numbers[0]),
		Initial: numberFrom(numbers[1]),
		Labels:  append([]string{"tau"}, wordsFrom(parts[1])...),
		Edges:   edgesFrom(wordsFrom(parts[2])...),
	}
}

func wordsFrom(text string) []string {
	if text == "-" {
		return nil
	}
	return strings.Fields(text)
}

// edgesFrom returns the edges of texts like 0:1:2, of From, Label and To.
func edgesFrom(texts ...string) []impl.Edge {
	var edges []impl.Edge
	for _, text := range texts {
		numbers := strings.Split(text, ":")
		edges = append(edges, impl.Edge{From: numberFrom(numbers[0]), Label: numberFrom(numbers[1]), To: numberFrom(numbers[2])})
	}
	return edges
}

// exactLtsText returns the text of a valid system.
func exactLtsText(t impl.Lts) string {
	labels, edges := strings.Join(t.Labels[1:], " "), ""
	for _, e := range t.Edges {
		edges += fmt.Sprintf(" %d:%d:%d", e.From, e.Label, e.To)
	}
	if labels == "" {
		labels = "-"
	}
	if edges == "" {
		edges = " -"
	}
	return fmt.Sprintf("%d %d|%s|%s", t.States, t.Initial, labels, edges[1:])
}

// isLts repeats which systems are valid.
func isLts(t impl.Lts) bool {
	isState := func(k int64) bool { return k >= 0 && k < t.States }
	broken := t.States < 1 || t.States > 40 || !isState(t.Initial) || len(t.Labels) < 1 || len(t.Labels) > 12 || len(t.Edges) > 300
	for i, label := range t.Labels {
		broken = broken || !impl.IsLabel(label) || (label == "tau") != (i == 0) || i > 1 && label <= t.Labels[i-1]
	}
	for i, e := range t.Edges {
		broken = broken || !isState(e.From) || !isState(e.To) || e.Label < 0 || e.Label >= int64(len(t.Labels))
		if i > 0 {
			last := t.Edges[i-1]
			broken = broken || slices.Compare([]int64{last.From, last.Label, last.To}, []int64{e.From, e.Label, e.To}) >= 0
		}
	}
	return !broken
}

// A world is something to be explored: its first state, and the labels and goals of the moves in a state, in order. The
// code is ErrFull if there are too many moves.
type world[S any] struct {
	first S
	moves func(state S) (labels []string, goals []S, code int64)
}

func worldOfLinear(l impl.Linear) world[[]int64] {
	return world[[]int64]{l.Start, func(state []int64) (labels []string, goals [][]int64, code int64) {
		for _, move := range linearMovesOf(l, state) {
			labels, goals = append(labels, move.Label), append(goals, move.Next)
		}
		return labels, goals, impl.OK
	}}
}

func worldOfSystem(s impl.System) world[[]impl.Point] {
	return world[[]impl.Point]{startOf(s), func(state []impl.Point) (labels []string, goals [][]impl.Point, code int64) {
		moves, code := limitedMoves(s, state)
		for _, move := range moves {
			labels, goals = append(labels, move.Label), append(goals, move.State)
		}
		return labels, goals, code
	}}
}

// A size is how much a transition system has of everything; moves are more than edges if several of them make one.
type size struct {
	states, labels, edges, moves int
	tooManyMoves                 bool
}

func (n size) fits() bool {
	return n.states <= 40 && n.labels <= 12 && n.edges <= 300 && !n.tooManyMoves
}

// size counts what there is to be explored, with no more than 41 states.
func (w world[S]) size() size {
	n := size{}
	labels, edges := map[string]bool{"tau": true}, map[string]bool{}
	seen := map[string]bool{}
	for work := []S{w.first}; len(work) > 0 && len(seen) < 41; work = work[1:] {
		from := fmt.Sprint(work[0])
		if seen[from] {
			continue
		}
		seen[from] = true
		names, goals, code := w.moves(work[0])
		for i, label := range names {
			labels[label] = true
			edges[fmt.Sprintf("%s %s %v", from, label, goals[i])] = true
		}
		n.moves += len(names)
		n.tooManyMoves = n.tooManyMoves || code != impl.OK
		work = append(work, goals...)
	}
	n.states, n.labels, n.edges = len(seen), len(labels), len(edges)
	return n
}

// check checks a transition system and its states by what the document says of them: by which move each state is found
// first, and which labels and edges there are.
func (w world[S]) check(t *testing.T, lts impl.Lts, states []S) {
	t.Helper()
	numbers := map[string]int{}
	for i, state := range states {
		numbers[fmt.Sprint(state)] = i
	}
	if !isLts(lts) || lts.Initial != 0 || int(lts.States) != len(states) || len(numbers) != len(states) || !same(states[0], w.first) {
		t.Fatalf("%+v with the states %v", lts, states)
	}
	labels, edges := map[string]bool{"tau": true}, map[string]bool{}
	// The least pair of a state and a move by which each state is found.
	finds := make([][]int, len(states))
	for i, state := range states {
		names, goals, _ := w.moves(state)
		for j, goal := range goals {
			k, found := numbers[fmt.Sprint(goal)]
			if !found {
				t.Fatalf("%v is no state, but there is a move from %v to it", goal, state)
			}
			if finds[k] == nil {
				finds[k] = []int{i, j}
			}
			labels[names[j]] = true
			edges[fmt.Sprintf("%d %s %d", i, names[j], k)] = true
		}
	}
	for k := 1; k < len(states); k++ {
		if finds[k] == nil || finds[k][0] >= k || k > 1 && slices.Compare(finds[k-1], finds[k]) >= 0 {
			t.Fatalf("the states %v are found by %v", states, finds)
		}
	}
	got := map[string]bool{}
	for _, e := range lts.Edges {
		got[fmt.Sprintf("%d %s %d", e.From, lts.Labels[e.Label], e.To)] = true
	}
	if !maps.Equal(got, edges) || len(lts.Labels) != len(labels) || slices.ContainsFunc(lts.Labels, func(label string) bool { return !labels[label] }) {
		t.Fatalf("%+v; want the labels %v and the edges %v", lts, labels, edges)
	}
}

// endIn returns the state in which a path ends.
func endIn(t impl.Lts, path []int64) int64 {
	end := t.Initial
	for _, i := range path {
		end = t.Edges[i].To
	}
	return end
}

func labelsOn(t impl.Lts, path []int64) []string {
	var labels []string
	for _, i := range path {
		labels = append(labels, t.Labels[t.Edges[i].Label])
	}
	return labels
}

// pathsOf returns all paths with some number of edges, in lexicographic order.
func pathsOf(t impl.Lts, length int) [][]int64 {
	paths := [][]int64{nil}
	for range length {
		var longer [][]int64
		for _, path := range paths {
			for i, e := range t.Edges {
				if e.From == endIn(t, path) {
					longer = append(longer, append(slices.Clone(path), int64(i)))
				}
			}
		}
		paths = longer
	}
	return paths
}

// far is more than any distance.
const far = 1000

// relaxed returns the least number of steps from one of some states to each one, where a function gives the two ends of
// the step of an edge.
func relaxed(t impl.Lts, first []int64, step func(e impl.Edge) (from, to int64)) []int64 {
	distances := repeated(int(t.States), far)
	for _, k := range first {
		distances[k] = 0
	}
	for range t.States {
		for _, e := range t.Edges {
			from, to := step(e)
			distances[to] = min(distances[to], distances[from]+1)
		}
	}
	return distances
}

// distancesIn returns what DistancesOf should return.
func distancesIn(t impl.Lts) []int64 {
	distances := relaxed(t, []int64{t.Initial}, func(e impl.Edge) (from, to int64) { return e.From, e.To })
	for k, n := range distances {
		if n >= far {
			distances[k] = -1
		}
	}
	return distances
}

// leastPath returns what ShortestPath should return for some states: it goes by the first edge that comes closer to one.
func leastPath(t impl.Lts, targets []int64) ([]int64, int64) {
	left := relaxed(t, targets, func(e impl.Edge) (from, to int64) { return e.To, e.From })
	if left[t.Initial] >= far {
		return nil, impl.ErrNotFound
	}
	var path []int64
	for at := t.Initial; left[at] > 0; at = endIn(t, path) {
		closer := func(e impl.Edge) bool { return e.From == at && left[e.To] == left[at]-1 }
		path = append(path, int64(slices.IndexFunc(t.Edges, closer)))
	}
	return path, impl.OK
}

// isReplayed reports whether a path with exactly these labels ends in a state.
func isReplayed(t impl.Lts, labels []string, k int64) bool {
	if len(labels) == 0 {
		return k == t.Initial
	}
	last := len(labels) - 1
	for _, e := range t.Edges {
		if e.To == k && t.Labels[e.Label] == labels[last] && isReplayed(t, labels[:last], e.From) {
			return true
		}
	}
	return false
}

// replayedStates returns what ReplayLinear should return for labels.
func replayedStates(l impl.Linear, labels []string) ([][]int64, int64) {
	states := [][]int64{l.Start}
	for _, label := range labels {
		var next [][]int64
		for _, state := range states {
			for _, move := range linearMovesOf(l, state) {
				if move.Label == label {
					next = append(next, move.Next)
				}
			}
		}
		states = withoutRepeats(next)
		if len(states) > 40 {
			return nil, impl.ErrFull
		}
	}
	if len(states) == 0 {
		return nil, impl.ErrNotFound
	}
	slices.SortFunc(states, slices.Compare)
	return states, impl.OK
}
