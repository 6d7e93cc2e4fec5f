package tests

import (
	"fmt"
	"regexp"
	"slices"
	"strings"

	"loop.example/g01075/impl"
)

// A sketch is a transition system in which states and labels are texts. What chapter 11 says of the labels of systems and
// of combinations is repeated here for such texts.
type sketch struct {
	// states are in the order of their numbers.
	states  []string
	initial string
	// labels and edges stand in any order, and perhaps more than once; tau need not be one of labels.
	labels []string
	edges  []arrow
}

type arrow struct{ from, label, to string }

func sketchOf(x impl.Lts) sketch {
	s := sketch{initial: fmt.Sprint(x.Initial), labels: slices.Clone(x.Labels)}
	for k := range x.States {
		s.states = append(s.states, fmt.Sprint(k))
	}
	for _, e := range x.Edges {
		s.edges = append(s.edges, arrow{fmt.Sprint(e.From), x.Labels[e.Label], fmt.Sprint(e.To)})
	}
	return s
}

// lts returns the system of a sketch, which need not be valid.
func (s sketch) lts() impl.Lts {
	visible := slices.DeleteFunc(slices.Clone(s.labels), func(label string) bool { return label == "tau" })
	slices.Sort(visible)
	labels := append([]string{"tau"}, slices.Compact(visible)...)
	number := func(list []string, text string) int64 { return int64(slices.Index(list, text)) }
	var triples [][]int64
	for _, e := range s.edges {
		triples = append(triples, []int64{number(s.states, e.from), number(labels, e.label), number(s.states, e.to)})
	}
	slices.SortFunc(triples, slices.Compare)
	x := impl.Lts{States: int64(len(s.states)), Initial: number(s.states, s.initial), Labels: labels}
	for _, n := range slices.CompactFunc(triples, slices.Equal) {
		x.Edges = append(x.Edges, impl.Edge{From: n[0], Label: n[1], To: n[2]})
	}
	return x
}

// limited returns the system of a sketch, and ErrFull in its place if it is not valid.
func (s sketch) limited() (impl.Lts, int64) {
	x := s.lts()
	if !isLts(x) {
		return impl.Lts{}, impl.ErrFull
	}
	return x, impl.OK
}

func nameIn(label string) string {
	name, _, _ := strings.Cut(label, "(")
	return name
}

// relabelled returns the sketch with what a function returns for each label.
func (s sketch) relabelled(change func(label string) string) sketch {
	changed := sketch{states: s.states, initial: s.initial}
	for _, label := range s.labels {
		changed.labels = append(changed.labels, change(label))
	}
	for _, e := range s.edges {
		changed.edges = append(changed.edges, arrow{e.from, change(e.label), e.to})
	}
	return changed
}

func (s sketch) hidden(names []string) sketch {
	return s.relabelled(func(label string) string {
		if slices.Contains(names, nameIn(label)) {
			return "tau"
		}
		return label
	})
}

func (s sketch) renamed(from, to string) sketch {
	return s.relabelled(func(label string) string {
		if nameIn(label) == from {
			return to + strings.TrimPrefix(label, from)
		}
		return label
	})
}

func (s sketch) used() sketch {
	s.labels = nil
	for _, e := range s.edges {
		s.labels = append(s.labels, e.label)
	}
	return s
}

// reachable returns the part of a sketch to which paths from the initial state lead.
func (s sketch) reachable() sketch {
	reached := map[string]bool{s.initial: true}
	for before := 0; before < len(reached); {
		before = len(reached)
		for _, e := range s.edges {
			if reached[e.from] {
				reached[e.to] = true
			}
		}
	}
	s.states = slices.DeleteFunc(slices.Clone(s.states), func(k string) bool { return !reached[k] })
	s.edges = slices.DeleteFunc(slices.Clone(s.edges), func(e arrow) bool { return !reached[e.from] })
	return s
}

// moved returns the sketch with a letter before each state.
func (s sketch) moved(letter string) sketch {
	moved := sketch{initial: letter + s.initial, labels: s.labels}
	for _, k := range s.states {
		moved.states = append(moved.states, letter+k)
	}
	for _, e := range s.edges {
		moved.edges = append(moved.edges, arrow{letter + e.from, e.label, letter + e.to})
	}
	return moved
}

func unionOf(a, b sketch) sketch {
	a, b = a.moved("a"), b.moved("b")
	return sketch{slices.Concat(a.states, b.states), a.initial, slices.Concat(a.labels, b.labels), slices.Concat(a.edges, b.edges)}
}

// productOf returns the product with all pairs of states, of which some may not be reachable.
func productOf(a, b sketch, shared []string) sketch {
	s := sketch{initial: a.initial + " " + b.initial, labels: slices.Concat(a.labels, b.labels)}
	for _, x := range a.states {
		for _, y := range b.states {
			s.states = append(s.states, x+" "+y)
		}
	}
	isShared := func(label string) bool { return slices.Contains(shared, nameIn(label)) }
	for _, e := range a.edges {
		for _, f := range b.edges {
			if e.label == f.label && isShared(e.label) {
				s.edges = append(s.edges, arrow{e.from + " " + f.from, e.label, e.to + " " + f.to})
			}
		}
	}
	for _, e := range a.edges {
		for _, y := range b.states {
			if !isShared(e.label) {
				s.edges = append(s.edges, arrow{e.from + " " + y, e.label, e.to + " " + y})
			}
		}
	}
	for _, f := range b.edges {
		for _, x := range a.states {
			if !isShared(f.label) {
				s.edges = append(s.edges, arrow{x + " " + f.from, f.label, x + " " + f.to})
			}
		}
	}
	return s
}

// swapped returns a sketch whose states are pairs with the pairs turned round, in their order.
func (s sketch) swapped(a, b sketch) sketch {
	turn := func(pair string) string {
		x, y, _ := strings.Cut(pair, " ")
		return y + " " + x
	}
	turned := sketch{initial: turn(s.initial), labels: s.labels}
	for _, y := range b.states {
		for _, x := range a.states {
			if slices.Contains(s.states, x+" "+y) {
				turned.states = append(turned.states, y+" "+x)
			}
		}
	}
	for _, e := range s.edges {
		turned.edges = append(turned.edges, arrow{turn(e.from), e.label, turn(e.to)})
	}
	return turned
}

var ltsPattern = regexp.MustCompile(strings.NewReplacer("N", "(?:0|[1-9][0-9]{0,17})", "L", "[a-z0-9(),]+").Replace(`^N N\|(?:-|L(?: L)*)\|(?:-|N:N:N(?: N:N:N)*)$`))

// readLtsText returns what ReadLts should return.
func readLtsText(text string) (impl.Lts, bool) {
	if !ltsPattern.MatchString(text) || !isLts(ltsFrom(text)) {
		return impl.Lts{}, false
	}
	return ltsFrom(text), true
}

// labelled returns a system with some states, at most so many edges, and some of many labels, of which three have the name a.
func (m *maker) labelled(states int64, edges int) impl.Lts {
	x := m.lts(states, 0)
	x.Labels = x.Labels[:1]
	for _, label := range []string{"a", "a(0)", "a(0,1)", "b", "b(1)", "c", "c(0)", "d(1)", "e"} {
		if m.r.IntN(2) == 0 {
			x.Labels = append(x.Labels, label)
		}
	}
	s := sketchOf(x)
	for range edges {
		s.edges = append(s.edges, arrow{s.states[m.r.IntN(len(s.states))], x.Labels[m.r.IntN(len(x.Labels))], s.states[m.r.IntN(len(s.states))]})
	}
	return s.lts()
}

// someActions returns a list of names, in any order and some of them perhaps more than once.
func (m *maker) someActions() []string {
	var names []string
	for range m.r.IntN(5) {
		names = append(names, string(rune('a'+m.r.IntN(6))))
	}
	return names
}

// notActionLists returns lists with an element that is no name of an action.
func notActionLists() [][]string {
	list := [][]string{{"tau"}, {"a", "tau"}, {"tau", "a"}, {"a(1)"}, {"b", "a", "a(0)", "a"}, {"tau(0)"}, make([]string, 1000), append(manyNames(20), "")}
	for _, name := range noNames() {
		list = append(list, []string{name}, []string{"a", name, "b"})
	}
	return list
}

// actionLists returns lists of names of actions that ActionNames would not return.
func actionLists() [][]string {
	return [][]string{nil, {"a"}, {"b"}, {"a", "a"}, {"b", "a"}, {"b", "a", "b", "a"}, {"z", "a"}, {"z"}, manyNames(26), slices.Repeat([]string{"a"}, 1000)}
}
