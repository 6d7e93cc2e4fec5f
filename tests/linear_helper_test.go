package tests

import (
	"regexp"
	"slices"
	"strconv"
	"strings"

	"loop.example/g01075/impl"
)

// In the tests of chapter 8, linear processes are given as their texts, which are read here without the program's reader.
// What the chapter says of them is repeated for small numbers of parameters.

var (
	headOfLinear  = regexp.MustCompile(`^linear (\S+): (\S+)$`)
	lineOfSummand = regexp.MustCompile(`^sum (\S+) if (\S+) do ([^ (]*)(?:\((\S+)\))? then (\S+)$`)
)

// lin returns the linear process of the lines of a text, which must have the form of one but need not be valid.
func lin(lines ...string) impl.Linear {
	l, ok := readLinearText(strings.Join(lines, "\n"))
	if !ok {
		panic("no text of a linear process: " + strings.Join(lines, "\n"))
	}
	return l
}

// readLinearText reads a text by its form alone.
func readLinearText(text string) (impl.Linear, bool) {
	lines := strings.Split(text, "\n")
	head := headOfLinear.FindStringSubmatch(lines[0])
	if head == nil {
		return impl.Linear{}, false
	}
	parameters, err := strconv.ParseInt(head[1], 10, 64)
	start, ok := listFrom(head[2])
	l := impl.Linear{Parameters: parameters, Start: start}
	ok = ok && err == nil
	for _, line := range lines[1:] {
		s, isSummand := readSummandLine(line)
		l.Summands = append(l.Summands, s)
		ok = ok && isSummand
	}
	return l, ok
}

func readSummandLine(line string) (impl.Summand, bool) {
	fields := lineOfSummand.FindStringSubmatch(line)
	if fields == nil {
		return impl.Summand{}, false
	}
	sums, ok := listFrom(fields[1])
	guard, _, code := impl.ParseExpression(fields[2])
	s := impl.Summand{Sums: sums, Guard: guard, Name: fields[3]}
	ok = ok && code == impl.OK
	if fields[4] != "" {
		s.Arguments, ok = expressionsFrom(fields[4], ",", ok)
	}
	if fields[5] != "-" {
		s.Next, ok = expressionsFrom(fields[5], ";", ok)
	}
	return s, ok
}

func expressionsFrom(text, separator string, ok bool) ([][]impl.Term, bool) {
	var list [][]impl.Term
	for word := range strings.SplitSeq(text, separator) {
		e, _, code := impl.ParseExpression(word)
		list = append(list, e)
		ok = ok && code == impl.OK
	}
	return list, ok
}

func listFrom(text string) ([]int64, bool) {
	if text == "-" {
		return nil, true
	}
	var list []int64
	for word := range strings.SplitSeq(text, ",") {
		n, err := strconv.ParseInt(word, 10, 64)
		if err != nil {
			return nil, false
		}
		list = append(list, n)
	}
	return list, true
}

// exactText returns the text of a valid process.
func exactText(l impl.Linear) string {
	text := "linear " + impl.Decimal(l.Parameters) + ": " + impl.ListText(l.Start)
	for _, s := range l.Summands {
		text += "\nsum " + impl.ListText(s.Sums) + " if " + treeOf(s.Guard).text() + " do " + s.Name
		if len(s.Arguments) > 0 {
			text += "(" + textOfAll(s.Arguments, ",") + ")"
		}
		text += " then "
		if len(s.Next) == 0 {
			text += "-"
		}
		text += textOfAll(s.Next, ";")
	}
	return text
}

func textOfAll(list [][]impl.Term, separator string) string {
	var texts []string
	for _, e := range list {
		texts = append(texts, treeOf(e).text())
	}
	return strings.Join(texts, separator)
}

// isLinear repeats which linear processes are valid.
func isLinear(l impl.Linear) bool {
	broken := l.Parameters < 0 || l.Parameters > 21 || !isLinearState(l, l.Start) || len(l.Summands) > 60
	for _, s := range l.Summands {
		lists := int64(1)
		for _, most := range s.Sums[:min(len(s.Sums), 8)] {
			broken = broken || most < 1 || most > 7
			lists *= min(max(most, 0), 7) + 1
		}
		broken = broken || len(s.Sums) > 8 || lists > 4096 || int64(len(s.Next)) != l.Parameters
		broken = broken || len(s.Arguments) > 2 || !impl.IsName(s.Name) || s.Name == "tau" && len(s.Arguments) > 0
		for _, e := range slices.Concat([][]impl.Term{s.Guard}, s.Arguments, s.Next) {
			broken = broken || !impl.ValidTerms(e, l.Parameters+int64(len(s.Sums)), 60)
		}
	}
	return !broken
}

func isLinearState(l impl.Linear, state []int64) bool {
	return int64(len(state)) == l.Parameters && !slices.ContainsFunc(state, func(v int64) bool { return v < 0 || v > 63 })
}

// linearMovesOf returns the moves of a valid process in a state.
func linearMovesOf(l impl.Linear, state []int64) []impl.LinearMove {
	return withoutRepeats(everyLinearMove(l, state))
}

// everyLinearMove returns the moves with those that are equal to earlier ones.
func everyLinearMove(l impl.Linear, state []int64) []impl.LinearMove {
	var moves []impl.LinearMove
	for _, s := range l.Summands {
		for _, sums := range listsWithin(s.Sums) {
			values := slices.Concat(state, sums)
			if treeOf(s.Guard).value(values) != 0 {
				moves = append(moves, impl.LinearMove{Label: impl.LabelText(s.Name, valuesOfAll(s.Arguments, values)), Next: valuesOfAll(s.Next, values)})
			}
		}
	}
	return moves
}

// linearMovesFrom returns the moves of texts like "a(1) 0,2", of a label and a state.
func linearMovesFrom(texts ...string) []impl.LinearMove {
	var moves []impl.LinearMove
	for _, text := range texts {
		label, next, _ := strings.Cut(text, " ")
		state, _ := listFrom(next)
		moves = append(moves, impl.LinearMove{Label: label, Next: state})
	}
	return moves
}

// placesOf returns the places of a system, by the kind of the part directly in front of each one.
func placesOf(s impl.System) [][]int64 {
	var places [][]int64
	for k, d := range s.Definitions {
		for at, p := range d.Body {
			if at == 0 || d.Body[at-1].Kind == impl.PartAction && p.Kind != impl.PartCall {
				places = append(places, []int64{int64(k), int64(at)})
			}
		}
	}
	return places
}

// placeIndex returns the index of the place of a part, and -1 if it is none.
func placeIndex(s impl.System, k, part int64) int64 {
	return int64(slices.IndexFunc(placesOf(s), func(place []int64) bool { return place[0] == k && place[1] == part }))
}

// registersOf returns the number of parameters of the linear processes of a system.
func registersOf(s impl.System) int64 {
	most := int64(0)
	for _, place := range placesOf(s) {
		most = max(most, scopeOf(s.Definitions[place[0]], int(place[1])))
	}
	return most + 1
}

// linearStateOf returns the state of a linear process for a point at a place.
func linearStateOf(s impl.System, p impl.Point) []int64 {
	state := append([]int64{placeIndex(s, p.Definition, p.Part)}, p.Values...)
	return append(state, repeated(int(registersOf(s))-len(state), 0)...)
}

// linearDefined returns what LinearOf should return for a component. It looks for the actions at a place from below: by
// the parts to which each action belongs.
func linearDefined(s impl.System, k int) (impl.Linear, int64) {
	l := impl.Linear{Parameters: registersOf(s), Start: linearStateOf(s, startOf(s)[k])}
	for n, place := range placesOf(s) {
		d := s.Definitions[place[0]]
		for at := int(place[1]); at < endOf(d.Body, int(place[1])); at++ {
			way := partsAbove(d.Body, int(place[1]), at)
			isAction := func(part int) bool { return d.Body[part].Kind == impl.PartAction }
			if isAction(at) && !slices.ContainsFunc(way, isAction) {
				l.Summands = append(l.Summands, summandDefined(s, int64(n), place[0], at, way))
			}
		}
	}
	if len(placesOf(s)) > 64 || !isLinear(l) {
		return impl.Linear{}, impl.ErrFull
	}
	return l, impl.OK
}

// partsAbove returns the parts from one on to which a part belongs.
func partsAbove(body []impl.Part, from, part int) []int {
	var above []int
	for at := from; at < part; at++ {
		if endOf(body, at) > part {
			above = append(above, at)
		}
	}
	return above
}

// summandDefined returns the summand of an action at place n, which is in definition k.
func summandDefined(s impl.System, n, k int64, action int, way []int) impl.Summand {
	d := s.Definitions[k]
	var table []impl.Term
	for i := range scopeOf(d, int(placesOf(s)[n][1])) {
		table = append(table, impl.Term{Kind: impl.TermVariable, Value: i + 1})
	}
	for i := range int64(10) {
		table = append(table, impl.Term{Kind: impl.TermVariable, Value: registersOf(s) + i})
	}
	guards := [][]impl.Term{op(impl.OpEqual, vr(0), num(n))}
	summand := impl.Summand{Name: d.Body[action].Name, Arguments: byTable(table, d.Body[action].Arguments...)}
	for _, part := range way {
		switch p := d.Body[part]; p.Kind {
		case impl.PartSum:
			summand.Sums = append(summand.Sums, p.Number)
		case impl.PartGuard:
			guards = append(guards, byTable(table, p.Arguments[0])...)
		}
	}
	for last := len(guards) - 1; last > 0; last-- {
		guards = append(guards[:last-1], op(impl.OpBoth, guards[last-1], guards[last]))
	}
	summand.Guard = guards[0]
	behind := d.Body[action+1]
	if behind.Kind == impl.PartCall {
		summand.Next = append([][]impl.Term{num(placeIndex(s, behind.Number, 0))}, byTable(table, behind.Arguments...)...)
	} else {
		summand.Next = [][]impl.Term{num(placeIndex(s, k, int64(action+1)))}
		for i := range scopeOf(d, action+1) {
			summand.Next = append(summand.Next, []impl.Term{table[i]})
		}
	}
	for len(summand.Next) < int(registersOf(s)) {
		summand.Next = append(summand.Next, num(0))
	}
	return summand
}

// byTable returns expressions in which the variable i is replaced by the term i of a table.
func byTable(table []impl.Term, list ...[]impl.Term) [][]impl.Term {
	var replaced [][]impl.Term
	for _, e := range list {
		e = slices.Clone(e)
		for i, t := range e {
			if t.Kind == impl.TermVariable {
				e[i] = table[t.Value]
			}
		}
		replaced = append(replaced, e)
	}
	return replaced
}

// subsets returns all sets of the parameters of a process, of which there must be few.
func subsets(l impl.Linear) [][]int64 {
	sets := [][]int64{nil}
	for k := range l.Parameters {
		for _, set := range sets {
			sets = append(sets, append(slices.Clone(set), k))
		}
	}
	return sets
}

// staysInStart reports whether the parameters of a set keep their numbers, as far as folding shows it.
func staysInStart(l impl.Linear, set []int64) bool {
	table := variablesUpTo(29)
	for _, k := range set {
		table[k] = num(l.Start[k])[0]
	}
	for _, s := range l.Summands {
		for _, k := range set {
			if !slices.Equal(treeOf(byTable(table, s.Next[k])[0]).folded().terms(), num(l.Start[k])) {
				return false
			}
		}
	}
	return true
}

func variablesUpTo(n int) []impl.Term {
	var table []impl.Term
	for k := range n {
		table = append(table, vr(int64(k))...)
	}
	return table
}

// constantsOf returns the union of all sets whose parameters keep their numbers.
func constantsOf(l impl.Linear) []int64 {
	var all []int64
	for _, set := range subsets(l) {
		if staysInStart(l, set) {
			all = append(all, set...)
		}
	}
	slices.Sort(all)
	return slices.Compact(all)
}

// holdsNeeded reports whether a set of parameters has all that moves depend on if they depend on its parameters.
func holdsNeeded(l impl.Linear, set []int64) bool {
	for _, s := range l.Summands {
		list := append([][]impl.Term{s.Guard}, s.Arguments...)
		for _, k := range set {
			list = append(list, s.Next[k])
		}
		for _, t := range slices.Concat(list...) {
			if t.Kind == impl.TermVariable && t.Value < l.Parameters && !slices.Contains(set, t.Value) {
				return false
			}
		}
	}
	return true
}

// neededOf returns the intersection of all sets that have all that is needed.
func neededOf(l impl.Linear) []int64 {
	needed := counted(int(l.Parameters))
	for _, set := range subsets(l) {
		if holdsNeeded(l, set) {
			needed = slices.DeleteFunc(needed, func(k int64) bool { return !slices.Contains(set, k) })
		}
	}
	return needed
}

// withParameters returns a process with some of its parameters, where those that are removed keep their numbers.
func withParameters(l impl.Linear, left []int64) impl.Linear {
	table := variablesUpTo(int(l.Parameters))
	for k := range table {
		table[k] = num(l.Start[k])[0]
	}
	less := impl.Linear{Parameters: int64(len(left))}
	for i, k := range left {
		table[k] = vr(int64(i))[0]
		less.Start = append(less.Start, l.Start[k])
	}
	for i := range 8 {
		table = append(table, vr(int64(len(left)+i))...)
	}
	for _, s := range l.Summands {
		one := impl.Summand{Sums: s.Sums, Guard: byTable(table, s.Guard)[0], Name: s.Name, Arguments: byTable(table, s.Arguments...)}
		for _, k := range left {
			one.Next = append(one.Next, byTable(table, s.Next[k])...)
		}
		less.Summands = append(less.Summands, one)
	}
	return less
}

// foldedLinear returns what FoldLinear should return.
func foldedLinear(l impl.Linear) impl.Linear {
	less := impl.Linear{Parameters: l.Parameters, Start: l.Start}
	for _, s := range l.Summands {
		one := impl.Summand{Sums: s.Sums, Guard: treeOf(s.Guard).folded().terms(), Name: s.Name}
		for _, e := range s.Arguments {
			one.Arguments = append(one.Arguments, treeOf(e).folded().terms())
		}
		for _, e := range s.Next {
			one.Next = append(one.Next, treeOf(e).folded().terms())
		}
		if !slices.Equal(one.Guard, num(0)) {
			less.Summands = append(less.Summands, one)
		}
	}
	return less
}

// unrolledLinear returns what UnrollSums should return.
func unrolledLinear(l impl.Linear) (impl.Linear, int64) {
	unrolled := impl.Linear{Parameters: l.Parameters, Start: l.Start}
	for _, s := range l.Summands {
		for _, sums := range listsWithin(s.Sums) {
			table := variablesUpTo(int(l.Parameters))
			for _, v := range sums {
				table = append(table, num(v)...)
			}
			one := impl.Summand{Guard: byTable(table, s.Guard)[0], Name: s.Name, Arguments: byTable(table, s.Arguments...), Next: byTable(table, s.Next...)}
			unrolled.Summands = append(unrolled.Summands, one)
		}
	}
	if len(unrolled.Summands) > 60 {
		return impl.Linear{}, impl.ErrFull
	}
	return unrolled, impl.OK
}
