package tests

import (
	"regexp"
	"slices"
	"strings"

	"loop.example/g01075/impl"
)

// What the functions of chapter 9 return is repeated here in other forms: compositions by tables of what stands for each
// variable, and changes of names by the lines of texts.

// withTable returns a summand of a process in which the parameters are the variables from one number on, and the sums
// those from another one on.
func withTable(l impl.Linear, s impl.Summand, parameters, sums int64) impl.Summand {
	table := variablesFrom(parameters, l.Parameters)
	for i := range s.Sums {
		table = append(table, vr(sums+int64(i))...)
	}
	return impl.Summand{Sums: s.Sums, Guard: byTable(table, s.Guard)[0], Name: s.Name, Arguments: byTable(table, s.Arguments...), Next: byTable(table, s.Next...)}
}

// variablesFrom returns n variables as terms, from one on.
func variablesFrom(first, n int64) []impl.Term {
	return variablesUpTo(int(first + n))[first:]
}

// expressionsOf returns for each term the expression that is this term alone.
func expressionsOf(terms []impl.Term) [][]impl.Term {
	var list [][]impl.Term
	for _, t := range terms {
		list = append(list, []impl.Term{t})
	}
	return list
}

// composed returns what MeetLinear should return for valid meetings, and without any what InterleaveLinear should return.
func composed(a, b impl.Linear, list []impl.Meeting) (impl.Linear, int64) {
	l := impl.Linear{Parameters: a.Parameters + b.Parameters, Start: slices.Concat(a.Start, b.Start)}
	for _, x := range a.Summands {
		s := withTable(a, x, 0, l.Parameters)
		s.Next = append(s.Next, expressionsOf(variablesFrom(a.Parameters, b.Parameters))...)
		l.Summands = append(l.Summands, s)
	}
	for _, y := range b.Summands {
		s := withTable(b, y, a.Parameters, l.Parameters)
		s.Next = append(expressionsOf(variablesFrom(0, a.Parameters)), s.Next...)
		l.Summands = append(l.Summands, s)
	}
	for _, x := range a.Summands {
		for _, y := range b.Summands {
			name := resultOf(impl.System{Meetings: list}, x.Name, y.Name)
			if name != "" && len(x.Arguments) == len(y.Arguments) {
				l.Summands = append(l.Summands, metSummand(withTable(a, x, 0, l.Parameters), withTable(b, y, a.Parameters, l.Parameters+int64(len(x.Sums))), name))
			}
		}
	}
	if !isLinear(l) {
		return impl.Linear{}, impl.ErrFull
	}
	return l, impl.OK
}

// metSummand joins two summands whose variables have been replaced.
func metSummand(x, y impl.Summand, name string) impl.Summand {
	both := impl.Summand{Sums: slices.Concat(x.Sums, y.Sums), Name: name, Arguments: x.Arguments, Next: slices.Concat(x.Next, y.Next)}
	conjuncts := [][]impl.Term{x.Guard, y.Guard}
	for i := range x.Arguments {
		conjuncts = append(conjuncts, op(impl.OpEqual, x.Arguments[i], y.Arguments[i]))
	}
	// In prefix notation, each conjunct but the last one stands behind an operator of its own.
	for i, e := range conjuncts {
		if i < len(conjuncts)-1 {
			both.Guard = append(both.Guard, impl.Term{Kind: impl.TermOperator, Value: impl.OpBoth})
		}
		both.Guard = append(both.Guard, e...)
	}
	return both
}

// byLines returns the valid process whose text has other lines for the summands of one; those that become empty are left
// out.
func byLines(l impl.Linear, change func(line, name string) string) impl.Linear {
	lines := strings.Split(exactText(l), "\n")
	changed := lines[:1:1]
	for _, line := range lines[1:] {
		if line = change(line, lineOfSummand.FindStringSubmatch(line)[3]); line != "" {
			changed = append(changed, line)
		}
	}
	return lin(changed...)
}

func restrictedLinear(l impl.Linear, allowed []string) impl.Linear {
	return byLines(l, func(line, name string) string {
		if name == "tau" || slices.Contains(allowed, name) {
			return line
		}
		return ""
	})
}

var actionOfLine = regexp.MustCompile(` do \S+ then `)

func hiddenLinear(l impl.Linear, hidden []string) impl.Linear {
	return byLines(l, func(line, name string) string {
		if slices.Contains(hidden, name) {
			return actionOfLine.ReplaceAllString(line, " do tau then ")
		}
		return line
	})
}

func renamedLinear(l impl.Linear, from, to string) impl.Linear {
	return byLines(l, func(line, name string) string {
		if name == from {
			return strings.Replace(line, " do "+from, " do "+to, 1)
		}
		return line
	})
}

func distinctLinear(l impl.Linear) impl.Linear {
	seen := map[string]bool{}
	return byLines(l, func(line, name string) string {
		if seen[line] {
			return ""
		}
		seen[line] = true
		return line
	})
}

func startedLinear(l impl.Linear, start []int64) impl.Linear {
	return lin(strings.Replace(exactText(l), ": "+impl.ListText(l.Start), ": "+impl.ListText(start), 1))
}

func namesOfLinear(l impl.Linear) []string {
	names := map[string]bool{}
	for _, s := range l.Summands {
		names[s.Name] = true
	}
	delete(names, "tau")
	var list []string
	for name := range names {
		list = append(list, name)
	}
	slices.Sort(list)
	return list
}

// changingParameters returns the parameters of a component that RemoveConstants should leave.
func changingParameters(l impl.Linear) []int64 {
	constant := constantsOf(l)
	return slices.DeleteFunc(counted(int(l.Parameters)), func(k int64) bool { return slices.Contains(constant, k) })
}

// networkDefined returns what NetworkLinear should return for a valid system.
func networkDefined(s impl.System) (impl.Linear, int64) {
	var network impl.Linear
	for k := range s.Components {
		l, code := linearDefined(s, k)
		if code != impl.OK {
			return impl.Linear{}, code
		}
		less := withParameters(l, changingParameters(l))
		if k == 0 {
			network = less
			continue
		}
		if network, code = composed(network, less, s.Meetings); code != impl.OK {
			return impl.Linear{}, code
		}
	}
	return hiddenLinear(restrictedLinear(network, s.Allowed), s.Hidden), impl.OK
}

// changingOf returns the parameters of each component that RemoveConstants should leave.
func changingOf(s impl.System) [][]int64 {
	var lists [][]int64
	for k := range s.Components {
		l, _ := linearDefined(s, k)
		lists = append(lists, changingParameters(l))
	}
	return lists
}

// numbersOf returns the state of the linear process of a system for one of the system, by the parameters that are left.
func numbersOf(s impl.System, state []impl.Point, left [][]int64) []int64 {
	var numbers []int64
	for k, p := range state {
		numbers = append(numbers, numbersAt(linearStateOf(s, p), left[k])...)
	}
	return numbers
}
