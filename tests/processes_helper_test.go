package tests

import (
	"math/rand/v2"
	"slices"

	"loop.example/g01075/impl"
)

func stopPart() impl.Part { return impl.Part{Kind: impl.PartStop} }

func actPart(name string, arguments ...[]impl.Term) impl.Part {
	return impl.Part{Kind: impl.PartAction, Name: name, Arguments: arguments}
}

func choicePart() impl.Part { return impl.Part{Kind: impl.PartChoice} }

func guardPart(e []impl.Term) impl.Part {
	return impl.Part{Kind: impl.PartGuard, Arguments: [][]impl.Term{e}}
}

func sumPart(most int64) impl.Part { return impl.Part{Kind: impl.PartSum, Number: most} }

func callPart(k int64, arguments ...[]impl.Term) impl.Part {
	return impl.Part{Kind: impl.PartCall, Number: k, Arguments: arguments}
}

func def(name string, parameters int64, body ...impl.Part) impl.Definition {
	return impl.Definition{Name: name, Parameters: parameters, Body: body}
}

// defs returns the definition of one process, p, with a body.
func defs(parameters int64, body ...impl.Part) []impl.Definition {
	return []impl.Definition{def("p", parameters, body...)}
}

// again returns n times a part and then the other parts.
func again(n int, p impl.Part, rest ...impl.Part) []impl.Part {
	return append(slices.Repeat([]impl.Part{p}, n), rest...)
}

// copied returns a deep copy, so that a test may change one and keep the other.
func copied[T any](x T) T {
	return emptyForNil(x).(T)
}

// example is a system of a sender, a channel that holds a value, and a receiver that adds; crash is used by none.
func example() impl.System {
	return impl.System{
		Definitions: []impl.Definition{
			def("crash", 1, guardPart(vr(0)), actPart("crash", vr(0)), callPart(0, op(impl.OpSub, vr(0), num(1)))),
			def("send", 0, choicePart(), actPart("put", num(1)), callPart(1), actPart("put", num(2)), callPart(1)),
			def("hold", 0, sumPart(3), actPart("get", vr(0)), actPart("pass", vr(0)), callPart(2)),
			def("add", 1, sumPart(7), choicePart(), guardPart(op(impl.OpLess, vr(1), num(4))), actPart("take", vr(1)), actPart("tau"),
				callPart(3, op(impl.OpAdd, vr(0), vr(1))), actPart("show", vr(0), vr(1)), stopPart()),
		},
		Components: []impl.Component{{Definition: 1}, {Definition: 2}, {Definition: 3, Values: []int64{5}}},
		Meetings:   []impl.Meeting{{Left: "get", Right: "put", Result: "in"}, {Left: "pass", Right: "take", Result: "out"}},
		Allowed:    []string{"in", "out", "show"},
		Hidden:     []string{"in"},
	}
}

// followersOf counts the parts that belong to a part of some kind, and none for an unknown kind.
func followersOf(kind int64) int {
	if kind < 0 || kind > 5 {
		return 0
	}
	return []int{0, 1, 2, 1, 1, 0}[kind]
}

// endOf returns the index behind a part and those that belong to it, and -1 if the body ends before.
func endOf(body []impl.Part, at int) int {
	if at < 0 || at >= len(body) {
		return -1
	}
	end := at + 1
	for range followersOf(body[at].Kind) {
		if end = endOf(body, end); end < 0 {
			return -1
		}
	}
	return end
}

// scopeOf counts the parameters and the sums to which a part belongs.
func scopeOf(d impl.Definition, at int) int64 {
	scope := d.Parameters
	for sum := range at {
		if d.Body[sum].Kind == impl.PartSum && endOf(d.Body, sum) > at {
			scope++
		}
	}
	return scope
}

// parentOf returns the kind of the part to which a part belongs directly, and -1 for the part 0.
func parentOf(body []impl.Part, at int) int64 {
	for k := at - 1; k >= 0; k-- {
		if endOf(body, k) > at {
			return body[k].Kind
		}
	}
	return -1
}

// firstFault repeats the rules of chapter 5 for bodies; the reason is 0 if the whole body is valid.
func firstFault(list []impl.Definition, k int) (int64, int64) {
	body := list[k].Body
	if len(body) < 1 || len(body) > 20 || endOf(body, 0) != len(body) {
		return 0, 1
	}
	for at := range body {
		for reason := int64(2); reason <= 8; reason++ {
			if breaks(list, k, at, reason) {
				return int64(at), reason
			}
		}
	}
	return 0, 0
}

// breaks reports whether a part is not valid for a reason, if it is valid for all reasons before it.
func breaks(list []impl.Definition, k, at int, reason int64) bool {
	p := list[k].Body[at]
	switch reason {
	case impl.ReasonKind:
		return p.Kind < 0 || p.Kind > 5 ||
			p.Number != 0 && p.Kind != impl.PartSum && p.Kind != impl.PartCall ||
			p.Name != "" && p.Kind != impl.PartAction ||
			len(p.Arguments) > 0 && p.Kind != impl.PartAction && p.Kind != impl.PartGuard && p.Kind != impl.PartCall
	case impl.ReasonName:
		return p.Kind == impl.PartAction && p.Name != "tau" && !impl.IsAction(p.Name)
	case impl.ReasonNumber:
		return p.Kind == impl.PartSum && (p.Number < 1 || p.Number > 7) ||
			p.Kind == impl.PartCall && (p.Number < 0 || p.Number >= int64(len(list)))
	case impl.ReasonCount:
		most := map[int64]int{impl.PartAction: 2, impl.PartGuard: 1}[p.Kind]
		if p.Name == "tau" {
			most = 0
		}
		if p.Kind == impl.PartCall {
			most = int(list[p.Number].Parameters)
		}
		return len(p.Arguments) > most || len(p.Arguments) < most && p.Kind != impl.PartAction
	case impl.ReasonPlace:
		return p.Kind == impl.PartCall && parentOf(list[k].Body, at) != impl.PartAction
	case impl.ReasonScope:
		return p.Kind == impl.PartSum && scopeOf(list[k], at)+1 > 6
	}
	return slices.ContainsFunc(p.Arguments, func(e []impl.Term) bool { return !impl.ValidTerms(e, scopeOf(list[k], at), 15) })
}

// A maker makes random systems.
type maker struct {
	r *rand.Rand
	// parameters of each definition
	parameters []int64
}

func (m *maker) expression(variables int64) []impl.Term {
	return randomExpression(m.r, 1+m.r.IntN(4), variables)
}

func (m *maker) expressions(n int, variables int64) [][]impl.Term {
	var list [][]impl.Term
	for range n {
		list = append(list, m.expression(variables))
	}
	return list
}

// part returns a valid part with those that belong to it: at most room of them, which is at least 1.
func (m *maker) part(room int, scope int64, afterAction bool) []impl.Part {
	if afterAction && m.r.IntN(3) > 0 || afterAction && room < 3 {
		k := m.r.IntN(len(m.parameters))
		return []impl.Part{callPart(int64(k), m.expressions(int(m.parameters[k]), scope)...)}
	}
	kind := m.r.IntN(8)
	switch {
	case room < 2:
		return []impl.Part{stopPart()}
	case kind == 0 && room >= 3 && scope < impl.MaxVariables:
		return append([]impl.Part{sumPart(1 + m.r.Int64N(3))}, m.part(room-1, scope+1, false)...)
	case kind == 1 && room >= 3:
		return append([]impl.Part{guardPart(m.expression(scope))}, m.part(room-1, scope, false)...)
	case kind < 5 && room >= 5:
		left := m.part(1+m.r.IntN(room-2), scope, false)
		return slices.Concat([]impl.Part{choicePart()}, left, m.part(room-1-len(left), scope, false))
	case m.r.IntN(8) == 0:
		return append([]impl.Part{actPart("tau")}, m.part(room-1, scope, true)...)
	}
	name := []string{"a", "b", "c", "d"}[m.r.IntN(4)]
	return append([]impl.Part{actPart(name, m.expressions(m.r.IntN(3), scope)...)}, m.part(room-1, scope, true)...)
}

// definitions returns 1 to 4 valid definitions.
func (m *maker) definitions() []impl.Definition {
	m.parameters = make([]int64, 1+m.r.IntN(impl.MaxDefinitions))
	for k := range m.parameters {
		m.parameters[k] = m.r.Int64N(impl.MaxParameters + 1)
	}
	var list []impl.Definition
	for k, parameters := range m.parameters {
		name := []string{"p", "q", "r2", "s"}[k]
		list = append(list, def(name, parameters, m.part(1+m.r.IntN(impl.MaxParts), parameters, false)...))
	}
	return list
}

func (m *maker) names(chance int, of ...string) []string {
	var list []string
	for _, name := range of {
		if m.r.IntN(100) < chance {
			list = append(list, name)
		}
	}
	return list
}

// system returns a valid system.
func (m *maker) system() impl.System {
	s := impl.System{Definitions: m.definitions()}
	for range 1 + m.r.IntN(impl.MaxComponents) {
		k := m.r.IntN(len(s.Definitions))
		s.Components = append(s.Components, impl.Component{Definition: int64(k), Values: randomValues(m.r, int(m.parameters[k]))})
	}
	for _, pair := range []string{"aa", "ab", "ac", "ad", "bb", "bc", "bd", "cd"} {
		if m.r.IntN(3) == 0 && len(s.Meetings) < impl.MaxMeetings {
			s.Meetings = append(s.Meetings, impl.Meeting{Left: pair[:1], Right: pair[1:], Result: []string{"e", "f"}[m.r.IntN(2)]})
		}
	}
	s.Allowed = m.names(70, "a", "b", "c", "d", "e", "f")
	s.Hidden = m.names(20, "a", "b", "c", "d", "e", "f")
	return s
}
