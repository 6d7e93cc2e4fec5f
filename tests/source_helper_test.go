package tests

import (
	"math/rand/v2"
	"regexp"
	"slices"
	"strconv"
	"strings"
	"testing"

	"loop.example/g01075/impl"
)

// What source texts mean is repeated here by splitting lines that are known to have no errors of syntax, from outside in.

// A splitter splits the lines of a source text.
type splitter struct {
	// names are those of all definitions.
	names  []string
	line   string
	number int
	// missing has the line and the byte of the first name that no definition has.
	missing []int
}

// outside returns the first place of a byte between two others that is not inside of parentheses or brackets, or -1.
func (p *splitter) outside(c byte, from, to int) int {
	depth := 0
	for i := from; i < to; i++ {
		if depth == 0 && p.line[i] == c {
			return i
		}
		switch p.line[i] {
		case '(', '[':
			depth++
		case ')', ']':
			depth--
		}
	}
	return -1
}

// split returns the ends of what stands between bytes of one kind.
func (p *splitter) split(c byte, from, to int) [][2]int {
	if i := p.outside(c, from, to); i >= 0 {
		return append([][2]int{{from, i}}, p.split(c, i+1, to)...)
	}
	return [][2]int{{from, to}}
}

// named returns the index of the definition whose name begins at a byte.
func (p *splitter) named(at int) int64 {
	k := slices.Index(p.names, sourceLexeme.FindString(p.line[at:]))
	if k < 0 && p.missing == nil {
		p.missing = []int{p.number, at}
	}
	return int64(max(k, 0))
}

// expression returns the terms of an expression, and none if they are too many for any expression.
func (p *splitter) expression(from, to int) []impl.Term {
	// Two tokens of an expression never become another one without the blanks between them.
	e, _, _ := impl.ParseExpression(strings.ReplaceAll(p.line[from:to], " ", ""))
	return e
}

func (p *splitter) process(from, to int) []impl.Part {
	from = afterBlanks(p.line, from)
	if plus := p.outside('+', from, to); plus >= 0 {
		return slices.Concat([]impl.Part{choicePart()}, p.process(from, plus), p.process(plus+1, to))
	}
	switch p.line[from] {
	case '0':
		return []impl.Part{stopPart()}
	case '(':
		return p.process(from+1, p.outside(')', from+1, to))
	case '[':
		end := p.outside(']', from+1, to)
		return append([]impl.Part{guardPart(p.expression(from+1, end))}, p.process(end+1, to)...)
	}
	return p.word(from, to)
}

var beginningOfSum = regexp.MustCompile(`^sum +([0-9]+) *\.`)

// word returns the parts of a process that begins with a word.
func (p *splitter) word(from, to int) []impl.Part {
	if sum := beginningOfSum.FindStringSubmatch(p.line[from:to]); sum != nil {
		most, _ := strconv.ParseInt(sum[1], 10, 64)
		return append([]impl.Part{sumPart(most)}, p.process(from+len(sum[0]), to)...)
	}
	name := sourceLexeme.FindString(p.line[from:to])
	at := afterBlanks(p.line, from+len(name))
	var arguments [][]impl.Term
	if at < to && p.line[at] == '(' {
		end := p.outside(')', at+1, to)
		for _, ends := range p.split(',', at+1, end) {
			arguments = append(arguments, p.expression(ends[0], ends[1]))
		}
		at = afterBlanks(p.line, end+1)
	}
	if at < to && p.line[at] == '.' {
		return append([]impl.Part{actPart(name, arguments...)}, p.process(at+1, to)...)
	}
	return []impl.Part{callPart(p.named(from), arguments...)}
}

func (p *splitter) component(from, to int) impl.Component {
	from = afterBlanks(p.line, from)
	c := impl.Component{Definition: p.named(from)}
	if open := p.outside('(', from, to); open >= 0 {
		for _, ends := range p.split(',', open+1, p.outside(')', open+1, to)) {
			value, _ := strconv.ParseInt(strings.Trim(p.line[ends[0]:ends[1]], " "), 10, 64)
			c.Values = append(c.Values, value)
		}
	}
	return c
}

var beginningOfProcess = regexp.MustCompile(`^ *proc +([a-z0-9]+) +([0-3]) *=`)

// addLine adds to a system what the line of the splitter says.
func (p *splitter) addLine(s *impl.System) {
	words := strings.Fields(p.line)
	switch words[0] {
	case "proc":
		front := beginningOfProcess.FindStringSubmatch(p.line)
		body := p.process(len(front[0]), len(p.line))
		s.Definitions = append(s.Definitions, def(front[1], int64(front[2][0]-'0'), body...))
	case "run":
		for _, ends := range p.split('|', strings.Index(p.line, "run")+3, len(p.line)) {
			s.Components = append(s.Components, p.component(ends[0], ends[1]))
		}
	case "meet":
		s.Meetings = append(s.Meetings, impl.Meeting{Left: words[1], Right: words[2], Result: words[3]})
	case "allow":
		s.Allowed = words[1:]
	case "hide":
		s.Hidden = words[1:]
	}
}

// meaningOf returns what ParseSystem should return.
func meaningOf(t string) (impl.System, int, int, int) {
	if len(t) > 16000 {
		return impl.System{}, 0, 0, impl.ErrRange
	}
	if line, at, ok := firstErrorOfSource(t); !ok {
		return impl.System{}, line, at, impl.ErrSyntax
	}
	lines := strings.Split(t, "\n")
	var p splitter
	for _, line := range lines {
		if front := beginningOfProcess.FindStringSubmatch(line); front != nil {
			p.names = append(p.names, front[1])
		}
	}
	var s impl.System
	for p.number, p.line = range lines {
		p.addLine(&s)
	}
	switch {
	case p.missing != nil:
		return impl.System{}, p.missing[0], p.missing[1], impl.ErrNotFound
	case !impl.ValidSystem(s):
		return impl.System{}, 0, 0, impl.ErrFormat
	}
	return s, 0, 0, impl.OK
}

// checkSource compares what a text is parsed to with its meaning, and returns the code.
func checkSource(t *testing.T, text string) int64 {
	t.Helper()
	want, wantLine, wantAt, wantCode := meaningOf(text)
	s, line, at, code := impl.ParseSystem(text)
	if !impl.SameSystem(s, want) || line != int64(wantLine) || at != int64(wantAt) || code != int64(wantCode) {
		t.Fatalf("%q is parsed to %+v, %d, %d, %d; want %+v, %d, %d, %d", text, s, line, at, code, want, wantLine, wantAt, wantCode)
	}
	return code
}

// A writer writes systems as text; more says where to put parentheses that are not necessary.
type writer struct {
	s    impl.System
	more func() bool
}

func never() bool { return false }

// exactly returns the text that the functions of chapter 6 should return for a system.
func exactly(s impl.System) string {
	return strings.Join(writer{s, never}.lines(), "\n")
}

func (w writer) lines() []string {
	var lines []string
	for k := range w.s.Definitions {
		lines = append(lines, w.processLine(k))
	}
	var components []string
	for _, c := range w.s.Components {
		text := strings.ReplaceAll("("+strings.Trim(impl.ListText(c.Values), "-")+")", "()", "")
		components = append(components, w.s.Definitions[c.Definition].Name+text)
	}
	lines = append(lines, "run "+strings.Join(components, " | "))
	for _, m := range w.s.Meetings {
		lines = append(lines, "meet "+m.Left+" "+m.Right+" "+m.Result)
	}
	if len(w.s.Allowed) > 0 {
		lines = append(lines, "allow "+strings.Join(w.s.Allowed, " "))
	}
	if len(w.s.Hidden) > 0 {
		lines = append(lines, "hide "+strings.Join(w.s.Hidden, " "))
	}
	return lines
}

func (w writer) processLine(k int) string {
	d := w.s.Definitions[k]
	return "proc " + d.Name + " " + impl.Decimal(d.Parameters) + " = " + w.process(d.Body, true)
}

// process returns the text of parts, where a choice may stand without parentheses or not.
func (w writer) process(body []impl.Part, choice bool) string {
	first, rest := body[0], body[1:]
	text := ""
	switch first.Kind {
	case impl.PartStop:
		text = "0"
	case impl.PartAction:
		text = first.Name + w.arguments(first) + "." + w.process(rest, false)
	case impl.PartGuard:
		text = "[" + treeOf(first.Arguments[0]).text() + "]" + w.process(rest, false)
	case impl.PartSum:
		text = "sum " + impl.Decimal(first.Number) + "." + w.process(rest, false)
	case impl.PartCall:
		// There are no parentheses around calls.
		return w.s.Definitions[first.Number].Name + w.arguments(first)
	case impl.PartChoice:
		second := endOf(rest, 0)
		text = w.process(rest[:second], false) + " + " + w.process(rest[second:], true)
		if !choice {
			return "(" + text + ")"
		}
	}
	if w.more() {
		return "(" + text + ")"
	}
	return text
}

func (w writer) arguments(p impl.Part) string {
	var texts []string
	for _, e := range p.Arguments {
		texts = append(texts, treeOf(e).text())
	}
	return strings.ReplaceAll("("+strings.Join(texts, ",")+")", "()", "")
}

var lexemeOfLine = regexp.MustCompile(`<=|[a-z][a-z0-9]*|[0-9]+|[^ ]`)

// lexemesOfLine returns the tokens of a line without errors of syntax; `<=` occurs in expressions only.
func lexemesOfLine(line string) []string { return lexemeOfLine.FindAllString(line, -1) }

func isWordByte(b byte) bool { return 'a' <= b && b <= 'z' || '0' <= b && b <= '9' }

// joinedLexemes joins tokens with blanks as some function says, and with one where two would become one.
func joinedLexemes(tokens []string, blanks func() int) string {
	text := strings.Repeat(" ", blanks())
	for i, token := range tokens {
		text += token
		n := blanks()
		if i+1 < len(tokens) && isWordByte(token[len(token)-1]) && isWordByte(tokens[i+1][0]) {
			n = max(n, 1)
		}
		text += strings.Repeat(" ", n)
	}
	return text
}

// loosely returns a text of a system with other blanks and parentheses.
func loosely(r *rand.Rand, s impl.System) string {
	w := writer{s, func() bool { return r.IntN(6) == 0 }}
	lines := w.lines()
	for i, line := range lines {
		lines[i] = joinedLexemes(lexemesOfLine(line), func() int { return max(0, r.IntN(6)-3) })
	}
	return strings.Join(lines, "\n")
}

// oddNames are names that are easily taken for something else, all of them different from those of a maker.
func oddNames() []string {
	return []string{"sum", "proc", "run", "meet", "allow", "hide", "v0", "v29", "z123456789", "sum3", "taux", "tau"}
}

// withOddNames returns a system in which definitions and actions have other names; a definition may be named tau.
func withOddNames(r *rand.Rand, s impl.System) impl.System {
	s = copied(s)
	names := oddNames()
	r.Shuffle(len(names), func(i, k int) { names[i], names[k] = names[k], names[i] })
	for k := range s.Definitions {
		s.Definitions[k].Name = names[k]
	}
	actions := oddNames()[:11]
	r.Shuffle(len(actions), func(i, k int) { actions[i], actions[k] = actions[k], actions[i] })
	of := map[string]string{"tau": "tau", "": ""}
	for i, name := range []string{"a", "b", "c", "d", "e", "f"} {
		of[name] = actions[i]
	}
	return renamedActions(s, of)
}

// renamedActions replaces all names of actions and puts what is sorted into its order.
func renamedActions(s impl.System, of map[string]string) impl.System {
	s = copied(s)
	for _, d := range s.Definitions {
		for i, p := range d.Body {
			d.Body[i].Name = of[p.Name]
		}
	}
	for i, m := range s.Meetings {
		names := []string{of[m.Left], of[m.Right]}
		slices.Sort(names)
		s.Meetings[i] = impl.Meeting{Left: names[0], Right: names[1], Result: of[m.Result]}
	}
	slices.SortFunc(s.Meetings, func(a, b impl.Meeting) int {
		return strings.Compare(a.Left+" "+a.Right, b.Left+" "+b.Right)
	})
	for _, names := range [][]string{s.Allowed, s.Hidden} {
		for i, name := range names {
			names[i] = of[name]
		}
		slices.Sort(names)
	}
	return s
}
