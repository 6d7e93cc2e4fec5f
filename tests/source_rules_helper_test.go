package tests

import (
	"regexp"
	"slices"
	"strings"
)

// sourceRules repeats the tables of chapter 6, one rule a line: what is on the left consists of the symbols behind it.
// A symbol is the left of other rules, a kind of token in capital letters, or a token. OPERAND, OPERATOR and what begins
// with a quote are tokens of expressions.
const sourceRules = `
p             proc WORD PARAMETERS = process
r             run components
m             meet ACTION ACTION ACTION
a             allow actions
h             hide actions
components    component
components    component | components
component     WORD
component     WORD ( values )
values        VALUE
values        VALUE , values
actions       ACTION
actions       ACTION actions
process       operand
process       operand + process
operand       0
operand       [ expression ] operand
operand       sum GREATEST . operand
operand       ( process )
operand       tau . continuation
operand       ACTION . continuation
operand       ACTION ( expression ) . continuation
operand       ACTION ( expression , expression ) . continuation
continuation  operand
continuation  call
call          WORD
call          WORD ( expressions )
expressions   expression
expressions   expression , expressions
expression    inner
expression    inner OPERATOR expression
inner         OPERAND
inner         '! inner
inner         '( expression ')
`

// The lexemes at the beginning of a text, and the forms of the kinds of tokens.
var (
	sourceLexeme     = regexp.MustCompile(`^(?:[a-z][a-z0-9]*|[0-9]+|[^ ])`)
	expressionLexeme = regexp.MustCompile(`^(?:[0-9]+|v[0-9]*|<=|[^ ])`)
	tokenForms       = map[string]*regexp.Regexp{
		"WORD":       regexp.MustCompile(`^[a-z][a-z0-9]{0,9}$`),
		"ACTION":     regexp.MustCompile(`^[a-z][a-z0-9]{0,9}$`),
		"PARAMETERS": regexp.MustCompile(`^[0-3]$`),
		"GREATEST":   regexp.MustCompile(`^[1-7]$`),
		"VALUE":      regexp.MustCompile(`^(?:[0-9]|[1-5][0-9]|6[0-3])$`),
		"OPERAND":    regexp.MustCompile(`^(?:[0-9]|[1-5][0-9]|6[0-3]|v[0-9]|v1[0-9]|v2[0-8])$`),
		"OPERATOR":   regexp.MustCompile(`^(?:[-+*=#<&|]|<=)$`),
	}
)

type sourceRule struct {
	left  string
	right []string
}

// rulesOf returns the rules by what is on their left.
func rulesOf(text string) map[string][]*sourceRule {
	rules := map[string][]*sourceRule{}
	for _, line := range strings.Split(strings.TrimSpace(text), "\n") {
		symbols := strings.Fields(line)
		rules[symbols[0]] = append(rules[symbols[0]], &sourceRule{symbols[0], symbols[1:]})
	}
	return rules
}

var rulesOfSource = rulesOf(sourceRules)

// afterBlanks returns the offset of the first byte from one on that is not a blank.
func afterBlanks(line string, at int) int {
	for at < len(line) && line[at] == ' ' {
		at++
	}
	return at
}

// tokenEnd returns the offset behind a token of some kind that begins at a byte, and -1 if there is none.
func tokenEnd(symbol, line string, at int) int {
	lexemes := sourceLexeme
	token, ofExpression := strings.CutPrefix(symbol, "'")
	if ofExpression || symbol == "OPERAND" || symbol == "OPERATOR" {
		lexemes = expressionLexeme
	}
	lexeme := lexemes.FindString(line[at:])
	isToken := lexeme == token
	if form := tokenForms[symbol]; form != nil {
		isToken = form.MatchString(lexeme) && (symbol != "ACTION" || lexeme != "tau")
	}
	if !isToken {
		return -1
	}
	return at + len(lexeme)
}

// A partialRule is a rule whose first symbols have been found from one byte of a line on.
type partialRule struct {
	rule        *sourceRule
	found, from int
}

// A chart keeps, for each byte of a line at which a token can begin, all rules that may go on there: Earley's method.
type chart struct {
	line string
	at   [][]partialRule
}

func (c *chart) add(at int, p partialRule) {
	if !slices.Contains(c.at[at], p) {
		c.at[at] = append(c.at[at], p)
	}
}

func (c *chart) addRules(at int, left string) {
	for _, rule := range rulesOfSource[left] {
		c.add(at, partialRule{rule, 0, at})
	}
}

// goOn adds what follows from a rule that may go on at a byte.
func (c *chart) goOn(at int, p partialRule) {
	if p.found == len(p.rule.right) {
		for _, outer := range c.at[p.from] {
			if outer.found < len(outer.rule.right) && outer.rule.right[outer.found] == p.rule.left {
				c.add(at, partialRule{outer.rule, outer.found + 1, outer.from})
			}
		}
		return
	}
	symbol := p.rule.right[p.found]
	if rulesOfSource[symbol] != nil {
		c.addRules(at, symbol)
	} else if end := tokenEnd(symbol, c.line, at); end > at {
		c.add(afterBlanks(c.line, end), partialRule{p.rule, p.found + 1, p.from})
	}
}

// readAs returns the kind of a line, one of some kinds; or none, and the offset of the first error: the last one that
// the tokens before it lead to.
func readAs(line string, kinds string) (string, int) {
	c := chart{line, make([][]partialRule, len(line)+1)}
	begin := afterBlanks(line, 0)
	for _, kind := range kinds {
		c.addRules(begin, string(kind))
	}
	last := begin
	for at := begin; at <= len(line); at++ {
		for i := 0; i < len(c.at[at]); i++ {
			last = at
			c.goOn(at, c.at[at][i])
		}
	}
	for _, p := range c.at[len(line)] {
		if p.from == begin && p.found == len(p.rule.right) && strings.Contains(kinds, p.rule.left) {
			return p.rule.left, 0
		}
	}
	return "", last
}

// orderOfLines has the beginnings of all sequences of the kinds of lines.
var orderOfLines = regexp.MustCompile(`^p*(?:rm*a?h?)?$`)

// firstErrorOfSource returns the line and the byte of the first error of a text, and true if it is a source text.
func firstErrorOfSource(t string) (int, int, bool) {
	lines := strings.Split(t, "\n")
	before := ""
	for i, line := range lines {
		kinds := ""
		for _, kind := range "prmah" {
			if orderOfLines.MatchString(before + string(kind)) {
				kinds += string(kind)
			}
		}
		kind, at := readAs(line, kinds)
		if kind == "" {
			return i, at, false
		}
		before += kind
	}
	if !strings.Contains(before, "r") {
		return len(lines), 0, false
	}
	return 0, 0, true
}
