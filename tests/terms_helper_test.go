package tests

import (
	"cmp"
	"math/rand/v2"
	"slices"

	"loop.example/g01075/impl"
)

func num(n int64) []impl.Term { return []impl.Term{{Kind: impl.TermNumber, Value: n}} }

func vr(k int64) []impl.Term { return []impl.Term{{Kind: impl.TermVariable, Value: k}} }

func op(o int64, a, b []impl.Term) []impl.Term {
	return slices.Concat([]impl.Term{{Kind: impl.TermOperator, Value: o}}, a, b)
}

func not(a []impl.Term) []impl.Term { return slices.Concat([]impl.Term{{Kind: impl.TermNot}}, a) }

// nots returns n times not of an expression.
func nots(n int, a []impl.Term) []impl.Term {
	return slices.Concat(slices.Repeat([]impl.Term{{Kind: impl.TermNot}}, n), a)
}

// sumOf returns the sum of n times a term, with 2 * n - 1 terms.
func sumOf(n int, t []impl.Term) []impl.Term {
	if n == 1 {
		return t
	}
	return op(impl.OpAdd, t, sumOf(n-1, t))
}

// A tree is an expression in the form in which the definitions of chapters 3 and 4 can be repeated most directly.
type tree struct {
	term     impl.Term
	operands []tree
}

func treeOf(e []impl.Term) tree {
	x, rest := readTree(e)
	if len(rest) > 0 {
		panic("not one complete operation")
	}
	return x
}

func readTree(e []impl.Term) (tree, []impl.Term) {
	x, rest := tree{term: e[0]}, e[1:]
	for range []int{0, 0, 2, 1}[x.term.Kind] {
		var operand tree
		operand, rest = readTree(rest)
		x.operands = append(x.operands, operand)
	}
	return x, rest
}

func (x tree) terms() []impl.Term {
	e := []impl.Term{x.term}
	for _, operand := range x.operands {
		e = append(e, operand.terms()...)
	}
	return e
}

func (x tree) postfix() []impl.Term {
	var list []impl.Term
	for _, operand := range x.operands {
		list = append(list, operand.postfix()...)
	}
	return append(list, x.term)
}

func (x tree) value(values []int64) int64 {
	switch x.term.Kind {
	case impl.TermNumber:
		return x.term.Value
	case impl.TermVariable:
		return values[x.term.Value]
	case impl.TermNot:
		return oneIf(x.operands[0].value(values) == 0)
	}
	return meaning(x.term.Value, x.operands[0].value(values), x.operands[1].value(values))
}

func oneIf(b bool) int64 {
	if b {
		return 1
	}
	return 0
}

// meaning is what the document says of the operators.
func meaning(o, a, b int64) int64 {
	return []int64{
		((a+b)%64 + 64) % 64, ((a-b)%64 + 64) % 64, ((a*b)%64 + 64) % 64,
		oneIf(a == b), oneIf(a != b), oneIf(a < b), oneIf(a < b || a == b), oneIf(a*b != 0), oneIf(a+b != 0),
	}[o]
}

func (x tree) isNumber() bool { return x.term.Kind == impl.TermNumber }

func (x tree) folded() tree {
	y := tree{term: x.term}
	for _, operand := range x.operands {
		y.operands = append(y.operands, operand.folded())
	}
	for _, operand := range y.operands {
		if !operand.isNumber() {
			return y
		}
	}
	if len(y.operands) == 0 {
		return y
	}
	return tree{term: impl.Term{Kind: impl.TermNumber, Value: y.value(nil)}}
}

func (x tree) canonical() tree {
	y := tree{term: x.term}
	for _, operand := range x.operands {
		y.operands = append(y.operands, operand.canonical())
	}
	if x.term.Kind == impl.TermOperator && slices.Contains([]int64{0, 2, 3, 4, 7, 8}, x.term.Value) && greater(y.operands[0].terms(), y.operands[1].terms()) {
		y.operands[0], y.operands[1] = y.operands[1], y.operands[0]
	}
	return y
}

func greater(a, b []impl.Term) bool {
	if len(a) != len(b) {
		return len(a) > len(b)
	}
	for i := range a {
		if a[i] != b[i] {
			return cmp.Or(cmp.Compare(a[i].Kind, b[i].Kind), cmp.Compare(a[i].Value, b[i].Value)) > 0
		}
	}
	return false
}

// text is the text of the rule for parentheses.
func (x tree) text() string {
	switch x.term.Kind {
	case impl.TermNumber:
		return impl.Decimal(x.term.Value)
	case impl.TermVariable:
		return "v" + impl.Decimal(x.term.Value)
	case impl.TermNot:
		if x.operands[0].level() > 0 {
			return "!(" + x.operands[0].text() + ")"
		}
		return "!" + x.operands[0].text()
	}
	left, right := x.operands[0].text(), x.operands[1].text()
	if l := x.operands[0].level(); l > 0 && l < x.level() {
		left = "(" + left + ")"
	}
	if l := x.operands[1].level(); l > 0 && l <= x.level() {
		right = "(" + right + ")"
	}
	return left + operatorTexts()[x.term.Value] + right
}

// level is 0 for what does not begin with an operator.
func (x tree) level() int64 {
	if x.term.Kind != impl.TermOperator {
		return 0
	}
	return levels()[x.term.Value]
}

func operatorTexts() []string { return []string{"+", "-", "*", "=", "#", "<", "<=", "&", "|"} }

func levels() []int64 { return []int64{4, 4, 5, 3, 3, 3, 3, 2, 1} }

// smallExpressions returns all expressions with at most some terms over some operands and operators.
func smallExpressions(most int, operands [][]impl.Term, operators []int64) [][]impl.Term {
	lists := make([][][]impl.Term, most+1)
	for n := 1; n <= most; n++ {
		if n == 1 {
			lists[n] = operands
			continue
		}
		for _, a := range lists[n-1] {
			lists[n] = append(lists[n], not(a))
		}
		for left := 1; left < n-1; left++ {
			for _, a := range lists[left] {
				for _, b := range lists[n-1-left] {
					for _, o := range operators {
						lists[n] = append(lists[n], op(o, a, b))
					}
				}
			}
		}
	}
	return slices.Concat(lists...)
}

func allOperators() []int64 { return counted(9) }

// randomExpression returns an expression with n terms over some variables.
func randomExpression(r *rand.Rand, n int, variables int64) []impl.Term {
	switch {
	case n == 1 && variables > 0 && r.IntN(4) > 0:
		return vr(r.Int64N(variables))
	case n == 1:
		return num(r.Int64N(impl.Modulus))
	case n == 2 || r.IntN(6) == 0:
		return not(randomExpression(r, n-1, variables))
	}
	left := 1 + r.IntN(n-2)
	return op(r.Int64N(9), randomExpression(r, left, variables), randomExpression(r, n-1-left, variables))
}

// randomExpressions returns some expressions of each number of terms from 1 to MaxGuard, the same ones in every run.
func randomExpressions(each int, variables int64) [][]impl.Term {
	r := rand.New(rand.NewPCG(3, 4))
	var list [][]impl.Term
	for n := 1; n <= impl.MaxGuard; n++ {
		for range each {
			list = append(list, randomExpression(r, n, variables))
		}
	}
	return list
}

// randomValues returns n values, small ones more often.
func randomValues(r *rand.Rand, n int) []int64 {
	values := make([]int64, n)
	for i := range values {
		values[i] = r.Int64N([]int64{2, 4, impl.Modulus}[r.IntN(3)])
	}
	return values
}
