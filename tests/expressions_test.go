package tests

import (
	"math"
	"slices"
	"strings"
	"testing"

	"loop.example/g01075/impl"
)

func TestOperatorsAndLevels(t *testing.T) {
	for o, text := range operatorTexts() {
		expect(t, impl.OperatorText, in(o), text)
		expect(t, impl.ReadOperator, in(text), o, true)
		expect(t, impl.LevelOf, in(o), levels()[o], impl.OK)
	}
	for _, o := range []int64{-1, 9, 10, math.MinInt64, math.MaxInt64, 1 << 32} {
		expect(t, impl.OperatorText, in(o), "")
		expect(t, impl.LevelOf, in(o), 0, impl.ErrRange)
	}
	for _, s := range []string{"", " ", "!", "(", ")", "0", "v0", "==", "=<", ">", ">=", "++", " +", "+ ", "<=<", "and", "&&", "||", "\x00"} {
		expect(t, impl.ReadOperator, in(s), 0, false)
	}
}

func TestTokensOf(t *testing.T) {
	for _, c := range []struct {
		s       string
		tokens  []string
		offsets []int64
	}{
		{"", nil, nil},
		{"   ", nil, nil},
		{"0", []string{"0"}, []int64{0}},
		{"63", []string{"63"}, []int64{0}},
		{"v0", []string{"v0"}, []int64{0}},
		{"v28", []string{"v28"}, []int64{0}},
		{"v0 <=63", []string{"v0", "<=", "63"}, []int64{0, 3, 5}},
		{"  v0  ", []string{"v0"}, []int64{2}},
		{"v0v1", []string{"v0", "v1"}, []int64{0, 2}},
		{"10v0", []string{"10", "v0"}, []int64{0, 2}},
		{"<=", []string{"<="}, []int64{0}},
		{"< =", []string{"<", "="}, []int64{0, 2}},
		{"=<", []string{"=", "<"}, []int64{0, 1}},
		{"<==", []string{"<=", "="}, []int64{0, 2}},
		{"<<=", []string{"<", "<="}, []int64{0, 1}},
		{"<=<=", []string{"<=", "<="}, []int64{0, 2}},
		{"+-*=#<&|!()", []string{"+", "-", "*", "=", "#", "<", "&", "|", "!", "(", ")"}, counted(11)},
		{")(0", []string{")", "(", "0"}, counted(3)},
		{"1 2", []string{"1", "2"}, []int64{0, 2}},
		{"v28<=v1&7", []string{"v28", "<=", "v1", "&", "7"}, []int64{0, 3, 5, 7, 8}},
	} {
		expect(t, impl.TokensOf, in(c.s), c.tokens, c.offsets, impl.OK)
		expect(t, impl.TokensOf, in(c.s+strings.Repeat(" ", 400-len(c.s))), c.tokens, c.offsets, impl.OK)
		expect(t, impl.TokensOf, in(c.s+strings.Repeat(" ", 401-len(c.s))), nil, nil, impl.ErrRange)
	}
	expect(t, impl.TokensOf, in(strings.Repeat("(", 400)), slices.Repeat([]string{"("}, 400), counted(400), impl.OK)
}

// noLexemes returns texts at whose beginning no token begins.
func noLexemes() []string {
	return []string{"64", "99", "100", "00", "01", "063", "000", "v", "v29", "v30", "v100", "v00", "v01", "v028", "vv1", "v-1", "v(", "v+1",
		"x", "a1", "V1", "w0", "$", "~", "?", ">", ">=", ",", ".", ";", ":", "/", "%", "^", "[", "]", "{", "}", "\"", "'", "_", "\t", "\n", "\r",
		"\x00", "\x7f", "é", "≤", "\xff", "\xc3", "\u00a0", "٣", "99999999999999999999", "v99999999999999999999", strings.Repeat("9", 300), "v" + strings.Repeat("0", 300)}
}

func TestTokensOfErrors(t *testing.T) {
	for _, bad := range noLexemes() {
		for _, s := range []string{bad, " " + bad, "v0+" + bad, "(" + bad, "1 " + bad + " 1", bad + "+64", bad + " "} {
			expect(t, impl.TokensOf, in(s), nil, nil, impl.ErrSyntax)
		}
		long := bad + strings.Repeat(" ", 401)
		expect(t, impl.TokensOf, in(long[:401]), nil, nil, impl.ErrRange)
		expect(t, impl.TokensOf, in(long[:400]), nil, nil, impl.ErrSyntax)
	}
	expect(t, impl.TokensOf, in(strings.Repeat(" ", 399)+"v"), nil, nil, impl.ErrSyntax)
	expect(t, impl.TokensOf, in("v0 64"), nil, nil, impl.ErrSyntax)
	expect(t, impl.TokensOf, in(strings.Repeat("0", 5000)), nil, nil, impl.ErrRange)
}

func TestTextOfTheExample(t *testing.T) {
	e := op(impl.OpBoth, not(op(impl.OpEqual, vr(0), num(1))), op(impl.OpLess, op(impl.OpSub, vr(1), op(impl.OpSub, num(2), vr(2))), num(3)))
	expect(t, impl.ExpressionText, in(e), "!(v0=1)&v1-(2-v2)<3")
	expect(t, impl.ParseExpression, in("!(v0=1)&v1-(2-v2)<3"), e, 0, impl.OK)
	expect(t, impl.ParseExpression, in("  ( !((v0) = 1)) & ((v1- ( 2-v2 ))< 3 ) "), e, 0, impl.OK)
}

func TestExpressionText(t *testing.T) {
	one := op(impl.OpMul, num(1), num(2))
	for s, e := range map[string][]impl.Term{
		"63":                          num(63),
		"v28":                         vr(28),
		"!0":                          not(num(0)),
		"!!v1":                        nots(2, vr(1)),
		"!(1*2)":                      not(one),
		"!!(1*2)":                     nots(2, one),
		"!1*2":                        op(impl.OpMul, not(num(1)), num(2)),
		"1*!2":                        op(impl.OpMul, num(1), not(num(2))),
		"!(1*2)*!!3":                  op(impl.OpMul, not(one), nots(2, num(3))),
		"1*!(1*2)":                    op(impl.OpMul, num(1), not(one)),
		"1*2*3":                       op(impl.OpMul, one, num(3)),
		"3*(1*2)":                     op(impl.OpMul, num(3), one),
		"3+1*2":                       op(impl.OpAdd, num(3), one),
		"1*2<=v0":                     op(impl.OpAtMost, one, vr(0)),
		"(1|2)&(1|2)":                 op(impl.OpBoth, op(impl.OpEither, num(1), num(2)), op(impl.OpEither, num(1), num(2))),
		"v0<1=(v1#2)":                 op(impl.OpEqual, op(impl.OpLess, vr(0), num(1)), op(impl.OpUnequal, vr(1), num(2))),
		"v0-v1-v2":                    op(impl.OpSub, op(impl.OpSub, vr(0), vr(1)), vr(2)),
		"v0-(v1-v2)":                  op(impl.OpSub, vr(0), op(impl.OpSub, vr(1), vr(2))),
		strings.Repeat("!", 59) + "0": nots(59, num(0)),
		strings.Repeat("5+(", 28) + "5+5" + strings.Repeat(")", 28): sumOf(30, num(5)),
	} {
		expect(t, impl.ExpressionText, in(e), s)
		expect(t, impl.ParseExpression, in(s), e, 0, impl.OK)
	}
	for _, e := range noExpressions() {
		expect(t, impl.ExpressionText, in(e), "")
	}
}

// TestOperatorsBesideEachOther takes all pairs of operators, those of one level among them, with and without parentheses.
func TestOperatorsBesideEachOther(t *testing.T) {
	texts := operatorTexts()
	for o, first := range texts {
		for p, second := range texts {
			left := op(int64(p), op(int64(o), vr(0), vr(1)), vr(2))
			right := op(int64(o), vr(0), op(int64(p), vr(1), vr(2)))
			leftText, rightText := "(v0"+first+"v1)"+second+"v2", "v0"+first+"(v1"+second+"v2)"
			expect(t, impl.ParseExpression, in(leftText), left, 0, impl.OK)
			expect(t, impl.ParseExpression, in(rightText), right, 0, impl.OK)
			bare, bareText := left, "v0"+first+"v1"+second+"v2"
			if levels()[p] > levels()[o] {
				bare, rightText = right, bareText
			} else {
				leftText = bareText
			}
			expect(t, impl.ParseExpression, in(bareText), bare, 0, impl.OK)
			expect(t, impl.ExpressionText, in(left), leftText)
			expect(t, impl.ExpressionText, in(right), rightText)
		}
	}
	expect(t, impl.ParseExpression, in("v0-v1-v2"), op(impl.OpSub, op(impl.OpSub, vr(0), vr(1)), vr(2)), 0, impl.OK)
	expect(t, impl.ParseExpression, in("v0<v1=v2"), op(impl.OpEqual, op(impl.OpLess, vr(0), vr(1)), vr(2)), 0, impl.OK)
	expect(t, impl.ParseExpression, in("1-2+3-4"), op(impl.OpSub, op(impl.OpAdd, op(impl.OpSub, num(1), num(2)), num(3)), num(4)), 0, impl.OK)
	expect(t, impl.ParseExpression, in("!v0-!v1"), op(impl.OpSub, not(vr(0)), not(vr(1))), 0, impl.OK)
	expect(t, impl.ParseExpression, in("1|2&3<4+5*6"), op(8, num(1), op(7, num(2), op(5, num(3), op(0, num(4), op(2, num(5), num(6)))))), 0, impl.OK)
	expect(t, impl.ParseExpression, in("1*2+3<4&5|6"), op(8, op(7, op(5, op(0, op(2, num(1), num(2)), num(3)), num(4)), num(5)), num(6)), 0, impl.OK)
}

func TestFirstErrors(t *testing.T) {
	for s, at := range map[string]int64{
		"v0+)": 3, "(v0": 3, "v0 64": 3, "1+64": 2,
		"": 0, " ": 1, "     ": 5, ")": 0, " )": 1, "(": 1, "()": 1, "( )": 2, "!": 1, "!)": 1, "!+": 1, "+": 0, "+1": 0, "1+": 2, "1+ ": 3, "1 + + 1": 4,
		"1 1": 2, "1v1": 1, "v1v1": 2, "v1(": 2, "v1!": 2, "1(2)": 1, "(1)2": 3, "(1)(2)": 3, "(1)!2": 3, "1)": 1, "(1))": 3, "((1)": 4, "((1) ": 5,
		"1<=": 3, "1<==2": 3, "1< =2": 3, "1=<2": 2, "1<<2": 2, "1&&2": 2, "1||2": 2, "1!=2": 1, "1>2": 1, "1==2": 2, "--1": 0, "1--1": 2, "-1": 0,
		"64": 0, "1+064": 2, "1+00": 2, "1+v": 2, "1+v29": 2, "1+v07": 2, "1 v29": 2, "1 064": 2, "v": 0, "v ": 0, "v 1": 0, "vv1": 0, "v1 v": 3,
		"1+x": 2, "1x": 1, "1 x": 2, "x+)": 0, "1)+64": 1, "1+64)": 2, "1\t": 1, "1\n+1": 1, "\t1": 0, "1+\xff": 2, "1é": 1, "é": 0, "1+1;": 3, "1\x00": 1,
		"10v0": 2, "1 0": 2, "0 0": 2, "00": 0, "(1+2": 4, "(1+": 3, "(1+)": 3, "1+(2-3": 6, "!(": 2, "!()": 2, "!!": 2, "1*": 2, "1*!": 3, "1*!)": 3,
		strings.Repeat("!", 400): 400, strings.Repeat("(", 400): 400, strings.Repeat(")", 400): 0, strings.Repeat(" ", 400): 400, strings.Repeat("9", 400): 0,
		strings.Repeat(" ", 399) + "+": 399, strings.Repeat(" ", 398) + "1+": 400, strings.Repeat("(", 200) + "0" + strings.Repeat(")", 199): 400,
		strings.Repeat("(", 199) + "0" + strings.Repeat(")", 200): 399, strings.Repeat("0+", 200): 400, strings.Repeat("!", 398) + "64": 398,
	} {
		expect(t, impl.ParseExpression, in(s), nil, at, impl.ErrSyntax)
	}
}

// TestFirstErrorAtWhatIsNoToken puts what is no token behind beginnings that can go on, and behind others that cannot.
func TestFirstErrorAtWhatIsNoToken(t *testing.T) {
	for _, bad := range noLexemes() {
		for _, start := range []string{"", "v0+", "1 ", "(", "!", "(1) ", "1<=", "(v2-", "!!(1)&(  "} {
			for _, end := range []string{"", " ", " 1", " )", " +1", " $"} {
				expect(t, impl.ParseExpression, in(start+bad+end), nil, len(start), impl.ErrSyntax)
			}
		}
		for start, at := range map[string]int64{")": 0, "1 2 ": 2, "v0+) ": 3, "(1)(": 3, "64 ": 0} {
			expect(t, impl.ParseExpression, in(start+bad), nil, at, impl.ErrSyntax)
		}
	}
}

func TestParseExpressionLimits(t *testing.T) {
	full, over := strings.Repeat("!", 59)+"0", strings.Repeat("!", 60)+"0"
	expect(t, impl.ParseExpression, in(full), nots(59, num(0)), 0, impl.OK)
	expect(t, impl.ParseExpression, in(over), nil, 0, impl.ErrFull)
	thirty := strings.Repeat("v1+", 29)
	e, at, code := impl.ParseExpression(thirty + "!v1")
	if len(e) != 60 || at != 0 || code != impl.OK {
		t.Error(len(e), at, code)
	}
	expect(t, impl.ParseExpression, in(thirty+"!!v1"), nil, 0, impl.ErrFull)
	expect(t, impl.ParseExpression, in(thirty+"v1+v1"), nil, 0, impl.ErrFull)
	expect(t, impl.ParseExpression, in(strings.Repeat("(", 199)+"v1"+strings.Repeat(")", 199)), vr(1), 0, impl.OK)
	expect(t, impl.ParseExpression, in(strings.Repeat("!", 399)+"0"), nil, 0, impl.ErrFull)
	expect(t, impl.ParseExpression, in(strings.Repeat("0+", 199)+"0"), nil, 0, impl.ErrFull)
	expect(t, impl.ParseExpression, in("v0"+strings.Repeat(" ", 398)), vr(0), 0, impl.OK)
	expect(t, impl.ParseExpression, in(strings.Repeat(" ", 399)+"7"), num(7), 0, impl.OK)
}

// TestParseExpressionOrderOfErrors: the length of the text counts first, then its form, and the number of terms last.
func TestParseExpressionOrderOfErrors(t *testing.T) {
	over := strings.Repeat("!", 60) + "0"
	for _, s := range []string{"v0", ")", "64", over, over + ")", ""} {
		expect(t, impl.ParseExpression, in(s+strings.Repeat(" ", 401-len(s))), nil, 0, impl.ErrRange)
	}
	expect(t, impl.ParseExpression, in(strings.Repeat("!", 401)), nil, 0, impl.ErrRange)
	expect(t, impl.ParseExpression, in(strings.Repeat("x", 5000)), nil, 0, impl.ErrRange)
	expect(t, impl.ParseExpression, in(over+")"), nil, 61, impl.ErrSyntax)
	expect(t, impl.ParseExpression, in(over+" 64"), nil, 62, impl.ErrSyntax)
	expect(t, impl.ParseExpression, in(over+"+"), nil, 62, impl.ErrSyntax)
	expect(t, impl.ParseExpression, in("("+over), nil, 62, impl.ErrSyntax)
	expect(t, impl.ParseExpression, in("("+over+strings.Repeat(" ", 338)), nil, 400, impl.ErrSyntax)
}

func TestCanonicalTerms(t *testing.T) {
	for o := range int64(9) {
		commutative := slices.Contains([]int64{impl.OpAdd, impl.OpMul, impl.OpEqual, impl.OpUnequal, impl.OpBoth, impl.OpEither}, o)
		for _, pair := range [][2][]impl.Term{
			{num(1), num(2)}, {num(63), vr(0)}, {vr(0), vr(1)}, {vr(28), not(num(0))}, {num(9), op(0, num(1), num(2))},
			{op(0, num(1), num(2)), op(0, num(1), num(3))}, {op(0, num(1), num(2)), op(1, num(0), num(0))},
			{op(8, num(0), num(0)), nots(2, num(0))}, {not(num(0)), not(vr(0))}, {not(vr(5)), op(1, num(0), num(0))},
		} {
			small, big := pair[0], pair[1]
			sorted, turned := op(o, small, big), op(o, big, small)
			expect(t, impl.CanonicalTerms, in(sorted), sorted, impl.OK)
			if commutative {
				expect(t, impl.CanonicalTerms, in(turned), sorted, impl.OK)
			} else {
				expect(t, impl.CanonicalTerms, in(turned), turned, impl.OK)
			}
		}
	}
	// The operands of inner operations are exchanged first, which can change the order of the outer ones.
	inner, other := op(0, vr(1), num(2)), op(0, num(3), num(0))
	expect(t, impl.CanonicalTerms, in(op(2, inner, other)), op(2, op(0, num(0), num(3)), op(0, num(2), vr(1))), impl.OK)
	expect(t, impl.CanonicalTerms, in(op(1, inner, not(other))), op(1, op(0, num(2), vr(1)), not(op(0, num(0), num(3)))), impl.OK)
	for _, e := range [][]impl.Term{num(0), vr(28), nots(59, vr(3))} {
		expect(t, impl.CanonicalTerms, in(e), e, impl.OK)
	}
	for _, e := range noExpressions() {
		expect(t, impl.CanonicalTerms, in(e), nil, impl.ErrInvalid)
	}
}

func TestDifferingValues(t *testing.T) {
	less, atMost := op(impl.OpLess, vr(0), vr(1)), op(impl.OpAtMost, vr(0), vr(1))
	expect(t, impl.DifferingValues, in(vr(0), num(1), []int64{2}), []int64{0}, impl.OK)
	expect(t, impl.DifferingValues, in(vr(0), num(0), []int64{2}), []int64{1}, impl.OK)
	expect(t, impl.DifferingValues, in(vr(0), vr(1), []int64{1, 1}), []int64{0, 1}, impl.OK)
	expect(t, impl.DifferingValues, in(less, atMost, []int64{2, 2}), []int64{0, 0}, impl.OK)
	expect(t, impl.DifferingValues, in(less, op(impl.OpUnequal, vr(0), vr(1)), []int64{2, 2}), []int64{1, 0}, impl.OK)
	expect(t, impl.DifferingValues, in(op(impl.OpEqual, vr(1), num(63)), num(0), []int64{63, 63}), []int64{0, 63}, impl.OK)
	expect(t, impl.DifferingValues, in(op(impl.OpBoth, op(impl.OpEqual, vr(0), num(63)), op(impl.OpEqual, vr(1), num(63))), num(0), []int64{63, 63}), []int64{63, 63}, impl.OK)
	// Values that are not only 0 and 1 count as well.
	expect(t, impl.DifferingValues, in(vr(0), not(not(vr(0))), []int64{63}), []int64{2}, impl.OK)
	expect(t, impl.DifferingValues, in(num(1), num(2), nil), nil, impl.OK)
	expect(t, impl.DifferingValues, in(num(1), num(2), repeated(35, 0)), repeated(35, 0), impl.OK)
	expect(t, impl.DifferingValues, in(vr(0), num(0), []int64{0}), nil, impl.ErrNotFound)
	expect(t, impl.DifferingValues, in(num(5), op(0, num(2), num(3)), nil), nil, impl.ErrNotFound)
	expect(t, impl.DifferingValues, in(op(0, vr(0), vr(1)), op(0, vr(1), vr(0)), []int64{63, 63}), nil, impl.ErrNotFound)
}

func TestDifferingValuesErrors(t *testing.T) {
	for _, bounds := range [][]int64{{63, 63, 1}, {16, 15, 15}, repeated(13, 1), repeated(64, 63), repeated(1000, 63)} {
		expect(t, impl.DifferingValues, in(num(0), num(1), bounds), nil, impl.ErrFull)
		expect(t, impl.DifferingValues, in(num(0), num(0), bounds), nil, impl.ErrFull)
		expect(t, impl.DifferingValues, in(num(0), num(1), append(slices.Clone(bounds), 64)), nil, impl.ErrRange)
		expect(t, impl.DifferingValues, in(num(64), num(1), append(slices.Clone(bounds), 64)), nil, impl.ErrInvalid)
	}
	expect(t, impl.DifferingValues, in(vr(5), num(0), []int64{63, 63, 1}), nil, impl.ErrRange)
	expect(t, impl.DifferingValues, in(num(0), vr(5), []int64{63, 63, 1}), nil, impl.ErrRange)
	for _, bounds := range [][]int64{{63, 63}, {63, 63, 0}, {15, 15, 15}, repeated(12, 1), {7, 7, 7, 7}} {
		expect(t, impl.DifferingValues, in(num(0), num(0), bounds), nil, impl.ErrNotFound)
		expect(t, impl.DifferingValues, in(num(0), num(1), bounds), repeated(len(bounds), 0), impl.OK)
	}
	for _, bounds := range [][]int64{{-1}, {64}, {0, -1}, {math.MaxInt64}, {math.MinInt64, 0}} {
		expect(t, impl.DifferingValues, in(num(1), num(0), bounds), nil, impl.ErrRange)
		expect(t, impl.DifferingValues, in(num(0), num(0), bounds), nil, impl.ErrRange)
	}
	for k := range int64(impl.MaxScope) {
		short, enough := repeated(int(k), 0), repeated(int(k)+1, 0)
		expect(t, impl.DifferingValues, in(vr(k), num(0), short), nil, impl.ErrRange)
		expect(t, impl.DifferingValues, in(num(0), vr(k), short), nil, impl.ErrRange)
		expect(t, impl.DifferingValues, in(vr(k), num(0), enough), nil, impl.ErrNotFound)
		expect(t, impl.DifferingValues, in(num(1), vr(k), enough), enough, impl.OK)
	}
	for _, e := range noExpressions() {
		for _, bounds := range [][]int64{{1, 1}, {64}, {63, 63, 63}, nil} {
			expect(t, impl.DifferingValues, in(e, num(0), bounds), nil, impl.ErrInvalid)
			expect(t, impl.DifferingValues, in(num(0), e, bounds), nil, impl.ErrInvalid)
		}
	}
}

func TestPostfix(t *testing.T) {
	term := func(e []impl.Term) impl.Term { return e[0] }
	minus := impl.Term{Kind: impl.TermOperator, Value: impl.OpSub}
	for _, c := range []struct{ e, postfix []impl.Term }{
		{num(5), num(5)},
		{op(impl.OpSub, vr(0), num(3)), []impl.Term{term(vr(0)), term(num(3)), minus}},
		{op(impl.OpSub, op(impl.OpSub, vr(0), num(3)), vr(1)), []impl.Term{term(vr(0)), term(num(3)), minus, term(vr(1)), minus}},
		{op(impl.OpSub, vr(0), op(impl.OpSub, num(3), vr(1))), []impl.Term{term(vr(0)), term(num(3)), term(vr(1)), minus, minus}},
		{not(op(impl.OpSub, vr(0), not(num(3)))), []impl.Term{term(vr(0)), term(num(3)), {Kind: impl.TermNot}, minus, {Kind: impl.TermNot}}},
	} {
		expect(t, impl.PostfixOf, in(c.e), c.postfix, impl.OK)
		expect(t, impl.FromPostfix, in(c.postfix), c.e, impl.OK)
	}
	for _, e := range [][]impl.Term{nots(59, vr(28)), not(sumOf(30, vr(0)))} {
		expect(t, impl.PostfixOf, in(e), treeOf(e).postfix(), impl.OK)
		expect(t, impl.FromPostfix, in(treeOf(e).postfix()), e, impl.OK)
	}
}

func TestPostfixErrors(t *testing.T) {
	for _, e := range noExpressions() {
		expect(t, impl.PostfixOf, in(e), nil, impl.ErrInvalid)
	}
	minus := op(impl.OpSub, nil, nil)
	for _, list := range [][]impl.Term{
		nil, minus, {{Kind: impl.TermNot}}, op(impl.OpSub, vr(0), num(1)), not(num(1)), append(vr(0), minus...),
		slices.Concat(vr(0), num(1)), slices.Concat(vr(0), minus, num(1)), slices.Concat(vr(0), num(1), minus, minus), slices.Concat(vr(0), num(1), num(2), minus),
		num(64), num(-1), vr(29), vr(-1), {{Kind: 4}}, {{Kind: -1}}, {{}, {Kind: impl.TermNot, Value: 1}},
		slices.Concat(vr(0), num(1), op(9, nil, nil)), slices.Concat(vr(0), num(1), op(-1, nil, nil)), slices.Concat(vr(0), num(64), minus),
		treeOf(nots(60, num(1))).postfix(), treeOf(sumOf(31, num(1))).postfix(), slices.Repeat(num(0), 1000), slices.Repeat(minus, 1000),
	} {
		expect(t, impl.FromPostfix, in(list), nil, impl.ErrInvalid)
	}
}
