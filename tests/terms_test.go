package tests

import (
	"math"
	"slices"
	"testing"

	"loop.example/g01075/impl"
)

func TestTermConstants(t *testing.T) {
	limits := []int64{impl.MaxTerms, impl.MaxGuard, impl.MaxScope, impl.MaxTries, impl.MaxText}
	if !same(limits, []int64{15, 60, 29, 4096, 400}) {
		t.Error("limits", limits)
	}
	kinds := []int64{impl.TermNumber, impl.TermVariable, impl.TermOperator, impl.TermNot}
	if !same(kinds, counted(4)) {
		t.Error("kinds", kinds)
	}
	operators := []int64{impl.OpAdd, impl.OpSub, impl.OpMul, impl.OpEqual, impl.OpUnequal, impl.OpLess, impl.OpAtMost, impl.OpBoth, impl.OpEither}
	if !same(operators, counted(9)) {
		t.Error("operators", operators)
	}
}

// noExpressions returns lists of terms that are no expressions; each is wrong in another way.
func noExpressions() [][]impl.Term {
	sum := op(impl.OpAdd, vr(0), num(1))
	return [][]impl.Term{
		nil, num(64), num(-1), num(math.MaxInt64), num(math.MinInt64), vr(29), vr(-1), vr(math.MaxInt64), vr(math.MinInt64),
		{{Kind: -1}}, {{Kind: 4}}, {{Kind: math.MaxInt64}}, {{Kind: math.MinInt64}},
		{{Kind: impl.TermNot}}, {{Kind: impl.TermOperator}}, sum[:2], sum[1:], append(slices.Clone(sum), sum...), append(slices.Clone(sum), num(0)...),
		op(9, vr(0), num(1)), op(-1, vr(0), num(1)), op(math.MaxInt64, vr(0), num(1)), op(0, vr(0), num(64)), op(0, vr(29), num(1)),
		{{Kind: impl.TermNot, Value: 1}, {}}, {{Kind: impl.TermNot, Value: -1}, {}}, append(not(num(0)), num(0)...),
		{{}, {Kind: impl.TermNot}}, treeOf(sum).postfix(), nots(60, num(1)), sumOf(31, num(0)), slices.Repeat(num(0), 1000),
	}
}

func TestValidTerms(t *testing.T) {
	for _, e := range [][]impl.Term{num(0), num(63), vr(0), vr(28), not(num(0)), nots(59, vr(28)), not(sumOf(30, vr(28))), op(8, num(1), not(vr(3)))} {
		expect(t, impl.ValidTerms, in(e, impl.MaxScope, impl.MaxGuard), true)
		expect(t, impl.ValidTerms, in(e, impl.MaxScope, len(e)), true)
		expect(t, impl.ValidTerms, in(e, impl.MaxScope, len(e)-1), false)
	}
	for _, e := range noExpressions() {
		expect(t, impl.ValidTerms, in(e, impl.MaxScope, impl.MaxGuard), false)
	}
}

func TestValidTermsLimits(t *testing.T) {
	for k := range int64(impl.MaxScope) {
		expect(t, impl.ValidTerms, in(vr(k), k, 1), false)
		expect(t, impl.ValidTerms, in(vr(k), k+1, 1), true)
		expect(t, impl.ValidTerms, in(op(0, num(0), vr(k)), k, 3), false)
		expect(t, impl.ValidTerms, in(op(0, num(0), vr(k)), k+1, 3), true)
	}
	for _, variables := range []int64{-1, 30, math.MinInt64, math.MaxInt64} {
		expect(t, impl.ValidTerms, in(num(0), variables, 1), false)
	}
	for _, most := range []int64{-1, 0, 61, math.MinInt64, math.MaxInt64} {
		expect(t, impl.ValidTerms, in(num(0), 0, most), false)
		expect(t, impl.ValidTerms, in(nil, 0, most), false)
	}
	expect(t, impl.ValidTerms, in(num(0), 0, 1), true)
	expect(t, impl.ValidTerms, in(num(0), 0, 60), true)
	expect(t, impl.ValidTerms, in(nil, 0, 1), false)
	expect(t, impl.ValidTerms, in(nots(14, num(0)), 0, impl.MaxTerms), true)
	expect(t, impl.ValidTerms, in(nots(15, num(0)), 0, impl.MaxTerms), false)
}

func TestOperate(t *testing.T) {
	for o := range int64(9) {
		for a := range int64(64) {
			for b := range int64(64) {
				if value, code := impl.Operate(o, a, b); value != meaning(o, a, b) || code != impl.OK {
					t.Errorf("Operate(%d, %d, %d) is %d, %d", o, a, b, value, code)
				}
			}
		}
		for _, x := range []int64{-1, 64, math.MinInt64, math.MaxInt64} {
			expect(t, impl.Operate, in(o, x, 1), 0, impl.ErrInvalid)
			expect(t, impl.Operate, in(o, 1, x), 0, impl.ErrInvalid)
			expect(t, impl.Operate, in(o, x, x), 0, impl.ErrInvalid)
		}
	}
	for _, o := range []int64{-1, 9, math.MinInt64, math.MaxInt64} {
		expect(t, impl.Operate, in(o, 1, 1), 0, impl.ErrInvalid)
	}
	for _, row := range [][]int64{{0, 63, 1, 0}, {0, 63, 63, 62}, {1, 0, 63, 1}, {1, 5, 5, 0}, {2, 63, 63, 1}, {2, 8, 8, 0}, {7, 2, 4, 1},
		{7, 0, 4, 0}, {7, 4, 0, 0}, {8, 0, 0, 0}, {8, 0, 2, 1}, {8, 32, 32, 1}} {
		expect(t, impl.Operate, in(row[0], row[1], row[2]), row[3], impl.OK)
	}
}

func TestEvaluate(t *testing.T) {
	less := op(impl.OpLess, vr(0), vr(1))
	expect(t, impl.Evaluate, in(num(7), nil), 7, impl.OK)
	expect(t, impl.Evaluate, in(vr(1), []int64{3, 4}), 4, impl.OK)
	expect(t, impl.Evaluate, in(less, []int64{3, 4}), 1, impl.OK)
	expect(t, impl.Evaluate, in(less, []int64{4, 3, 60}), 0, impl.OK)
	expect(t, impl.Evaluate, in(op(impl.OpSub, vr(0), op(impl.OpSub, vr(1), num(2))), []int64{5, 4}), 3, impl.OK)
	expect(t, impl.Evaluate, in(op(impl.OpSub, op(impl.OpSub, vr(0), vr(1)), num(2)), []int64{5, 4}), 63, impl.OK)
	expect(t, impl.Evaluate, in(not(vr(0)), []int64{0}), 1, impl.OK)
	expect(t, impl.Evaluate, in(not(vr(0)), []int64{2}), 0, impl.OK)
	expect(t, impl.Evaluate, in(nots(59, vr(28)), counted(29)), 0, impl.OK)
	expect(t, impl.Evaluate, in(vr(28), counted(29)), 28, impl.OK)
	// Both operands count, whatever the first one is.
	expect(t, impl.Evaluate, in(op(impl.OpBoth, num(0), vr(1)), []int64{1}), 0, impl.ErrInvalid)
}

func TestEvaluateErrors(t *testing.T) {
	for _, values := range [][]int64{repeated(30, 0), repeated(1000, 0), {-1}, {64}, {0, 64}, {0, math.MinInt64}, {math.MaxInt64, 0}} {
		expect(t, impl.Evaluate, in(num(1), values), 0, impl.ErrInvalid)
	}
	for k := range int64(impl.MaxScope) {
		expect(t, impl.Evaluate, in(vr(k), counted(int(k))), 0, impl.ErrInvalid)
		expect(t, impl.Evaluate, in(vr(k), counted(int(k)+1)), k, impl.OK)
	}
	for _, e := range noExpressions() {
		expect(t, impl.Evaluate, in(e, counted(29)), 0, impl.ErrInvalid)
	}
}

func TestVariablesOf(t *testing.T) {
	expect(t, impl.VariablesOf, in(num(5)), nil, impl.OK)
	expect(t, impl.VariablesOf, in(vr(28)), []int64{28}, impl.OK)
	expect(t, impl.VariablesOf, in(op(0, vr(9), op(1, vr(3), op(2, vr(9), op(3, num(7), vr(0)))))), []int64{0, 3, 9}, impl.OK)
	expect(t, impl.VariablesOf, in(sumOf(30, vr(1))), []int64{1}, impl.OK)
	all := vr(0)
	for k := range int64(28) {
		all = op(0, vr(k+1), all)
	}
	expect(t, impl.VariablesOf, in(all), counted(29), impl.OK)
	for _, e := range noExpressions() {
		expect(t, impl.VariablesOf, in(e), nil, impl.ErrInvalid)
	}
}

func TestOperandsOf(t *testing.T) {
	sum := op(impl.OpAdd, vr(0), not(num(2)))
	expect(t, impl.OperandsOf, in(num(5)), nil, impl.OK)
	expect(t, impl.OperandsOf, in(vr(5)), nil, impl.OK)
	expect(t, impl.OperandsOf, in(not(sum)), [][]impl.Term{sum}, impl.OK)
	expect(t, impl.OperandsOf, in(sum), [][]impl.Term{vr(0), not(num(2))}, impl.OK)
	expect(t, impl.OperandsOf, in(op(impl.OpSub, sum, num(1))), [][]impl.Term{sum, num(1)}, impl.OK)
	expect(t, impl.OperandsOf, in(op(impl.OpSub, num(1), sum)), [][]impl.Term{num(1), sum}, impl.OK)
	expect(t, impl.OperandsOf, in(nots(59, num(1))), [][]impl.Term{nots(58, num(1))}, impl.OK)
	for _, e := range noExpressions() {
		expect(t, impl.OperandsOf, in(e), nil, impl.ErrInvalid)
	}
}

func TestSubstitute(t *testing.T) {
	sum := op(impl.OpAdd, vr(0), vr(1))
	expect(t, impl.Substitute, in(sum, 1, num(5)), op(impl.OpAdd, vr(0), num(5)), impl.OK)
	expect(t, impl.Substitute, in(sum, 0, sum), op(impl.OpAdd, sum, vr(1)), impl.OK)
	expect(t, impl.Substitute, in(sum, 2, num(5)), sum, impl.OK)
	expect(t, impl.Substitute, in(op(impl.OpSub, vr(28), vr(28)), 28, vr(0)), op(impl.OpSub, vr(0), vr(0)), impl.OK)
	// Numbers, operators and not have the same Value as the variable.
	expect(t, impl.Substitute, in(op(0, num(0), not(vr(0))), 0, num(9)), op(0, num(0), not(num(9))), impl.OK)
	expect(t, impl.Substitute, in(vr(0), 0, nots(59, num(1))), nots(59, num(1)), impl.OK)
	expect(t, impl.Substitute, in(not(vr(0)), 0, nots(58, num(1))), nots(59, num(1)), impl.OK)
	expect(t, impl.Substitute, in(sumOf(20, vr(0)), 0, not(num(1))), sumOf(20, not(num(1))), impl.OK)
}

func TestSubstituteErrors(t *testing.T) {
	full, other := nots(59, num(1)), op(impl.OpAdd, vr(0), vr(0))
	expect(t, impl.Substitute, in(not(vr(0)), 0, full), nil, impl.ErrFull)
	expect(t, impl.Substitute, in(sumOf(30, vr(0)), 0, other), nil, impl.ErrFull)
	// 14 operators stay and 15 variables become 3 terms each; one more pair would make 63.
	expect(t, impl.Substitute, in(sumOf(15, vr(0)), 0, other), sumOf(15, other), impl.OK)
	expect(t, impl.Substitute, in(not(sumOf(15, vr(0))), 0, other), not(sumOf(15, other)), impl.OK)
	expect(t, impl.Substitute, in(not(not(sumOf(15, vr(0)))), 0, other), nil, impl.ErrFull)
	expect(t, impl.Substitute, in(sumOf(16, vr(0)), 0, other), nil, impl.ErrFull)
	// What is not put in may have any number of terms.
	expect(t, impl.Substitute, in(not(vr(0)), 1, full), not(vr(0)), impl.OK)
	for _, k := range []int64{-1, 29, math.MinInt64, math.MaxInt64} {
		expect(t, impl.Substitute, in(vr(0), k, num(1)), nil, impl.ErrRange)
		expect(t, impl.Substitute, in(not(vr(0)), k, full), nil, impl.ErrRange)
	}
	for _, e := range noExpressions() {
		for _, k := range []int64{0, 5, 29, -1} {
			expect(t, impl.Substitute, in(e, k, num(1)), nil, impl.ErrInvalid)
			expect(t, impl.Substitute, in(num(1), k, e), nil, impl.ErrInvalid)
			expect(t, impl.Substitute, in(not(vr(0)), k, e), nil, impl.ErrInvalid)
		}
	}
}

func TestShiftVariables(t *testing.T) {
	e := op(impl.OpAdd, vr(0), op(impl.OpMul, vr(3), num(3)))
	expect(t, impl.ShiftVariables, in(e, 0, 0), e, impl.OK)
	expect(t, impl.ShiftVariables, in(e, 0, 2), op(impl.OpAdd, vr(2), op(impl.OpMul, vr(5), num(3))), impl.OK)
	expect(t, impl.ShiftVariables, in(e, 1, 2), op(impl.OpAdd, vr(0), op(impl.OpMul, vr(5), num(3))), impl.OK)
	expect(t, impl.ShiftVariables, in(e, 3, -3), op(impl.OpAdd, vr(0), op(impl.OpMul, vr(0), num(3))), impl.OK)
	expect(t, impl.ShiftVariables, in(e, 4, 5), e, impl.OK)
	expect(t, impl.ShiftVariables, in(e, 0, 25), op(impl.OpAdd, vr(25), op(impl.OpMul, vr(28), num(3))), impl.OK)
	expect(t, impl.ShiftVariables, in(vr(0), 0, 28), vr(28), impl.OK)
	expect(t, impl.ShiftVariables, in(vr(28), 28, -28), vr(0), impl.OK)
	expect(t, impl.ShiftVariables, in(vr(28), 29, 29), vr(28), impl.OK)
	expect(t, impl.ShiftVariables, in(vr(28), 29, -29), vr(28), impl.OK)
	expect(t, impl.ShiftVariables, in(num(63), 0, 29), num(63), impl.OK)
	expect(t, impl.ShiftVariables, in(num(0), 0, -29), num(0), impl.OK)
}

func TestShiftVariablesErrors(t *testing.T) {
	for _, from := range []int64{-1, 30, math.MinInt64, math.MaxInt64} {
		expect(t, impl.ShiftVariables, in(num(1), from, 0), nil, impl.ErrRange)
	}
	for _, by := range []int64{-30, 30, math.MinInt64, math.MaxInt64} {
		expect(t, impl.ShiftVariables, in(num(1), 0, by), nil, impl.ErrRange)
		expect(t, impl.ShiftVariables, in(vr(1), 0, by), nil, impl.ErrRange)
		expect(t, impl.ShiftVariables, in(vr(1), 29, by), nil, impl.ErrRange)
	}
	for _, row := range [][]int64{{28, 0, 1}, {0, 0, 29}, {0, 0, -1}, {5, 2, -6}, {28, 28, -29}, {1, 1, 28}} {
		expect(t, impl.ShiftVariables, in(vr(row[0]), row[1], row[2]), nil, impl.ErrRange)
		expect(t, impl.ShiftVariables, in(op(0, num(1), vr(row[0])), row[1], row[2]), nil, impl.ErrRange)
		expect(t, impl.ShiftVariables, in(op(0, vr(row[0]), num(1)), row[1], row[2]), nil, impl.ErrRange)
	}
	for _, e := range noExpressions() {
		expect(t, impl.ShiftVariables, in(e, 0, 0), nil, impl.ErrInvalid)
		expect(t, impl.ShiftVariables, in(e, 30, 0), nil, impl.ErrInvalid)
		expect(t, impl.ShiftVariables, in(e, 0, -30), nil, impl.ErrInvalid)
	}
}

func TestFoldTerms(t *testing.T) {
	five := op(impl.OpAdd, num(2), num(3))
	for _, c := range []struct{ e, want []impl.Term }{
		{num(5), num(5)},
		{vr(5), vr(5)},
		{five, num(5)},
		{not(five), num(0)},
		{not(not(five)), num(1)},
		{not(vr(0)), not(vr(0))},
		{op(impl.OpAdd, five, vr(0)), op(impl.OpAdd, num(5), vr(0))},
		{op(impl.OpAdd, vr(0), five), op(impl.OpAdd, vr(0), num(5))},
		{op(impl.OpSub, op(impl.OpMul, five, five), not(num(0))), num(24)},
		// Nothing but operations on numbers is replaced.
		{op(impl.OpMul, num(0), vr(0)), op(impl.OpMul, num(0), vr(0))},
		{op(impl.OpBoth, num(0), vr(0)), op(impl.OpBoth, num(0), vr(0))},
		{op(impl.OpSub, vr(0), vr(0)), op(impl.OpSub, vr(0), vr(0))},
		{op(impl.OpAdd, op(impl.OpAdd, vr(0), num(1)), num(2)), op(impl.OpAdd, op(impl.OpAdd, vr(0), num(1)), num(2))},
		{op(impl.OpAdd, num(63), num(1)), num(0)},
		{op(impl.OpSub, num(0), num(1)), num(63)},
		{nots(59, num(7)), num(0)},
		{sumOf(30, num(3)), num(26)},
	} {
		expect(t, impl.FoldTerms, in(c.e), c.want, impl.OK)
		if len(c.want) == 1 && c.want[0].Kind == impl.TermNumber {
			expect(t, impl.ConstantOf, in(c.e), c.want[0].Value, impl.OK)
		} else {
			expect(t, impl.ConstantOf, in(c.e), 0, impl.ErrNotFound)
		}
	}
	for _, e := range noExpressions() {
		expect(t, impl.FoldTerms, in(e), nil, impl.ErrInvalid)
		expect(t, impl.ConstantOf, in(e), 0, impl.ErrInvalid)
	}
}

func TestConjunction(t *testing.T) {
	sum := op(impl.OpAdd, vr(0), vr(1))
	expect(t, impl.Conjunction, in(nil), num(1), impl.OK)
	expect(t, impl.Conjunction, in([][]impl.Term{sum}), sum, impl.OK)
	expect(t, impl.Conjunction, in([][]impl.Term{sum, num(0)}), op(impl.OpBoth, sum, num(0)), impl.OK)
	expect(t, impl.Conjunction, in([][]impl.Term{vr(0), sum, vr(2)}), op(impl.OpBoth, vr(0), op(impl.OpBoth, sum, vr(2))), impl.OK)
	expect(t, impl.Conjunction, in([][]impl.Term{num(1), num(1)}), op(impl.OpBoth, num(1), num(1)), impl.OK)
	list, want := [][]impl.Term{num(0)}, num(0)
	for k := range int64(29) {
		list = append([][]impl.Term{vr(k)}, list...)
		want = op(impl.OpBoth, vr(k), want)
	}
	expect(t, impl.Conjunction, in(list), want, impl.OK)
	expect(t, impl.Conjunction, in([][]impl.Term{nots(59, num(1))}), nots(59, num(1)), impl.OK)
	expect(t, impl.Conjunction, in([][]impl.Term{nots(57, num(1)), vr(0)}), op(impl.OpBoth, nots(57, num(1)), vr(0)), impl.OK)
}

func TestConjunctionErrors(t *testing.T) {
	one, full := num(1), nots(59, num(1))
	for _, list := range [][][]impl.Term{{full, one}, {one, full}, {nots(58, one), one}, {one, nots(58, one)}, slices.Repeat([][]impl.Term{one}, 31),
		slices.Repeat([][]impl.Term{full}, 100), slices.Repeat([][]impl.Term{one}, 5000)} {
		expect(t, impl.Conjunction, in(list), nil, impl.ErrFull)
		expect(t, impl.Conjunction, in(append(slices.Clone(list), num(64))), nil, impl.ErrInvalid)
		expect(t, impl.Conjunction, in(append([][]impl.Term{nil}, list...)), nil, impl.ErrInvalid)
	}
	for _, e := range noExpressions() {
		expect(t, impl.Conjunction, in([][]impl.Term{e}), nil, impl.ErrInvalid)
		expect(t, impl.Conjunction, in([][]impl.Term{one, e}), nil, impl.ErrInvalid)
	}
}

func TestSolutionsOf(t *testing.T) {
	less := op(impl.OpLess, vr(0), vr(1))
	expect(t, impl.SolutionsOf, in(less, []int64{1, 2}), [][]int64{{0, 1}, {0, 2}, {1, 2}}, impl.OK)
	expect(t, impl.SolutionsOf, in(less, []int64{2, 0}), nil, impl.OK)
	expect(t, impl.SolutionsOf, in(vr(0), []int64{2}), [][]int64{{1}, {2}}, impl.OK)
	expect(t, impl.SolutionsOf, in(vr(1), []int64{1, 1, 1}), [][]int64{{0, 1, 0}, {0, 1, 1}, {1, 1, 0}, {1, 1, 1}}, impl.OK)
	expect(t, impl.SolutionsOf, in(num(0), []int64{1}), nil, impl.OK)
	expect(t, impl.SolutionsOf, in(num(3), []int64{1}), [][]int64{{0}, {1}}, impl.OK)
	// Without variables there is one list of values, which is empty.
	expect(t, impl.SolutionsOf, in(num(3), nil), [][]int64{nil}, impl.OK)
	expect(t, impl.SolutionsOf, in(num(0), nil), nil, impl.OK)
	expect(t, impl.SolutionsOf, in(vr(0), []int64{63}), valuesFrom(1, 63), impl.OK)
	expect(t, impl.SolutionsOf, in(num(1), repeated(35, 0)), [][]int64{repeated(35, 0)}, impl.OK)
	expect(t, impl.SolutionsOf, in(vr(28), append(repeated(28, 0), 1, 0)), [][]int64{append(repeated(28, 0), 1, 0)}, impl.OK)
}

// valuesFrom returns one list for each value of one variable.
func valuesFrom(least, most int64) [][]int64 {
	var lists [][]int64
	for v := least; v <= most; v++ {
		lists = append(lists, []int64{v})
	}
	return lists
}

func TestSolutionsOfErrors(t *testing.T) {
	for _, bounds := range [][]int64{{63, 63}, {63, 63, 0}, {0, 63, 0, 63}, {15, 15, 15}, repeated(12, 1), {7, 7, 7, 7}} {
		list, code := impl.SolutionsOf(num(1), bounds)
		if len(list) != impl.MaxTries || code != impl.OK {
			t.Error(bounds, len(list), code)
		}
		expect(t, impl.SolutionsOf, in(num(1), append(slices.Clone(bounds), 1)), nil, impl.ErrFull)
		expect(t, impl.SolutionsOf, in(vr(28), append(slices.Clone(bounds), 1)), nil, impl.ErrRange)
		expect(t, impl.SolutionsOf, in(num(1), append(slices.Clone(bounds), 1, 64)), nil, impl.ErrRange)
		expect(t, impl.SolutionsOf, in(num(64), append(slices.Clone(bounds), 1, 64)), nil, impl.ErrInvalid)
	}
	for _, bounds := range [][]int64{{16, 15, 15}, {62, 64}, {63, 63, 63}, repeated(13, 1), repeated(64, 63), repeated(1000, 63), append(repeated(500, 0), repeated(13, 1)...)} {
		want := int64(impl.ErrFull)
		if slices.Contains(bounds, 64) {
			want = impl.ErrRange
		}
		expect(t, impl.SolutionsOf, in(num(0), bounds), nil, want)
	}
	for _, bounds := range [][]int64{{-1}, {64}, {0, -1}, {math.MaxInt64}, {math.MinInt64, 0}, {math.MaxInt64, math.MaxInt64}} {
		expect(t, impl.SolutionsOf, in(num(1), bounds), nil, impl.ErrRange)
	}
	for k := range int64(impl.MaxScope) {
		expect(t, impl.SolutionsOf, in(vr(k), repeated(int(k), 0)), nil, impl.ErrRange)
		expect(t, impl.SolutionsOf, in(vr(k), repeated(int(k)+1, 0)), nil, impl.OK)
	}
	for _, e := range noExpressions() {
		expect(t, impl.SolutionsOf, in(e, []int64{1, 1}), nil, impl.ErrInvalid)
		expect(t, impl.SolutionsOf, in(e, []int64{64}), nil, impl.ErrInvalid)
		expect(t, impl.SolutionsOf, in(e, []int64{63, 63, 63}), nil, impl.ErrInvalid)
	}
}
