package tests

import (
	"math/rand/v2"
	"slices"
	"testing"

	"loop.example/g01075/impl"
)

// smallTerms returns all expressions with at most four terms, and those with five over fewer operands and operators.
func smallTerms() [][]impl.Term {
	return append(smallExpressions(4, [][]impl.Term{num(0), num(1), num(5), vr(0), vr(1)}, allOperators()),
		smallExpressions(5, [][]impl.Term{num(2), vr(0)}, allOperators())...)
}

// checkValue compares the value with that of the definition.
func checkValue(t *testing.T, e []impl.Term, values []int64, want int64) {
	t.Helper()
	if value, code := impl.Evaluate(e, values); value != want || code != impl.OK {
		t.Errorf("Evaluate(%v, %v) is %d, %d; want %d", e, values, value, code, want)
	}
}

func TestPromise4ValuesAreThoseOfTheDefinition(t *testing.T) {
	r := rand.New(rand.NewPCG(5, 6))
	for _, e := range smallTerms() {
		for range 3 {
			values := randomValues(r, 2)
			checkValue(t, e, values, treeOf(e).value(values))
		}
	}
	for _, e := range randomExpressions(20, impl.MaxScope) {
		for range 5 {
			values := randomValues(r, impl.MaxScope)
			checkValue(t, e, values, treeOf(e).value(values))
		}
	}
}

func TestPromise4FoldingChangesNoValue(t *testing.T) {
	r := rand.New(rand.NewPCG(7, 8))
	for _, list := range [][][]impl.Term{smallTerms(), randomExpressions(20, 0), randomExpressions(20, 2)} {
		for _, e := range list {
			folded, code := impl.FoldTerms(e)
			if code != impl.OK || !slices.Equal(folded, treeOf(e).folded().terms()) {
				t.Fatalf("FoldTerms(%v) is %v, %d", e, folded, code)
			}
			again, _ := impl.FoldTerms(folded)
			if !slices.Equal(again, folded) {
				t.Errorf("FoldTerms(%v) is %v", folded, again)
			}
			values := randomValues(r, 2)
			checkValue(t, folded, values, treeOf(e).value(values))
			checkConstant(t, e, folded)
		}
	}
}

func checkConstant(t *testing.T, e, folded []impl.Term) {
	t.Helper()
	value, code := impl.ConstantOf(e)
	variables, _ := impl.VariablesOf(e)
	if len(variables) > 0 {
		if value != 0 || code != impl.ErrNotFound {
			t.Errorf("ConstantOf(%v) is %d, %d", e, value, code)
		}
		return
	}
	if code != impl.OK || !slices.Equal(folded, num(value)) {
		t.Errorf("ConstantOf(%v) is %d, %d, and folded it is %v", e, value, code, folded)
	}
	checkValue(t, e, nil, value)
}

func TestPromise4SubstitutionAgreesWithEvaluation(t *testing.T) {
	r := rand.New(rand.NewPCG(9, 10))
	replaced := 0
	for _, e := range append(randomExpressions(20, 4), smallTerms()...) {
		by := randomExpression(r, 1+r.IntN(8), 4)
		k := r.Int64N(4)
		result, code := impl.Substitute(e, k, by)
		times := 0
		for _, term := range e {
			times += int(oneIf(term == vr(k)[0]))
		}
		if terms := len(e) + times*(len(by)-1); terms > impl.MaxGuard {
			expect(t, impl.Substitute, in(e, k, by), nil, impl.ErrFull)
			continue
		} else if code != impl.OK || len(result) != terms {
			t.Fatalf("Substitute(%v, %d, %v) is %v, %d", e, k, by, result, code)
		}
		replaced += times
		values := randomValues(r, 4)
		changed := slices.Clone(values)
		changed[k] = treeOf(by).value(values)
		checkValue(t, result, values, treeOf(e).value(changed))
	}
	if replaced < 1000 {
		t.Error("too few variables are replaced:", replaced)
	}
}

func TestPromise4ShiftedVariablesHaveTheSameValues(t *testing.T) {
	r := rand.New(rand.NewPCG(11, 12))
	for _, e := range randomExpressions(20, 10) {
		from, by := r.Int64N(11), r.Int64N(19)
		shifted, code := impl.ShiftVariables(e, from, by)
		if code != impl.OK {
			t.Fatal(e, from, by, code)
		}
		values := randomValues(r, 10)
		moved := slices.Concat(values[:from], repeated(int(by), 63), values[from:])
		checkValue(t, shifted, moved, treeOf(e).value(values))
		expect(t, impl.ShiftVariables, in(shifted, from+by, -by), e, impl.OK)
	}
}

func TestPromise4Conjunctions(t *testing.T) {
	r := rand.New(rand.NewPCG(13, 14))
	for range 300 {
		var list [][]impl.Term
		for range r.IntN(7) {
			list = append(list, randomExpression(r, 1+r.IntN(7), 3))
		}
		both, code := impl.Conjunction(list)
		if code != impl.OK {
			t.Fatal(list, code)
		}
		for range 5 {
			values := randomValues(r, 3)
			all := true
			for _, e := range list {
				all = all && treeOf(e).value(values) != 0
			}
			value, _ := impl.Evaluate(both, values)
			if value != 0 != all {
				t.Errorf("the conjunction of %v has the value %d for %v", list, value, values)
			}
		}
	}
}

// listsWithin returns all lists of values within bounds by counting.
func listsWithin(bounds []int64) [][]int64 {
	lists := [][]int64{nil}
	for _, bound := range bounds {
		var longer [][]int64
		for _, list := range lists {
			for v := range bound + 1 {
				longer = append(longer, append(slices.Clone(list), v))
			}
		}
		lists = longer
	}
	return lists
}

func TestPromise4SolutionsAreComplete(t *testing.T) {
	r := rand.New(rand.NewPCG(15, 16))
	allBounds := [][]int64{nil, {0}, {3}, {0, 2}, {2, 0, 1}, {3, 3}, {1, 2, 3}, {1, 1, 1, 1, 1}, {9, 0, 4}}
	for _, bounds := range allBounds {
		for _, e := range randomExpressions(3, int64(len(bounds))) {
			checkSolutions(t, e, bounds)
		}
	}
	for _, bounds := range [][]int64{{63, 63}, {15, 15, 15}, repeated(12, 1), append(repeated(27, 0), 63, 63)} {
		for range 5 {
			checkSolutions(t, randomExpression(r, 1+r.IntN(60), int64(len(bounds))), bounds)
		}
		// Variables that do not occur have all their values nevertheless.
		checkSolutions(t, vr(int64(len(bounds)-1)), bounds)
		checkSolutions(t, not(vr(0)), bounds)
	}
}

func checkSolutions(t *testing.T, e []impl.Term, bounds []int64) {
	t.Helper()
	var want [][]int64
	x := treeOf(e)
	for _, values := range listsWithin(bounds) {
		if x.value(values) != 0 {
			want = append(want, values)
		}
	}
	list, code := impl.SolutionsOf(e, bounds)
	if code != impl.OK || !slices.EqualFunc(list, want, slices.Equal) {
		t.Errorf("SolutionsOf(%v, %v): %d of %d, %d", e, bounds, len(list), len(want), code)
	}
}

func TestPromise4OperandsMakeTheExpression(t *testing.T) {
	for _, e := range append(smallTerms(), randomExpressions(5, 29)...) {
		operands, code := impl.OperandsOf(e)
		if code != impl.OK || !slices.Equal(slices.Concat(e[:1], slices.Concat(operands...)), e) || len(operands) != len(treeOf(e).operands) {
			t.Fatal(e, operands, code)
		}
		for _, operand := range operands {
			if !impl.ValidTerms(operand, impl.MaxScope, impl.MaxGuard) {
				t.Error(e, operands)
			}
		}
	}
}

// TestPromise4ExpressionsAreThoseOfTheDefinition takes all short lists of terms, most of which are no expressions.
func TestPromise4ExpressionsAreThoseOfTheDefinition(t *testing.T) {
	terms := []impl.Term{{Kind: 0, Value: 63}, {Kind: 0, Value: 64}, {Kind: 1, Value: 1}, {Kind: 1, Value: 2}, {Kind: 2, Value: 8}, {Kind: 2, Value: 9}, {Kind: 3}, {Kind: 3, Value: 1}, {Kind: 4}}
	good := smallExpressions(4, [][]impl.Term{num(63), vr(1)}, []int64{8})
	lists := [][]impl.Term{nil}
	for range 5 {
		var longer [][]impl.Term
		for _, list := range lists {
			want := slices.ContainsFunc(good, func(e []impl.Term) bool { return slices.Equal(e, list) })
			if impl.ValidTerms(list, 2, 4) != want {
				t.Errorf("ValidTerms(%v) is not %v", list, want)
			}
			for _, term := range terms {
				longer = append(longer, append(slices.Clone(list), term))
			}
		}
		lists = longer
	}
}
