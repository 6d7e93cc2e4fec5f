package tests

import (
	"math"
	"testing"

	"loop.example/g01075/impl"
)

type listOfPairs struct {
	n int64
	r [][]int64
}

// lists of pairs that are no relations; each is wrong in another way.
func noRelations() []listOfPairs {
	return []listOfPairs{
		{0, nil}, {-1, nil}, {41, nil}, {math.MinInt64, nil}, {math.MaxInt64, nil}, {41, [][]int64{{0, 0}}},
		{2, [][]int64{{1, 0}, {0, 1}}}, {2, [][]int64{{0, 1}, {0, 0}}}, {2, [][]int64{{0, 1}, {0, 1}}},
		{3, [][]int64{{0, 1}, {2, 2}, {1, 0}}}, {3, [][]int64{{0, 1}, {1, 2}, {1, 2}}},
		{2, [][]int64{{0, 2}}}, {2, [][]int64{{2, 0}}}, {2, [][]int64{{-1, 0}}}, {2, [][]int64{{0, -1}}}, {40, [][]int64{{0, 40}}},
		{2, [][]int64{{0, math.MaxInt64}}}, {2, [][]int64{{math.MinInt64, 0}}},
		{2, [][]int64{nil}}, {2, [][]int64{{0}}}, {2, [][]int64{{0, 1, 1}}}, {2, [][]int64{{0, 0}, {1}}}, {2, [][]int64{{}, {0, 0}}},
		{2, [][]int64{{0, 0}, {0, 1, 0}}}, {2, [][]int64{{0, 0}, {0, 0, 1}, {1, 1}}},
	}
}

func allPairs(n int64) [][]int64 {
	var all [][]int64
	for a := range n {
		for b := range n {
			all = append(all, []int64{a, b})
		}
	}
	return all
}

func TestIsRelation(t *testing.T) {
	for _, c := range []listOfPairs{{1, nil}, {40, nil}, {1, [][]int64{{0, 0}}}, {2, [][]int64{{0, 1}, {1, 0}}}, {40, [][]int64{{39, 39}}}, {40, allPairs(40)}} {
		expect(t, impl.IsRelation, in(c.n, c.r), true)
	}
	for _, c := range noRelations() {
		expect(t, impl.IsRelation, in(c.n, c.r), false)
	}
}

func TestRelationErrors(t *testing.T) {
	for _, c := range noRelations() {
		expect(t, impl.ComposeRelations, in(c.n, c.r, c.r), nil, impl.ErrInvalid)
		expect(t, impl.ComposeRelations, in(c.n, c.r, nil), nil, impl.ErrInvalid)
		expect(t, impl.ComposeRelations, in(c.n, nil, c.r), nil, impl.ErrInvalid)
		expect(t, impl.InverseRelation, in(c.n, c.r), nil, impl.ErrInvalid)
		expect(t, impl.ClosureOf, in(c.n, c.r), nil, impl.ErrInvalid)
		expect(t, impl.SpanOf, in(c.n, c.r), nil, impl.ErrInvalid)
	}
}

func TestComposeRelations(t *testing.T) {
	expect(t, impl.ComposeRelations, in(3, [][]int64{{0, 1}}, [][]int64{{1, 2}}), [][]int64{{0, 2}}, impl.OK)
	expect(t, impl.ComposeRelations, in(3, [][]int64{{1, 2}}, [][]int64{{0, 1}}), nil, impl.OK)
	expect(t, impl.ComposeRelations, in(3, [][]int64{{0, 1}, {0, 2}}, [][]int64{{1, 0}, {2, 0}}), [][]int64{{0, 0}}, impl.OK)
	expect(t, impl.ComposeRelations, in(3, nil, allPairs(3)), nil, impl.OK)
	expect(t, impl.ComposeRelations, in(3, allPairs(3), nil), nil, impl.OK)
	expect(t, impl.ComposeRelations, in(40, allPairs(40), allPairs(40)), allPairs(40), impl.OK)
	expect(t, impl.ComposeRelations, in(40, [][]int64{{39, 0}}, [][]int64{{0, 39}}), [][]int64{{39, 39}}, impl.OK)
}

func TestInverseRelation(t *testing.T) {
	expect(t, impl.InverseRelation, in(3, [][]int64{{0, 1}, {0, 2}}), [][]int64{{1, 0}, {2, 0}}, impl.OK)
	expect(t, impl.InverseRelation, in(3, [][]int64{{0, 2}, {1, 0}, {1, 1}}), [][]int64{{0, 1}, {1, 1}, {2, 0}}, impl.OK)
	expect(t, impl.InverseRelation, in(3, nil), nil, impl.OK)
	expect(t, impl.InverseRelation, in(40, [][]int64{{0, 39}}), [][]int64{{39, 0}}, impl.OK)
}

func TestClosureOf(t *testing.T) {
	expect(t, impl.ClosureOf, in(1, nil), [][]int64{{0, 0}}, impl.OK)
	expect(t, impl.ClosureOf, in(3, nil), [][]int64{{0, 0}, {1, 1}, {2, 2}}, impl.OK)
	expect(t, impl.ClosureOf, in(3, [][]int64{{0, 1}, {1, 2}}), [][]int64{{0, 0}, {0, 1}, {0, 2}, {1, 1}, {1, 2}, {2, 2}}, impl.OK)
	var up, down, upClosed, downClosed [][]int64
	for a := range int64(40) {
		if a < 39 {
			up = append(up, []int64{a, a + 1})
			down = append(down, []int64{a + 1, a})
		}
		for b := range int64(40) {
			if a <= b {
				upClosed = append(upClosed, []int64{a, b})
			}
			if a >= b {
				downClosed = append(downClosed, []int64{a, b})
			}
		}
	}
	expect(t, impl.ClosureOf, in(40, up), upClosed, impl.OK)
	expect(t, impl.ClosureOf, in(40, down), downClosed, impl.OK)
	expect(t, impl.ClosureOf, in(40, append([][]int64{{0, 39}}, down...)), allPairs(40), impl.OK)
}

func TestSpanOf(t *testing.T) {
	expect(t, impl.SpanOf, in(1, nil), []int64{0}, impl.OK)
	expect(t, impl.SpanOf, in(40, nil), counted(40), impl.OK)
	expect(t, impl.SpanOf, in(3, [][]int64{{2, 0}}), []int64{0, 1, 0}, impl.OK)
	expect(t, impl.SpanOf, in(3, [][]int64{{1, 1}}), []int64{0, 1, 2}, impl.OK)
	expect(t, impl.SpanOf, in(6, [][]int64{{1, 4}, {3, 1}, {5, 2}}), []int64{0, 1, 2, 1, 1, 2}, impl.OK)
	var chain [][]int64
	for a := range int64(39) {
		chain = append(chain, []int64{a, a + 1})
	}
	expect(t, impl.SpanOf, in(40, chain), repeated(40, 0), impl.OK)
	expect(t, impl.SpanOf, in(40, allPairs(40)), repeated(40, 0), impl.OK)
}
