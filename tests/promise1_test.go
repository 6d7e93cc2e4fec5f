package tests

import (
	"math"
	"reflect"
	"strings"
	"testing"

	"loop.example/g01075/impl"
)

// functionsOfStage1 returns all functions of chapters 1 and 2.
func functionsOfStage1() []any {
	return []any{
		impl.CodeName, impl.IsName, impl.Decimal, impl.ReadDecimal, impl.SplitWords, impl.ListText, impl.ReadList, impl.Crc16,
		impl.CompareLists, impl.IsAction, impl.IsLabel, impl.LabelName, impl.LabelValues, impl.LabelText,
		impl.IsPartition, impl.NormalPartition, impl.BlocksOf, impl.FromBlocks, impl.RefinesPartition, impl.MeetPartitions,
		impl.JoinPartitions, impl.PairsOf, impl.IsRelation, impl.ComposeRelations, impl.InverseRelation, impl.ClosureOf,
		impl.SpanOf, impl.PartitionText, impl.ReadPartition,
	}
}

// argumentsOf returns arguments of one type, most of them invalid somewhere.
func argumentsOf(typ reflect.Type) []any {
	switch typ {
	case reflect.TypeFor[int64]():
		return []any{int64(math.MinInt64), int64(-1), int64(0), int64(1), int64(2), int64(3), int64(11), int64(12), int64(40), int64(41),
			int64(64), int64(65535), int64(65536), int64(math.MaxInt64)}
	case reflect.TypeFor[string]():
		return []any{"", " ", "-", "|", ",", "(", "tau", "a", "a(1)", "a(01)", "send(1,0)", "tau(0)", "0", "-0", "1,2", "0 2|1", "1|0",
			"\x00", "\xff", "\xff(\xff)", "é(1)", " a  b ", strings.Repeat("a", 3000), strings.Repeat("0|", 3000), strings.Repeat(",", 3000),
			strings.Repeat("9", 3000), "\ud7ff\ue000"}
	case reflect.TypeFor[[]int64]():
		return []any{[]int64(nil), []int64{0}, []int64{1}, []int64{-1}, []int64{0, 0}, []int64{0, 1, 0}, []int64{0, 1, 1}, []int64{0, 2},
			[]int64{7, 3, 7, 5}, []int64{math.MinInt64, math.MaxInt64}, counted(40), repeated(40, 0), counted(41), repeated(64, 3), repeated(65, 3),
			repeated(1000, 0)}
	}
	return []any{[][]int64(nil), [][]int64{nil}, [][]int64{{}, {0}}, [][]int64{{0}}, [][]int64{{0, 0}}, [][]int64{{0, 1}, {1, 0}},
		[][]int64{{1, 0}, {0, 1}}, [][]int64{{0, 1}, {0, 1}}, [][]int64{{0, 1}, {1, 2}}, [][]int64{{0, 1, 2}}, [][]int64{{1}, {2, 0}},
		[][]int64{{0}, {1}, {2}}, [][]int64{{-1, 0}}, [][]int64{{math.MinInt64, math.MaxInt64}}, [][]int64{counted(40)},
		[][]int64{counted(41)}, [][]int64{repeated(1000, 0)}, allPairs(12), make([][]int64, 100)}
}

func TestPromise1AllArguments(t *testing.T) {
	for _, f := range functionsOfStage1() {
		typ := reflect.TypeOf(f)
		lists := [][]any{nil}
		for i := range typ.NumIn() {
			var longer [][]any
			for _, list := range lists {
				for _, a := range argumentsOf(typ.In(i)) {
					longer = append(longer, append(list[:len(list):len(list)], a))
				}
			}
			lists = longer
		}
		for _, args := range lists {
			checkZeroValues(t, f, args, call(t, f, args...))
		}
	}
}

// checkZeroValues checks that the results beside an error code or a false are zero values.
func checkZeroValues(t *testing.T, f any, args, results []any) {
	t.Helper()
	last := len(results) - 1
	if last == 0 || results[last] == int64(impl.OK) || results[last] == true {
		return
	}
	for _, r := range results[:last] {
		if !isZero(r) {
			t.Errorf("%s%s: %#v is not a zero value", nameOf(f), argumentText(args), results)
		}
	}
}

// TestPromise1ManyCalls repeats calls whose inner maps are large, as the order in a map differs from call to call.
func TestPromise1ManyCalls(t *testing.T) {
	blocks := [][]int64{}
	for i := range int64(20) {
		blocks = append(blocks, []int64{39 - i, i})
	}
	want, _ := impl.FromBlocks(40, blocks)
	for range 50 {
		expect(t, impl.FromBlocks, in(40, blocks), want, impl.OK)
		expect(t, impl.PartitionText, in(counted(40)), textOfNumbers(40, "|"))
		expect(t, impl.NormalPartition, in(counted(40)), counted(40), impl.OK)
		expect(t, impl.JoinPartitions, in(want, counted(40)), want, impl.OK)
		expect(t, impl.MeetPartitions, in(want, repeated(40, 0)), want, impl.OK)
	}
}

// TestPromise1ResultsAreTheCallers changes results, which must not change what later calls return.
func TestPromise1ResultsAreTheCallers(t *testing.T) {
	for range 2 {
		blocks, _ := impl.BlocksOf([]int64{0, 1, 0})
		closed, _ := impl.ClosureOf(2, nil)
		if !same(blocks, [][]int64{{0, 2}, {1}}) || !same(closed, [][]int64{{0, 0}, {1, 1}}) {
			t.Error(blocks, closed)
		}
		blocks[0][0], closed[0][0] = 9, 9
		blocks[1], closed[1] = nil, nil
	}
}
