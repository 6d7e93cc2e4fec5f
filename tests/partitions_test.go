package tests

import (
	"math"
	"strings"
	"testing"

	"loop.example/g01075/impl"
)

// lists that are no partitions; each is wrong in another way.
func noPartitions() [][]int64 {
	return [][]int64{nil, {1}, {-1}, {math.MinInt64}, {math.MaxInt64}, {0, 2}, {0, -1}, {1, 0}, {0, 1, 3}, {0, 0, 2}, {0, 1, 0, 3},
		{0, 1, -1}, {0, 2, 1}, {7, 3, 7, 5}, {1, 1, 1}, append(counted(39), 40), repeated(41, 0), counted(41), repeated(1000, 0)}
}

func TestPartitionLimit(t *testing.T) {
	if impl.MaxItems != 40 {
		t.Error("MaxItems", impl.MaxItems)
	}
}

func TestIsPartition(t *testing.T) {
	for _, p := range [][]int64{{0}, {0, 0}, {0, 1}, {0, 1, 0, 2}, {0, 1, 2, 1, 0}, counted(40), repeated(40, 0), append(counted(39), 17)} {
		expect(t, impl.IsPartition, in(p), true)
	}
	for _, p := range noPartitions() {
		expect(t, impl.IsPartition, in(p), false)
	}
}

func TestNormalPartition(t *testing.T) {
	expect(t, impl.NormalPartition, in([]int64{7, 3, 7, 5}), []int64{0, 1, 0, 2}, impl.OK)
	expect(t, impl.NormalPartition, in([]int64{math.MinInt64}), []int64{0}, impl.OK)
	expect(t, impl.NormalPartition, in([]int64{1, 0}), []int64{0, 1}, impl.OK)
	expect(t, impl.NormalPartition, in([]int64{math.MaxInt64, -1, math.MaxInt64, 0, -1}), []int64{0, 1, 0, 2, 1}, impl.OK)
	expect(t, impl.NormalPartition, in([]int64{1, 1 << 32, 1 + 1<<32}), []int64{0, 1, 2}, impl.OK)
	expect(t, impl.NormalPartition, in(repeated(40, -3)), repeated(40, 0), impl.OK)
	expect(t, impl.NormalPartition, in(counted(40)), counted(40), impl.OK)
	for _, list := range [][]int64{nil, repeated(41, 0), counted(41), repeated(1000, 1)} {
		expect(t, impl.NormalPartition, in(list), nil, impl.ErrRange)
	}
}

func TestBlocksOf(t *testing.T) {
	expect(t, impl.BlocksOf, in([]int64{0}), [][]int64{{0}}, impl.OK)
	expect(t, impl.BlocksOf, in([]int64{0, 1, 0, 2, 1}), [][]int64{{0, 2}, {1, 4}, {3}}, impl.OK)
	expect(t, impl.BlocksOf, in(repeated(40, 0)), [][]int64{counted(40)}, impl.OK)
	var single [][]int64
	for i := range int64(40) {
		single = append(single, []int64{i})
	}
	expect(t, impl.BlocksOf, in(counted(40)), single, impl.OK)
	expect(t, impl.FromBlocks, in(40, single), counted(40), impl.OK)
}

func TestFromBlocks(t *testing.T) {
	expect(t, impl.FromBlocks, in(1, [][]int64{{0}}), []int64{0}, impl.OK)
	expect(t, impl.FromBlocks, in(3, [][]int64{{1}, {2, 0}}), []int64{0, 1, 0}, impl.OK)
	expect(t, impl.FromBlocks, in(5, [][]int64{{3}, {4, 1}, {2, 0}}), []int64{0, 1, 0, 2, 1}, impl.OK)
	expect(t, impl.FromBlocks, in(40, [][]int64{counted(40)}), repeated(40, 0), impl.OK)
}

func TestFromBlocksErrors(t *testing.T) {
	tooMany := [][]int64{counted(41)}
	for _, c := range []struct {
		n      int64
		blocks [][]int64
		code   int64
	}{
		{2, [][]int64{{0, 1}, {}}, impl.ErrInvalid},
		{2, [][]int64{nil, {0, 1}}, impl.ErrInvalid},
		{0, nil, impl.ErrRange},
		{-1, nil, impl.ErrRange},
		{41, tooMany, impl.ErrRange},
		{40, tooMany, impl.ErrRange},
		{math.MinInt64, [][]int64{{0}}, impl.ErrRange},
		{math.MaxInt64, [][]int64{{0}}, impl.ErrRange},
		{2, [][]int64{{0}, {2}}, impl.ErrRange},
		{2, [][]int64{{0}, {1, -1}}, impl.ErrRange},
		{2, [][]int64{{0, 1, math.MaxInt64}}, impl.ErrRange},
		{2, [][]int64{{0, 0}, {1}}, impl.ErrExists},
		{2, [][]int64{{0}, {1}, {0}}, impl.ErrExists},
		{3, [][]int64{{0}, {1}}, impl.ErrNotFound},
		{40, [][]int64{counted(39)}, impl.ErrNotFound},
		{1, nil, impl.ErrNotFound},
		// Two faults at once: the first of the list is reported, wherever it stands.
		{0, [][]int64{{5}, {}}, impl.ErrInvalid},
		{3, [][]int64{{0, 0}, {7}, {}}, impl.ErrInvalid},
		{3, [][]int64{{}}, impl.ErrInvalid},
		{3, [][]int64{{0, 0}, {3}}, impl.ErrRange},
		{3, [][]int64{{0}, {3}}, impl.ErrRange},
		{41, [][]int64{{0, 0}}, impl.ErrRange},
		{3, [][]int64{{1}, {1}}, impl.ErrExists},
	} {
		expect(t, impl.FromBlocks, in(c.n, c.blocks), nil, c.code)
	}
}

func TestRefinesPartition(t *testing.T) {
	expect(t, impl.RefinesPartition, in([]int64{0, 1, 2}, []int64{0, 0, 1}), true, impl.OK)
	expect(t, impl.RefinesPartition, in([]int64{0, 0, 1}, []int64{0, 1, 2}), false, impl.OK)
	expect(t, impl.RefinesPartition, in([]int64{0, 0, 1}, []int64{0, 1, 1}), false, impl.OK)
	expect(t, impl.RefinesPartition, in([]int64{0, 1, 0}, []int64{0, 1, 0}), true, impl.OK)
	expect(t, impl.RefinesPartition, in(counted(40), repeated(40, 0)), true, impl.OK)
	expect(t, impl.RefinesPartition, in(repeated(40, 0), append(repeated(39, 0), 1)), false, impl.OK)
}

func TestMeetAndJoin(t *testing.T) {
	p, q := []int64{0, 0, 1, 2}, []int64{0, 1, 1, 2}
	expect(t, impl.JoinPartitions, in(p, q), []int64{0, 0, 0, 1}, impl.OK)
	expect(t, impl.MeetPartitions, in(p, q), []int64{0, 1, 2, 3}, impl.OK)
	expect(t, impl.MeetPartitions, in([]int64{0, 0, 0, 1, 1}, []int64{0, 1, 0, 1, 1}), []int64{0, 1, 0, 2, 2}, impl.OK)
	expect(t, impl.JoinPartitions, in([]int64{0, 1, 2, 0, 3}, []int64{0, 1, 0, 2, 1}), []int64{0, 1, 0, 0, 1}, impl.OK)
	// Pairs of neighbours, shifted by one, join to one long chain.
	even, odd := make([]int64, 40), make([]int64, 40)
	for i := range int64(40) {
		even[i], odd[i] = i/2, (i+1)/2
	}
	expect(t, impl.JoinPartitions, in(even, odd), repeated(40, 0), impl.OK)
	expect(t, impl.MeetPartitions, in(even, odd), counted(40), impl.OK)
}

func TestTwoPartitionsErrors(t *testing.T) {
	valid := [][]int64{{0}, {0, 1}, {0, 1, 0}, repeated(40, 0)}
	for _, bad := range noPartitions() {
		for _, p := range valid {
			for _, args := range [][]any{in(p, bad), in(bad, p), in(bad, bad)} {
				expect(t, impl.RefinesPartition, args, false, impl.ErrInvalid)
				expect(t, impl.MeetPartitions, args, nil, impl.ErrInvalid)
				expect(t, impl.JoinPartitions, args, nil, impl.ErrInvalid)
			}
		}
		expect(t, impl.BlocksOf, in(bad), nil, impl.ErrInvalid)
		expect(t, impl.PairsOf, in(bad), nil, impl.ErrInvalid)
		expect(t, impl.PartitionText, in(bad), "")
	}
	for i, p := range valid {
		for k, q := range valid {
			if i != k {
				expect(t, impl.RefinesPartition, in(p, q), false, impl.ErrRange)
				expect(t, impl.MeetPartitions, in(p, q), nil, impl.ErrRange)
				expect(t, impl.JoinPartitions, in(p, q), nil, impl.ErrRange)
			}
		}
	}
}

func TestPairsOf(t *testing.T) {
	expect(t, impl.PairsOf, in([]int64{0}), nil, impl.OK)
	expect(t, impl.PairsOf, in(counted(40)), nil, impl.OK)
	expect(t, impl.PairsOf, in([]int64{0, 1, 0, 0}), [][]int64{{0, 2}, {0, 3}, {2, 3}}, impl.OK)
	expect(t, impl.PairsOf, in([]int64{0, 1, 1, 0}), [][]int64{{0, 3}, {1, 2}}, impl.OK)
	var all [][]int64
	for i := range int64(40) {
		for k := i + 1; k < 40; k++ {
			all = append(all, []int64{i, k})
		}
	}
	expect(t, impl.PairsOf, in(repeated(40, 0)), all, impl.OK)
}

func TestPartitionText(t *testing.T) {
	for s, p := range map[string][]int64{
		"0":                      {0},
		"0 1":                    {0, 0},
		"0|1":                    {0, 1},
		"0 2|1|3":                {0, 1, 0, 2},
		"0 10|1 9|2|3|4|5|6|7|8": {0, 1, 2, 3, 4, 5, 6, 7, 8, 1, 0},
		textOfNumbers(40, " "):   repeated(40, 0),
		textOfNumbers(40, "|"):   counted(40),
	} {
		expect(t, impl.PartitionText, in(p), s)
		expect(t, impl.ReadPartition, in(s), p, true)
	}
}

func textOfNumbers(n int, separator string) string {
	var words []string
	for i := range int64(n) {
		words = append(words, impl.Decimal(i))
	}
	return strings.Join(words, separator)
}

func TestReadPartitionRefuses(t *testing.T) {
	for _, s := range []string{"", " ", "|", "-", "1", "a", "0|", "|0", "0||1", "0| |1", "0 ", " 0", "0  1", "0 | 1", "0| 1", "0 |1",
		"1|0", "1 0", "0 1|3", "0 3", "0 2", "0|2", "0 0", "0|0", "0 1|1", "0 3|2|1", "0 2 1", "0,1", "00", "0 01", "+0", "-0", "0 -1",
		"0\t1", "0|1\n", "0 1 2 3 4 5 6 7 8 9 10 12", "0 999999999999999999", "0 9999999999999999999",
		textOfNumbers(41, " "), textOfNumbers(41, "|"), strings.Repeat("|", 5000), strings.Repeat("0 ", 5000) + "0"} {
		expect(t, impl.ReadPartition, in(s), nil, false)
	}
}
