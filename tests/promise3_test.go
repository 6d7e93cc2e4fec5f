package tests

import (
	"slices"
	"testing"

	"loop.example/g01075/impl"
)

// partitionsOf returns all partitions of n items, made from the definition alone.
func partitionsOf(n int) [][]int64 {
	if n == 0 {
		return [][]int64{nil}
	}
	var list [][]int64
	for _, p := range partitionsOf(n - 1) {
		for block := range blockCount(p) + 1 {
			list = append(list, append(slices.Clone(p), block))
		}
	}
	return list
}

func blockCount(p []int64) int64 {
	if len(p) == 0 {
		return 0
	}
	return slices.Max(p) + 1
}

func refines(p, q []int64) bool {
	for i := range p {
		for k := range p {
			if p[i] == p[k] && q[i] != q[k] {
				return false
			}
		}
	}
	return true
}

// finest returns the partition with the most blocks among those that are accepted, and fails if there are two.
func finest(t *testing.T, all [][]int64, accepted func([]int64) bool) []int64 {
	var best []int64
	ties := 0
	for _, p := range all {
		if !accepted(p) || blockCount(p) < blockCount(best) {
			continue
		}
		if blockCount(p) == blockCount(best) {
			ties++
		} else {
			ties = 0
		}
		best = p
	}
	if best == nil || ties > 0 {
		t.Fatalf("no single finest partition: %v", best)
	}
	return best
}

func TestPromise3PartitionsAreThoseOfTheDefinition(t *testing.T) {
	lists := [][]int64{nil}
	for n := 1; n <= 5; n++ {
		known := partitionsOf(n)
		if len(known) != []int{1, 1, 2, 5, 15, 52}[n] {
			t.Fatal("the number of partitions", n, len(known))
		}
		var longer [][]int64
		for _, list := range lists {
			for x := int64(-1); x <= 5; x++ {
				longer = append(longer, append(slices.Clone(list), x))
			}
		}
		lists = longer
		for _, list := range lists {
			want := slices.ContainsFunc(known, func(p []int64) bool { return slices.Equal(p, list) })
			if impl.IsPartition(list) != want {
				t.Errorf("IsPartition(%v) is not %v", list, want)
			}
			checkNormal(t, list)
		}
	}
}

func checkNormal(t *testing.T, list []int64) {
	p, code := impl.NormalPartition(list)
	if code != impl.OK || !impl.IsPartition(p) || !refines(p, list) || !refines(list, p) {
		t.Errorf("NormalPartition(%v) is %v, %d", list, p, code)
	}
}

func TestPromise3MeetAndJoin(t *testing.T) {
	for n := 1; n <= 4; n++ {
		all := partitionsOf(n)
		for _, p := range all {
			for _, q := range all {
				checkMeetAndJoin(t, all, p, q)
			}
		}
	}
	five := partitionsOf(5)
	for i, p := range five {
		for k := i % 3; k < len(five); k += 3 {
			checkMeetAndJoin(t, five, p, five[k])
		}
	}
}

func checkMeetAndJoin(t *testing.T, all [][]int64, p, q []int64) {
	t.Helper()
	join := finest(t, all, func(c []int64) bool { return refines(p, c) && refines(q, c) })
	var meet []int64
	for _, c := range all {
		if refines(c, p) && refines(c, q) && (meet == nil || blockCount(c) < blockCount(meet)) {
			meet = c
		}
	}
	expect(t, impl.JoinPartitions, in(p, q), join, impl.OK)
	expect(t, impl.MeetPartitions, in(p, q), meet, impl.OK)
	expect(t, impl.RefinesPartition, in(p, q), refines(p, q), impl.OK)
	for _, x := range [][]int64{p, q} {
		expect(t, impl.RefinesPartition, in(meet, x), true, impl.OK)
		expect(t, impl.RefinesPartition, in(x, join), true, impl.OK)
	}
}

// TestPromise3ManyItems takes partitions of all sizes, where no list of all partitions can be made.
func TestPromise3ManyItems(t *testing.T) {
	for n := int64(1); n <= impl.MaxItems; n++ {
		for _, by := range [][2]int64{{2, 3}, {3, 7}, {5, 40}, {1, 9}, {11, 13}} {
			p, q := stepped(n, by[0], 1), stepped(n, by[1], 17)
			meet, one := impl.MeetPartitions(p, q)
			join, two := impl.JoinPartitions(p, q)
			if one != impl.OK || two != impl.OK || !impl.IsPartition(meet) || !impl.IsPartition(join) {
				t.Fatal(p, q, meet, join)
			}
			if !refines(meet, p) || !refines(meet, q) || !refines(p, join) || !refines(q, join) {
				t.Error(p, q, meet, join)
			}
			pairs, _ := impl.PairsOf(p)
			others, _ := impl.PairsOf(q)
			both := append(pairs, others...)
			slices.SortFunc(both, slices.Compare)
			both = slices.CompactFunc(both, slices.Equal)
			expect(t, impl.SpanOf, in(n, both), join, impl.OK)
		}
	}
}

// stepped puts items that are equal modulo a number, after a permutation, into one block.
func stepped(n, modulo, factor int64) []int64 {
	list := make([]int64, n)
	for i := range n {
		list[i] = (i*factor%41 + i/5) % modulo
	}
	p, _ := impl.NormalPartition(list)
	return p
}

func TestPromise3BlocksPairsAndTexts(t *testing.T) {
	for n := 1; n <= 6; n++ {
		for _, p := range partitionsOf(n) {
			var pairs [][]int64
			blocks := make([][]int64, blockCount(p))
			for i, block := range p {
				blocks[block] = append(blocks[block], int64(i))
				for k := i + 1; k < n; k++ {
					if p[k] == block {
						pairs = append(pairs, []int64{int64(i), int64(k)})
					}
				}
			}
			expect(t, impl.BlocksOf, in(p), blocks, impl.OK)
			expect(t, impl.FromBlocks, in(n, backwards(blocks)), p, impl.OK)
			expect(t, impl.PairsOf, in(p), pairs, impl.OK)
			expect(t, impl.SpanOf, in(n, pairs), p, impl.OK)
			expect(t, impl.ReadPartition, in(impl.PartitionText(p)), p, true)
		}
	}
}

func backwards(blocks [][]int64) [][]int64 {
	var list [][]int64
	for _, items := range slices.Backward(blocks) {
		turned := slices.Clone(items)
		slices.Reverse(turned)
		list = append(list, turned)
	}
	return list
}

// relationsOn returns all relations on n items.
func relationsOn(n int64) [][][]int64 {
	relations := [][][]int64{nil}
	for _, pair := range allPairs(n) {
		for _, r := range relations {
			relations = append(relations, append(slices.Clone(r), pair))
		}
	}
	return relations
}

func holds(r [][]int64, a, b int64) bool {
	return slices.ContainsFunc(r, func(pair []int64) bool { return pair[0] == a && pair[1] == b })
}

func reachable(n int64, r [][]int64, from int64) []bool {
	seen := make([]bool, n)
	seen[from] = true
	for range n {
		for _, pair := range r {
			seen[pair[1]] = seen[pair[1]] || seen[pair[0]]
		}
	}
	return seen
}

func TestPromise3ClosuresAndSpans(t *testing.T) {
	for n := int64(1); n <= 3; n++ {
		all := partitionsOf(int(n))
		for _, r := range relationsOn(n) {
			var closed, inverse [][]int64
			for _, pair := range allPairs(n) {
				if reachable(n, r, pair[0])[pair[1]] {
					closed = append(closed, pair)
				}
				if holds(r, pair[1], pair[0]) {
					inverse = append(inverse, pair)
				}
			}
			expect(t, impl.IsRelation, in(n, r), true)
			expect(t, impl.ClosureOf, in(n, r), closed, impl.OK)
			expect(t, impl.ClosureOf, in(n, closed), closed, impl.OK)
			expect(t, impl.ComposeRelations, in(n, closed, closed), closed, impl.OK)
			expect(t, impl.InverseRelation, in(n, r), inverse, impl.OK)
			expect(t, impl.InverseRelation, in(n, inverse), r, impl.OK)
			span := finest(t, all, func(p []int64) bool {
				return !slices.ContainsFunc(r, func(pair []int64) bool { return p[pair[0]] != p[pair[1]] })
			})
			expect(t, impl.SpanOf, in(n, r), span, impl.OK)
		}
	}
}

func TestPromise3LargeClosures(t *testing.T) {
	for _, factor := range []int64{3, 7, 12, 23, 38} {
		var r [][]int64
		for a := range int64(40) {
			if b := a * factor % 41 % 40; a%11 != 0 {
				r = append(r, []int64{a, b})
			}
		}
		var closed [][]int64
		for a := range int64(40) {
			for b, yes := range reachable(40, r, a) {
				if yes {
					closed = append(closed, []int64{a, int64(b)})
				}
			}
		}
		expect(t, impl.ClosureOf, in(40, r), closed, impl.OK)
	}
}

func TestPromise3Compositions(t *testing.T) {
	three := relationsOn(3)
	var sample [][][]int64
	for i := 0; i < len(three); i += 13 {
		sample = append(sample, three[i])
	}
	checkCompositions(t, 2, relationsOn(2))
	checkCompositions(t, 3, sample)
}

func checkCompositions(t *testing.T, n int64, relations [][][]int64) {
	for _, r := range relations {
		for _, q := range relations {
			var want [][]int64
			for _, pair := range allPairs(n) {
				found := false
				for b := range n {
					found = found || holds(r, pair[0], b) && holds(q, b, pair[1])
				}
				if found {
					want = append(want, pair)
				}
			}
			expect(t, impl.ComposeRelations, in(n, r, q), want, impl.OK)
		}
	}
}
