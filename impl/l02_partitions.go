package impl

import (
	"slices"
	"sort"
	"strings"
)

// Constants of chapter 2.
const (
	MaxItems = 40
)

// IsPartition reports whether p is a partition.
func IsPartition(p []int64) bool {
	return isItemCount(int64(len(p))) && slices.Equal(p, numberBlocks(p))
}

func isItemCount(n int64) bool { return n >= 1 && n <= MaxItems }

// numberBlocks puts items with equal keys into one block.
func numberBlocks[K comparable](keys []K) []int64 {
	blocks := make(map[K]int64)
	p := make([]int64, len(keys))
	for i, key := range keys {
		block, known := blocks[key]
		if !known {
			block = int64(len(blocks))
			blocks[key] = block
		}
		p[i] = block
	}
	return p
}

// NormalPartition returns the partition of equal numbers of a list.
func NormalPartition(list []int64) ([]int64, int64) {
	if !isItemCount(int64(len(list))) {
		return nil, ErrRange
	}
	return numberBlocks(list), OK
}

// BlocksOf returns the items of each block.
func BlocksOf(p []int64) ([][]int64, int64) {
	if !IsPartition(p) {
		return nil, ErrInvalid
	}
	members := make(map[int64][]int64)
	for i, block := range p {
		members[block] = append(members[block], int64(i))
	}
	blocks := make([][]int64, 0, len(members))
	for _, items := range members {
		blocks = append(blocks, items)
	}
	sort.Slice(blocks, func(i, k int) bool { return blocks[i][0] < blocks[k][0] })
	return blocks, OK
}

// FromBlocks returns the partition with the given blocks.
func FromBlocks(n int64, blocks [][]int64) ([]int64, int64) {
	for _, items := range blocks {
		if len(items) == 0 {
			return nil, ErrInvalid
		}
	}
	if !isItemCount(n) || !onlyItems(n, blocks) {
		return nil, ErrRange
	}
	owners := make(map[int64]int64)
	for block, items := range blocks {
		for _, item := range items {
			if _, taken := owners[item]; taken {
				return nil, ErrExists
			}
			owners[item] = int64(block)
		}
	}
	keys := make([]int64, n)
	for i := range keys {
		owner, found := owners[int64(i)]
		if !found {
			return nil, ErrNotFound
		}
		keys[i] = owner
	}
	return numberBlocks(keys), OK
}

// onlyItems reports whether all numbers of the lists are items.
func onlyItems(n int64, lists [][]int64) bool {
	for _, list := range lists {
		for _, item := range list {
			if item < 0 || item >= n {
				return false
			}
		}
	}
	return true
}

// twoPartitionsFault returns the code for two lists that must be partitions of the same items.
func twoPartitionsFault(p, q []int64) int64 {
	if !IsPartition(p) || !IsPartition(q) {
		return ErrInvalid
	}
	if len(p) != len(q) {
		return ErrRange
	}
	return OK
}

// RefinesPartition reports whether p refines q.
func RefinesPartition(p, q []int64) (bool, int64) {
	meet, code := MeetPartitions(p, q)
	if code != OK {
		return false, code
	}
	// p refines q exactly if q splits no block of p.
	return slices.Equal(meet, p), OK
}

// MeetPartitions returns the coarsest partition that refines p and q.
func MeetPartitions(p, q []int64) ([]int64, int64) {
	if code := twoPartitionsFault(p, q); code != OK {
		return nil, code
	}
	keys := make([][2]int64, len(p))
	for i := range keys {
		keys[i] = [2]int64{p[i], q[i]}
	}
	return numberBlocks(keys), OK
}

// JoinPartitions returns the finest partition that p and q refine.
func JoinPartitions(p, q []int64) ([]int64, int64) {
	if code := twoPartitionsFault(p, q); code != OK {
		return nil, code
	}
	f := newForest(int64(len(p)))
	f.uniteBlocks(p)
	f.uniteBlocks(q)
	return f.partition(), OK
}

// forest is a union-find structure: each item leads to the root of its block.
type forest struct {
	parents []int64
}

func newForest(n int64) *forest {
	parents := make([]int64, n)
	for i := range parents {
		parents[i] = int64(i)
	}
	return &forest{parents}
}

// root halves the path on its way, so that later searches are short.
func (f *forest) root(item int64) int64 {
	for f.parents[item] != item {
		f.parents[item] = f.parents[f.parents[item]]
		item = f.parents[item]
	}
	return item
}

func (f *forest) unite(a, b int64) {
	f.parents[f.root(a)] = f.root(b)
}

func (f *forest) uniteBlocks(p []int64) {
	firsts := make(map[int64]int64)
	for i, block := range p {
		first, known := firsts[block]
		if !known {
			first = int64(i)
			firsts[block] = first
		}
		f.unite(int64(i), first)
	}
}

func (f *forest) partition() []int64 {
	roots := make([]int64, len(f.parents))
	for i := range roots {
		roots[i] = f.root(int64(i))
	}
	return numberBlocks(roots)
}

// PairsOf returns the pairs of different items in one block.
func PairsOf(p []int64) ([][]int64, int64) {
	if !IsPartition(p) {
		return nil, ErrInvalid
	}
	var pairs [][]int64
	for i := range p {
		for k := i + 1; k < len(p); k++ {
			if p[i] == p[k] {
				pairs = append(pairs, []int64{int64(i), int64(k)})
			}
		}
	}
	return pairs, OK
}

// IsRelation reports whether r is a relation on n items.
func IsRelation(n int64, r [][]int64) bool {
	if !isItemCount(n) || !onlyItems(n, r) {
		return false
	}
	for i, pair := range r {
		if len(pair) != 2 || i > 0 && CompareLists(r[i-1], pair) >= 0 {
			return false
		}
	}
	return true
}

// rows holds a relation: bit b of word a stands for the pair {a, b}.
type rows [MaxItems]uint64

func rowsOf(r [][]int64) *rows {
	w := new(rows)
	for _, pair := range r {
		w.add(pair[0], pair[1])
	}
	return w
}

func (w *rows) add(a, b int64) { w[a] |= 1 << b }

func (w *rows) has(a, b int64) bool { return w[a]>>b&1 == 1 }

func (w *rows) pairs(n int64) [][]int64 {
	var pairs [][]int64
	for a := range n {
		for b := range n {
			if w.has(a, b) {
				pairs = append(pairs, []int64{a, b})
			}
		}
	}
	return pairs
}

// ComposeRelations returns the composition of r and q.
func ComposeRelations(n int64, r, q [][]int64) ([][]int64, int64) {
	if !IsRelation(n, r) || !IsRelation(n, q) {
		return nil, ErrInvalid
	}
	behind, composed := rowsOf(q), new(rows)
	for _, pair := range r {
		composed[pair[0]] |= behind[pair[1]]
	}
	return composed.pairs(n), OK
}

// InverseRelation returns the inverse of r.
func InverseRelation(n int64, r [][]int64) ([][]int64, int64) {
	if !IsRelation(n, r) {
		return nil, ErrInvalid
	}
	inverse := new(rows)
	for _, pair := range r {
		inverse.add(pair[1], pair[0])
	}
	return inverse.pairs(n), OK
}

// ClosureOf returns the reflexive and transitive closure of r.
func ClosureOf(n int64, r [][]int64) ([][]int64, int64) {
	if !IsRelation(n, r) {
		return nil, ErrInvalid
	}
	closed := rowsOf(r)
	for a := range n {
		closed.add(a, a)
	}
	// Warshall's order: the item in the middle must be the outer loop.
	for b := range n {
		for a := range n {
			if closed.has(a, b) {
				closed[a] |= closed[b]
			}
		}
	}
	return closed.pairs(n), OK
}

// SpanOf returns the finest partition that contains r.
func SpanOf(n int64, r [][]int64) ([]int64, int64) {
	if !IsRelation(n, r) {
		return nil, ErrInvalid
	}
	f := newForest(n)
	for _, pair := range r {
		f.unite(pair[0], pair[1])
	}
	return f.partition(), OK
}

// PartitionText returns the text of a partition.
func PartitionText(p []int64) string {
	blocks, code := BlocksOf(p)
	if code != OK {
		return ""
	}
	texts := make([]string, len(blocks))
	for i, items := range blocks {
		texts[i] = joinNumbers(items, " ")
	}
	return strings.Join(texts, "|")
}

// ReadPartition returns the partition with a text.
func ReadPartition(s string) ([]int64, bool) {
	var blocks [][]int64
	n := int64(0)
	for text := range strings.SplitSeq(s, "|") {
		items, ok := splitNumbers(text, " ")
		if !ok {
			return nil, false
		}
		blocks = append(blocks, items)
		n += int64(len(items))
	}
	p, code := FromBlocks(n, blocks)
	// Blocks and items in another order make the same partition, but are not its text.
	if code != OK || PartitionText(p) != s {
		return nil, false
	}
	return p, true
}
