package tests

import (
	"math"
	"math/rand/v2"
	"slices"
	"testing"

	"loop.example/g00539/impl"
)

// joinOf joins two sums without the package.
func joinOf(a int64, b int64) int64 {
	return sumOfInts(a, b)
}

// modelTree computes a tree from the top down: the left half of 2^depth places
// is always full, and an empty right half counts as the left one again.
type modelTree struct {
	joined map[[2]int64]int64
}

func newModel() modelTree {
	return modelTree{map[[2]int64]int64{}}
}

func (m modelTree) join(a int64, b int64) int64 {
	pair := [2]int64{a, b}
	if _, known := m.joined[pair]; !known {
		m.joined[pair] = joinOf(a, b)
	}
	return m.joined[pair]
}

func depthOf(size int) int {
	depth := 0
	for 1<<depth < size {
		depth++
	}
	return depth
}

func halves(leaves []int64, depth int) ([]int64, []int64) {
	middle := min(1<<(depth-1), len(leaves))
	return leaves[:middle], leaves[middle:]
}

func (m modelTree) root(leaves []int64, depth int) int64 {
	if depth == 0 {
		return leaves[0]
	}
	left, right := halves(leaves, depth)
	if len(right) == 0 {
		right = left
	}
	return m.join(m.root(left, depth-1), m.root(right, depth-1))
}

func (m modelTree) branch(leaves []int64, depth int, at int) []int64 {
	if depth == 0 {
		return nil
	}
	left, right := halves(leaves, depth)
	if at >= len(left) {
		return append(m.branch(right, depth-1, at-len(left)), m.root(left, depth-1))
	}
	if len(right) == 0 {
		right = left
	}
	return append(m.branch(left, depth-1, at), m.root(right, depth-1))
}

func (m modelTree) twin(leaves []int64, depth int) bool {
	if depth == 0 {
		return false
	}
	left, right := halves(leaves, depth)
	if len(right) == 0 {
		return m.twin(left, depth-1)
	}
	return m.root(left, depth-1) == m.root(right, depth-1) || m.twin(left, depth-1) || m.twin(right, depth-1)
}

// someLeaves lists valid leaves of all sizes, with and without twins.
func someLeaves() [][]int64 {
	source := rand.New(rand.NewPCG(4, 5))
	edges := []int64{0, 1, 255, 256, 65535, 65536, 1 << 24, impl.MaxSum - 1, impl.MaxSum}
	var all [][]int64
	for size := 1; size <= 8; size++ {
		all = append(all, repeatInt(0, size), repeatInt(impl.MaxSum, size), repeatInt(7, size))
		for range 40 {
			list := make([]int64, size)
			for i := range list {
				list[i] = source.Int64N(impl.MaxSum + 1)
				if source.IntN(3) == 0 {
					list[i] = edges[source.IntN(len(edges))]
				}
			}
			all = append(all, list)
		}
	}
	return all
}

// listsOf lists all lists of the given size over some numbers.
func listsOf(numbers []int64, size int) [][]int64 {
	all := [][]int64{nil}
	for range size {
		var longer [][]int64
		for _, list := range all {
			for _, n := range numbers {
				longer = append(longer, append(slices.Clone(list), n))
			}
		}
		all = longer
	}
	return all
}

func distinctLeaves(size int) []int64 {
	list := make([]int64, size)
	for i := range list {
		list[i] = int64(1000*i + 5)
	}
	return list
}

func malformedSums() []int64 {
	return []int64{-1, impl.MaxSum + 1, 1 << 31, math.MaxUint32, 1 << 32, 1<<32 + 5, math.MinInt64, math.MaxInt64}
}

func expectTwin(t *testing.T, what string, want bool, leaves ...int64) {
	t.Helper()
	if impl.HasTwin(leaves) != want {
		t.Errorf("%s: HasTwin of %v does not report %t", what, leaves, want)
	}
}

// expectNoTree requires the same code of all functions that return a code of RootOf.
func expectNoTree(t *testing.T, what string, code int64, leaves []int64) {
	t.Helper()
	expectInt(t, what+": RootOf", impl.RootOf(leaves), code, 0)
	for _, at := range []int64{math.MinInt64, -1, 0, 1, 7, 8, 9, math.MaxInt64} {
		expectList(t, what+": BranchOf", impl.BranchOf(leaves, at), code)
	}
	expectTwin(t, what, false, leaves...)
}

func TestConstantsOfChapter4(t *testing.T) {
	if impl.MaxLeaves != 8 {
		t.Errorf("got %d", impl.MaxLeaves)
	}
}

// Promise 1: all functions return for all arguments, the same each time, with zero values beside a code.
func TestPromise1NumbersOfChapter4(t *testing.T) {
	for _, a := range append(extremes(), 7, 8, 9, 254) {
		expectPure(t, "RootOf", func() impl.IntResult { return impl.RootOf([]int64{a}) })
		expectSameList(t, "BranchOf", func() impl.IntsResult { return impl.BranchOf([]int64{5, 7, 9}, a) })
		for _, b := range extremes() {
			expectPure(t, "JoinSums", func() impl.IntResult { return impl.JoinSums(a, b) })
			expectPure(t, "RootOf", func() impl.IntResult { return impl.RootOf([]int64{a, b, a}) })
			expectSameList(t, "BranchOf", func() impl.IntsResult { return impl.BranchOf([]int64{5, b, 9}, a) })
			expectPure(t, "ClimbOf", func() impl.IntResult { return impl.ClimbOf(a, b, []int64{5}) })
			expectPure(t, "ClimbOf", func() impl.IntResult { return impl.ClimbOf(5, a, []int64{b, 5}) })
			if impl.HasTwin([]int64{a, b}) != impl.HasTwin([]int64{a, b}) {
				t.Errorf("HasTwin of %d and %d is not the same each time", a, b)
			}
		}
	}
	for _, size := range []int{9, 10, 16, 200, 201, 5000} {
		expectNoTree(t, "too many leaves", impl.ErrMany, make([]int64, size))
		expectInt(t, "too long a branch", impl.ClimbOf(5, 0, make([]int64, size)), impl.ErrMany, 0)
	}
}

// Promise 1: nil is an empty list.
func TestPromise1EmptyListsOfChapter4(t *testing.T) {
	for _, empty := range [][]int64{nil, {}} {
		expectNoTree(t, "no leaves", impl.ErrMany, empty)
		expectInt(t, "no branch", impl.ClimbOf(5, 0, empty), impl.OK, 5)
	}
}

// Promise 1: arguments are neither changed nor written or read behind their end.
func TestPromise1EndsOfChapter4(t *testing.T) {
	whole := []int64{5, 7, 5, 7, 5, 7, 5, 7, 9, -1, 9}
	list := slices.Clone(whole)
	for size := range len(list) {
		behind := slices.Clone(list[:size])
		for at := range int64(10) {
			want, got := impl.BranchOf(behind, at), impl.BranchOf(list[:size], at)
			expectList(t, "BranchOf of a part", got, want.Code, want.List...)
			expectInt(t, "ClimbOf of a part", impl.ClimbOf(3, at, list[:size]), impl.ClimbOf(3, at, behind).Code, impl.ClimbOf(3, at, behind).Value)
		}
		expectInt(t, "RootOf of a part", impl.RootOf(list[:size]), impl.RootOf(behind).Code, impl.RootOf(behind).Value)
		expectTwin(t, "a part", impl.HasTwin(behind), list[:size]...)
	}
	if !slices.Equal(list, whole) {
		t.Errorf("%v was changed to %v", whole, list)
	}
}

// Promise 1: a branch is new memory; it shares none with the leaves nor with another branch.
func TestPromise1NewMemoryOfChapter4(t *testing.T) {
	for size := 2; size <= 8; size++ {
		leaves := distinctLeaves(size)
		for at := range int64(size) {
			first, other := impl.BranchOf(leaves, at), impl.BranchOf(leaves, at)
			want := slices.Clone(first.List)
			for i := range first.List {
				first.List[i] = -1
			}
			_ = append(first.List[:1], -2, -2, -2)
			expectList(t, "another branch", other, impl.OK, want...)
			expectList(t, "a branch after one was changed", impl.BranchOf(leaves, at), impl.OK, want...)
			if !slices.Equal(leaves, distinctLeaves(size)) {
				t.Fatalf("the leaves were changed to %v", leaves)
			}
			clear(leaves)
			expectList(t, "a branch after the leaves were changed", other, impl.OK, want...)
			leaves = distinctLeaves(size)
		}
	}
}

func TestJoinSums(t *testing.T) {
	sums := []int64{0, 1, 5, 7, 255, 256, 65536, 1 << 24, impl.MaxSum - 1, impl.MaxSum}
	for _, a := range sums {
		for _, b := range sums {
			expectInt(t, "JoinSums", impl.JoinSums(a, b), impl.OK, joinOf(a, b))
			expectInt(t, "SumInts of both", impl.JoinSums(a, b), impl.OK, impl.SumInts([]int64{a, b}).Value)
		}
		for _, n := range malformedSums() {
			expectInt(t, "malformed first", impl.JoinSums(n, a), impl.ErrRange, 0)
			expectInt(t, "malformed second", impl.JoinSums(a, n), impl.ErrRange, 0)
			expectInt(t, "both malformed", impl.JoinSums(n, n), impl.ErrRange, 0)
		}
	}
	if impl.JoinSums(5, 7) == impl.JoinSums(7, 5) {
		t.Error("a join does not depend on the order")
	}
}

// The roots of all sizes, written out.
func TestRootOfSizes(t *testing.T) {
	j := joinOf
	a, b, c, d, e, f, g, h := int64(5), int64(7), int64(9), int64(0), int64(11), int64(impl.MaxSum), int64(300), int64(13)
	leaves := []int64{a, b, c, d, e, f, g, h}
	for size, root := range map[int]int64{
		1: a,
		2: j(a, b),
		3: j(j(a, b), j(c, c)),
		4: j(j(a, b), j(c, d)),
		5: j(j(j(a, b), j(c, d)), j(j(e, e), j(e, e))),
		6: j(j(j(a, b), j(c, d)), j(j(e, f), j(e, f))),
		7: j(j(j(a, b), j(c, d)), j(j(e, f), j(g, g))),
		8: j(j(j(a, b), j(c, d)), j(j(e, f), j(g, h))),
	} {
		expectInt(t, "RootOf", impl.RootOf(leaves[:size]), impl.OK, root)
	}
	for _, leaf := range []int64{0, 4, impl.MaxSum} {
		expectInt(t, "one leaf", impl.RootOf([]int64{leaf}), impl.OK, leaf)
	}
}

// The codes of RootOf and BranchOf: the number of leaves, then the leaves, then at.
func TestMalformedLeaves(t *testing.T) {
	expectNoTree(t, "9 leaves", impl.ErrMany, distinctLeaves(9))
	for _, n := range malformedSums() {
		expectNoTree(t, "9 malformed leaves", impl.ErrMany, repeatInt(n, 9))
		for size := 1; size <= 8; size++ {
			expectNoTree(t, "malformed leaves alone", impl.ErrRange, repeatInt(n, size))
			for at := range size {
				leaves := repeatInt(7, size)
				leaves[at] = n
				expectNoTree(t, "a malformed leaf", impl.ErrRange, leaves)
			}
		}
	}
	for size := 1; size <= 8; size++ {
		for _, at := range []int64{math.MinInt64, -1 << 32, -8, -1, int64(size), int64(size) + 1, 255, 1 << 32, math.MaxInt64} {
			expectList(t, "at is no index", impl.BranchOf(distinctLeaves(size), at), impl.ErrRange)
		}
	}
}

// The branches of lists with a last sum without a partner: in the lowest row, in a higher one, in both.
func TestBranchOfLoneSums(t *testing.T) {
	j := joinOf
	expectList(t, "one leaf", impl.BranchOf([]int64{5}, 0), impl.OK)
	expectList(t, "the first of two", impl.BranchOf([]int64{5, 7}, 0), impl.OK, 7)
	expectList(t, "the second of two", impl.BranchOf([]int64{5, 7}, 1), impl.OK, 5)
	expectList(t, "the first of three", impl.BranchOf([]int64{5, 7, 9}, 0), impl.OK, 7, j(9, 9))
	expectList(t, "the second of three", impl.BranchOf([]int64{5, 7, 9}, 1), impl.OK, 5, j(9, 9))
	expectList(t, "the third of three", impl.BranchOf([]int64{5, 7, 9}, 2), impl.OK, 9, j(5, 7))
	five := []int64{1, 2, 3, 4, 5}
	expectList(t, "the fourth of five", impl.BranchOf(five, 3), impl.OK, 3, j(1, 2), j(j(5, 5), j(5, 5)))
	expectList(t, "the fifth of five", impl.BranchOf(five, 4), impl.OK, 5, j(5, 5), j(j(1, 2), j(3, 4)))
	six := []int64{1, 2, 3, 4, 5, 6}
	expectList(t, "the first of six", impl.BranchOf(six, 0), impl.OK, 2, j(3, 4), j(j(5, 6), j(5, 6)))
	expectList(t, "the fifth of six", impl.BranchOf(six, 4), impl.OK, 6, j(5, 6), j(j(1, 2), j(3, 4)))
	expectList(t, "the sixth of six", impl.BranchOf(six, 5), impl.OK, 5, j(5, 6), j(j(1, 2), j(3, 4)))
	seven := []int64{1, 2, 3, 4, 5, 6, 7}
	expectList(t, "the sixth of seven", impl.BranchOf(seven, 5), impl.OK, 5, j(7, 7), j(j(1, 2), j(3, 4)))
	expectList(t, "the seventh of seven", impl.BranchOf(seven, 6), impl.OK, 7, j(5, 6), j(j(1, 2), j(3, 4)))
	eight := []int64{1, 2, 3, 4, 5, 6, 7, impl.MaxSum}
	expectList(t, "the seventh of eight", impl.BranchOf(eight, 6), impl.OK, impl.MaxSum, j(5, 6), j(j(1, 2), j(3, 4)))
}

func TestClimbOf(t *testing.T) {
	j := joinOf
	for _, at := range []int64{0, 1, 2, 254, 255} {
		for _, leaf := range []int64{0, 5, impl.MaxSum - 1, impl.MaxSum} {
			expectInt(t, "no branch", impl.ClimbOf(leaf, at, nil), impl.OK, leaf)
		}
	}
	expectInt(t, "left", impl.ClimbOf(5, 0, []int64{7}), impl.OK, j(5, 7))
	expectInt(t, "right", impl.ClimbOf(5, 1, []int64{7}), impl.OK, j(7, 5))
	expectInt(t, "left of left", impl.ClimbOf(5, 0, []int64{7, 9}), impl.OK, j(j(5, 7), 9))
	expectInt(t, "right of left", impl.ClimbOf(5, 1, []int64{7, 9}), impl.OK, j(j(7, 5), 9))
	expectInt(t, "left of right", impl.ClimbOf(5, 2, []int64{7, 9}), impl.OK, j(9, j(5, 7)))
	expectInt(t, "right of right", impl.ClimbOf(5, 3, []int64{7, 9}), impl.OK, j(9, j(7, 5)))
	expectInt(t, "at beyond the branch", impl.ClimbOf(5, 254, []int64{7}), impl.OK, j(5, 7))
	expectInt(t, "at beyond the branch", impl.ClimbOf(5, 255, []int64{7}), impl.OK, j(7, 5))
	expectInt(t, "greatest sums", impl.ClimbOf(impl.MaxSum, 1, []int64{impl.MaxSum, 0}), impl.OK, j(j(impl.MaxSum, impl.MaxSum), 0))
}

// Each place on each branch of 8 sums: the bits of at, the lowest first, tell the sides.
func TestClimbOfSides(t *testing.T) {
	m, branch := newModel(), []int64{3, 0, impl.MaxSum, 4, 4, 256, 70000, 1}
	for at := range int64(256) {
		want := int64(77)
		for row, other := range branch {
			expectInt(t, "a part of the branch", impl.ClimbOf(77, at, branch[:row]), impl.OK, want)
			if at>>row&1 == 0 {
				want = m.join(want, other)
			} else {
				want = m.join(other, want)
			}
		}
		expectInt(t, "the whole branch", impl.ClimbOf(77, at, branch), impl.OK, want)
	}
}

// The codes of ClimbOf: leaf and at, then the length of the branch, then its sums.
func TestMalformedClimbs(t *testing.T) {
	nine, eight := repeatInt(1, 9), repeatInt(1, 8)
	if code := impl.ClimbOf(1, 255, eight).Code; code != impl.OK {
		t.Errorf("8 sums: got code %d", code)
	}
	expectInt(t, "9 sums", impl.ClimbOf(1, 255, nine), impl.ErrMany, 0)
	for _, at := range []int64{math.MinInt64, -256, -2, -1, 256, 257, 1 << 32, math.MaxInt64} {
		for _, branch := range [][]int64{nil, {7}, eight, nine, {-1}} {
			expectInt(t, "a malformed at", impl.ClimbOf(5, at, branch), impl.ErrRange, 0)
		}
	}
	for _, n := range malformedSums() {
		for _, branch := range [][]int64{nil, {7}, eight, nine, {-1}} {
			expectInt(t, "a malformed leaf", impl.ClimbOf(n, 0, branch), impl.ErrRange, 0)
			expectInt(t, "a malformed leaf and at", impl.ClimbOf(n, 256, branch), impl.ErrRange, 0)
		}
		expectInt(t, "9 malformed sums", impl.ClimbOf(5, 0, repeatInt(n, 9)), impl.ErrMany, 0)
		for at := range 8 {
			branch := repeatInt(1, 8)
			branch[at] = n
			expectInt(t, "a malformed sum", impl.ClimbOf(5, 0, branch), impl.ErrRange, 0)
			expectInt(t, "a malformed sum at the end", impl.ClimbOf(5, 0, branch[:at+1]), impl.ErrRange, 0)
		}
	}
}

// Promise 5: the branch of every leaf leads to the root.
func TestPromise5Branches(t *testing.T) {
	m := newModel()
	for _, leaves := range someLeaves() {
		depth := depthOf(len(leaves))
		root := m.root(leaves, depth)
		expectInt(t, "RootOf", impl.RootOf(leaves), impl.OK, root)
		for at, leaf := range leaves {
			branch := impl.BranchOf(leaves, int64(at))
			expectList(t, "BranchOf", branch, impl.OK, m.branch(leaves, depth, at)...)
			expectInt(t, "ClimbOf", impl.ClimbOf(leaf, int64(at), branch.List), impl.OK, root)
		}
	}
}

// Promise 5: another leaf or another place does not lead to the root.
func TestPromise5OtherLeaves(t *testing.T) {
	for size := 2; size <= 8; size++ {
		leaves := distinctLeaves(size)
		root := impl.RootOf(leaves)
		for at, leaf := range leaves {
			branch := impl.BranchOf(leaves, int64(at)).List
			for other := range leaves {
				if other != at && impl.ClimbOf(leaves[other], int64(at), branch) == root {
					t.Errorf("leaf %d of %v leads from %d to the root", other, leaves, at)
				}
				if other != at && impl.ClimbOf(leaf, int64(other), branch) == root {
					t.Errorf("leaf %d of %v leads from %d to the root", at, leaves, other)
				}
			}
		}
	}
}

func TestHasTwin(t *testing.T) {
	expectTwin(t, "one leaf", false, 5)
	expectTwin(t, "two leaves", false, 5, 7)
	expectTwin(t, "the greatest sums", true, impl.MaxSum, impl.MaxSum)
	expectTwin(t, "sums of 0", true, 0, 0)
	expectTwin(t, "different sums", false, impl.MaxSum, impl.MaxSum-1)
	expectTwin(t, "in the lowest row, first", true, 5, 5, 7, 9)
	expectTwin(t, "in the lowest row, last", true, 5, 7, 9, 9)
	expectTwin(t, "in the lowest row, before a lone one", true, 5, 5, 7)
	expectTwin(t, "in the lowest row, in the middle", true, 1, 2, 3, 3, 4, 5, 6)
	expectTwin(t, "in the lowest row, the last of eight", true, 1, 2, 3, 4, 5, 6, 7, 7)
	expectTwin(t, "in the row above", true, 5, 7, 5, 7)
	expectTwin(t, "in the row above, last", true, 1, 2, 3, 4, 5, 6, 5, 6)
	expectTwin(t, "in the row above, before a lone one", true, 5, 7, 5, 7, 9)
	expectTwin(t, "in the row below the top", true, 1, 2, 3, 4, 1, 2, 3, 4)
	expectTwin(t, "everywhere", true, repeatInt(4, 8)...)
	expectTwin(t, "8 different leaves", false, distinctLeaves(8)...)
}

// Equal sums that are not joined are no twins, nor is a last one that is joined with itself.
func TestHasTwinOfOthers(t *testing.T) {
	expectTwin(t, "a lone leaf", false, 5, 7, 9)
	expectTwin(t, "a lone leaf after itself", false, 5, 9, 9)
	expectTwin(t, "a lone leaf of five", false, 1, 2, 3, 4, 5)
	expectTwin(t, "a lone sum above", false, 1, 2, 3, 4, 5, 6)
	expectTwin(t, "a lone leaf of seven", false, 1, 2, 3, 4, 5, 6, 7)
	expectTwin(t, "neighbours of different pairs", false, 5, 7, 7, 9)
	expectTwin(t, "at the same side", false, 5, 7, 5, 9)
	expectTwin(t, "in the other order", false, 5, 7, 7, 5)
	expectTwin(t, "pairs that are not joined", false, 1, 2, 3, 4, 3, 4, 5, 6)
	expectTwin(t, "pairs that are not joined, the last one alone", false, 1, 2, 3, 4, 3, 4)
	expectTwin(t, "halves in the other order", false, 1, 2, 3, 4, 3, 4, 1, 2)
}

// Twins are equal sums; the leaves below them need not be equal.
func TestHasTwinOfEqualJoins(t *testing.T) {
	if joinOf(0, 33) != joinOf(0, 256) || joinOf(0, 539033601) != joinOf(1, 1) {
		t.Fatal("these joins are not equal")
	}
	expectTwin(t, "joins of different leaves", true, 0, 33, 0, 256)
	expectTwin(t, "a join with itself beside an equal one", true, 0, 539033601, 1)
	expectTwin(t, "equal joins in different pairs", false, 2, 3, 0, 33, 0, 256)
}

func TestHasTwinBesideACode(t *testing.T) {
	expectTwin(t, "no leaves", false)
	expectTwin(t, "9 equal leaves", false, repeatInt(5, 9)...)
	expectTwin(t, "16 equal leaves", false, repeatInt(5, 16)...)
	for _, n := range malformedSums() {
		expectTwin(t, "malformed twins", false, n, n)
		expectTwin(t, "twins after a malformed leaf", false, n, 1, 5, 5)
		expectTwin(t, "twins before a malformed leaf", false, 5, 5, 1, n)
		expectTwin(t, "twins before a lone malformed leaf", false, 5, 5, n)
		expectTwin(t, "twins above, with malformed leaves", false, 5, n, 5, n)
	}
}

// Promise 5: twins are what the definition says, for all lists over a few sums and for those of all sizes.
func TestPromise5Twins(t *testing.T) {
	m := newModel()
	all := someLeaves()
	for size := 1; size <= 8; size++ {
		all = append(all, listsOf([]int64{0, 33, 256}, size)...)
	}
	found := map[bool]int{}
	for _, leaves := range all {
		want := m.twin(leaves, depthOf(len(leaves)))
		expectTwin(t, "all lists", want, leaves...)
		found[want]++
	}
	if found[true] < 500 || found[false] < 500 {
		t.Errorf("%d lists have twins, %d have none", found[true], found[false])
	}
}

// Promise 5: leaves that are repeated at the end so that the root stays the same are detected.
func TestPromise5RepeatedLeaves(t *testing.T) {
	repeated := 0
	for size := 1; size <= 8; size++ {
		leaves := distinctLeaves(size)
		expectTwin(t, "different leaves", false, leaves...)
		for last := 1; size+last <= 8 && last <= size; last++ {
			longer := slices.Concat(leaves, leaves[size-last:])
			if impl.RootOf(longer) != impl.RootOf(leaves) {
				continue
			}
			repeated++
			expectTwin(t, "repeated leaves", true, longer...)
		}
	}
	// 3 and 5 and 7 repeat one leaf, 6 repeats two; a single leaf is no pair
	if repeated != 4 {
		t.Errorf("%d roots stay the same, want 4", repeated)
	}
	expectInt(t, "three repeated leaves", impl.RootOf([]int64{1, 2, 3, 4, 5, 5, 5, 5}), impl.OK, impl.RootOf([]int64{1, 2, 3, 4, 5}).Value)
	expectTwin(t, "three repeated leaves", true, 1, 2, 3, 4, 5, 5, 5, 5)
}
