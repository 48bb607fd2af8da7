package path

import (
	"math"
	"math/rand"
	"slices"
	"testing"

	"dumbwaiter/draw"
)

const most = 65536

// sizes are all numbers of leaves that are some.
func sizes() []int {
	var list []int
	for n := 1; n <= most; n *= 2 {
		list = append(list, n)
	}
	return list
}

// wrongSizes are numbers of leaves that are none.
func wrongSizes() []int {
	list := []int{0, 3, 5, 6, 7, 9, 10, 12, 100, 255, 257, 65534, 65535, 65537, 65538, 98304, 100000, 131071, 131072, 1 << 20, 1 << 30, 1 << 31, 1 << 32, 1<<32 + 1, 1<<32 + 4, 1 << 62, math.MaxInt32, math.MinInt32, math.MaxInt, math.MaxInt - 1, math.MaxInt/2 + 1, math.MinInt, math.MinInt + 1, math.MinInt / 2}
	for _, n := range sizes() {
		list = append(list, -n, -n-1)
	}
	return list
}

// leavesOf are leaves of a tree: all of a small one, of others the edges, the neighbours of each power of two, and some between.
func leavesOf(leaves int) []int {
	var list []int
	if leaves <= 128 {
		for leaf := range leaves {
			list = append(list, leaf)
		}
		return list
	}
	for n := 1; n < leaves; n *= 2 {
		list = append(list, n-1, n, n+1, leaves-n, leaves-n-1)
	}
	random := rand.New(rand.NewSource(int64(leaves)))
	for range 40 {
		list = append(list, random.Intn(leaves))
	}
	slices.Sort(list)
	return slices.Compact(list)
}

// wrongLeaves are leaves that a tree of so many has not.
func wrongLeaves(leaves int) []int {
	return []int{-1, -2, -leaves, -leaves - 1, leaves, leaves + 1, 2*leaves - 1, 2 * leaves, leaves + most, 1 << 32, math.MaxInt32, math.MinInt32, math.MaxInt, math.MinInt, math.MaxInt - 1, math.MinInt + 1}
}

// wrongLevels are levels that a tree of this depth has not.
func wrongLevels(depth int) []int {
	return []int{-1, -2, -depth - 1, depth + 1, depth + 2, 17, 18, 63, 64, 65, 128, math.MaxInt32, math.MinInt32, math.MaxInt, math.MinInt, math.MaxInt - 1, math.MinInt + 1}
}

// halvings counts how often n can be halved, as the sentence tells it.
func halvings(n int) int {
	count := 0
	for n > 1 {
		n /= 2
		count++
	}
	return count
}

// modelWay walks down a tree whose buckets are numbered as they are met, level by level from the left.
func modelWay(leaves, leaf int) []int {
	way := []int{}
	number, width := 0, leaves
	for buckets := 1; buckets <= leaves; buckets *= 2 {
		way = append(way, number+leaf/width)
		number += buckets
		width /= 2
	}
	return way
}

// modelMeet is the deepest level at which two ways have one bucket.
func modelMeet(one, other []int) int {
	deepest := -1
	for level := range one {
		if one[level] == other[level] {
			deepest = level
		}
	}
	return deepest
}

// 13.1: Depth and Buckets of each number of leaves.
func TestDepthAndBucketsOfLeaves(t *testing.T) {
	for _, leaves := range sizes() {
		if got, want := Depth(leaves), halvings(leaves); got != want {
			t.Errorf("Depth(%d) = %d, want %d", leaves, got, want)
		}
		if got, want := Buckets(leaves), 2*leaves-1; got != want {
			t.Errorf("Buckets(%d) = %d, want %d", leaves, got, want)
		}
	}
}

// 13.1: Depth and Buckets of numbers that are no leaves are 0, of all numbers about the bounds.
func TestDepthAndBucketsOfOthers(t *testing.T) {
	list := wrongSizes()
	for n := -200; n <= 2*most+200; n++ {
		if !slices.Contains(sizes(), n) {
			list = append(list, n)
		}
	}
	for _, n := range list {
		if Depth(n) != 0 || Buckets(n) != 0 {
			t.Errorf("of %d: Depth %d, Buckets %d, want 0 and 0", n, Depth(n), Buckets(n))
		}
	}
}

// 13.1: the chapter's example, and others by hand.
func TestExamples(t *testing.T) {
	for _, x := range []struct {
		leaves, leaf int
		way          []int
	}{
		{4, 2, []int{0, 2, 5}},
		{1, 0, []int{0}},
		{2, 0, []int{0, 1}},
		{2, 1, []int{0, 2}},
		{4, 0, []int{0, 1, 3}},
		{4, 1, []int{0, 1, 4}},
		{4, 3, []int{0, 2, 6}},
		{8, 5, []int{0, 2, 5, 12}},
		{16, 9, []int{0, 2, 5, 11, 24}},
	} {
		if got := On(x.leaves, x.leaf); !slices.Equal(got, x.way) {
			t.Errorf("On(%d, %d) = %v, want %v", x.leaves, x.leaf, got, x.way)
		}
	}
	for _, x := range [][4]int{{4, 2, 3, 1}, {4, 1, 2, 0}, {4, 3, 3, 2}, {1, 0, 0, 0}, {16, 9, 8, 3}, {16, 9, 11, 2}} {
		if got := Meet(x[0], x[1], x[2]); got != x[3] {
			t.Errorf("Meet(%d, %d, %d) = %d, want %d", x[0], x[1], x[2], got, x[3])
		}
	}
}

// 13.1: On tells each way as a walk down the tree does, and At tells it level by level.
func TestWaysAreThoseOfAWalk(t *testing.T) {
	for _, leaves := range sizes() {
		for _, leaf := range leavesOf(leaves) {
			want := modelWay(leaves, leaf)
			if got := On(leaves, leaf); !slices.Equal(got, want) {
				t.Fatalf("On(%d, %d) = %v, want %v", leaves, leaf, got, want)
			}
			for level := range want {
				if got, ok := At(leaves, leaf, level); !ok || got != want[level] {
					t.Fatalf("At(%d, %d, %d) = %d, %t, want %d", leaves, leaf, level, got, ok, want[level])
				}
			}
		}
	}
}

// 13.1: the buckets of a level are numbered from the left, each on as many ways as are below it.
func TestLevelsAreNumberedFromTheLeft(t *testing.T) {
	for _, leaves := range sizes() {
		first := 0
		for level := 0; level <= Depth(leaves); level++ {
			buckets := 1 << level
			for leaf := range leaves {
				got, ok := At(leaves, leaf, level)
				if want := first + leaf/(leaves/buckets); !ok || got != want {
					t.Fatalf("At(%d, %d, %d) = %d, %t, want %d", leaves, leaf, level, got, ok, want)
				}
			}
			first += buckets
		}
		if first != Buckets(leaves) {
			t.Errorf("%d buckets in the levels of %d leaves, Buckets tells %d", first, leaves, Buckets(leaves))
		}
	}
}

// 13.1: all ways of a tree have each of its buckets, and no others.
func TestWaysCoverTheBuckets(t *testing.T) {
	for _, leaves := range sizes() {
		ways := make([]int, Buckets(leaves))
		for leaf := range leaves {
			for _, bucket := range On(leaves, leaf) {
				ways[bucket]++
			}
		}
		for bucket, count := range ways {
			if want := leaves >> halvings(bucket+1); count != want {
				t.Fatalf("of %d leaves: bucket %d is on %d ways, want %d", leaves, bucket, count, want)
			}
		}
	}
}

// 13.1: Meet of all pairs of some leaves is the deepest level of one bucket, either way round.
func TestMeetIsTheDeepestCommonLevel(t *testing.T) {
	for _, leaves := range sizes() {
		list := leavesOf(leaves)
		for _, a := range list {
			for _, b := range list {
				want := modelMeet(modelWay(leaves, a), modelWay(leaves, b))
				if got := Meet(leaves, a, b); got != want {
					t.Fatalf("Meet(%d, %d, %d) = %d, want %d", leaves, a, b, got, want)
				}
			}
		}
	}
}

// 13.1: nothing is told of numbers of leaves that are none.
func TestWrongSizesHaveNoWays(t *testing.T) {
	for _, leaves := range wrongSizes() {
		for _, leaf := range []int{0, 1, 2, -1, leaves - 1, leaves, math.MaxInt, math.MinInt} {
			for _, level := range []int{0, 1, -1, 16, 17, math.MaxInt, math.MinInt} {
				checkNoBucket(t, leaves, leaf, level)
			}
			checkNoWay(t, leaves, leaf)
			if got := Meet(leaves, leaf, leaf); got != -1 {
				t.Errorf("Meet(%d, %d, %d) = %d, want -1", leaves, leaf, leaf, got)
			}
		}
	}
}

// 13.1: nothing is told of leaves that a tree has not, nor do they meet any, from either side.
func TestWrongLeavesHaveNoWays(t *testing.T) {
	for _, leaves := range sizes() {
		for _, leaf := range wrongLeaves(leaves) {
			for level := 0; level <= Depth(leaves); level++ {
				checkNoBucket(t, leaves, leaf, level)
			}
			checkNoWay(t, leaves, leaf)
			for _, other := range []int{0, leaves - 1, leaf, leaves / 2} {
				if one, two := Meet(leaves, leaf, other), Meet(leaves, other, leaf); one != -1 || two != -1 {
					t.Errorf("of %d leaves, %d and %d: Meet %d and %d, want -1", leaves, leaf, other, one, two)
				}
			}
		}
	}
}

// 13.1: nothing is told of levels that a tree has not.
func TestWrongLevelsHaveNoBuckets(t *testing.T) {
	for _, leaves := range sizes() {
		for _, leaf := range []int{0, leaves / 2, leaves - 1} {
			for _, level := range wrongLevels(Depth(leaves)) {
				if level >= 0 && level <= Depth(leaves) {
					continue
				}
				checkNoBucket(t, leaves, leaf, level)
			}
		}
	}
}

func checkNoBucket(t *testing.T, leaves, leaf, level int) {
	t.Helper()
	if got, ok := At(leaves, leaf, level); got != 0 || ok {
		t.Errorf("At(%d, %d, %d) = %d, %t, want 0, false", leaves, leaf, level, got, ok)
	}
}

func checkNoWay(t *testing.T, leaves, leaf int) {
	t.Helper()
	if got := On(leaves, leaf); len(got) != 0 {
		t.Errorf("On(%d, %d) = %v, want none", leaves, leaf, got)
	}
}

// 13.1: On answers new memory each time, its spare room too.
func TestOnAnswersNewMemory(t *testing.T) {
	for _, leaves := range sizes() {
		want := modelWay(leaves, leaves-1)
		one, other := On(leaves, leaves-1), On(leaves, leaves-1)
		one = one[:cap(one)]
		for i := range one {
			one[i] = -7
		}
		if !slices.Equal(other, want) || !slices.Equal(On(leaves, leaves-1), want) {
			t.Errorf("of %d leaves: a way changed with another answer", leaves)
		}
	}
}

// 13.2: two ways have one bucket at each level down to Meet, and none behind it; a bucket of one way is on the other at its own level alone.
func TestWaysPartOnce(t *testing.T) {
	for _, leaves := range sizes() {
		list := leavesOf(leaves)
		for _, a := range list {
			for _, b := range list {
				checkPartOnce(t, leaves, a, b)
			}
		}
	}
}

func checkPartOnce(t *testing.T, leaves, a, b int) {
	t.Helper()
	one, other := On(leaves, a), On(leaves, b)
	meet := Meet(leaves, a, b)
	if len(one) != Depth(leaves)+1 || len(other) != len(one) || meet < 0 || meet >= len(one) {
		t.Fatalf("of %d leaves, %d and %d: ways %v and %v meet at %d", leaves, a, b, one, other, meet)
	}
	for level, bucket := range one {
		if common := slices.Contains(other, bucket); common != (level <= meet) {
			t.Fatalf("of %d leaves, %d and %d: level %d common %t, but they meet at %d", leaves, a, b, level, common, meet)
		}
		if (bucket == other[level]) != (level <= meet) {
			t.Fatalf("of %d leaves, %d and %d: level %d has %d and %d, but they meet at %d", leaves, a, b, level, bucket, other[level], meet)
		}
	}
	if (a == b) != (meet == Depth(leaves)) {
		t.Fatalf("of %d leaves, %d and %d meet at %d", leaves, a, b, meet)
	}
}

// 13.2: draws of a tree's leaves tell ways of that tree, with leaves of their own at the end (W3 counts on it).
func TestDrawnLeavesHaveWays(t *testing.T) {
	for _, leaves := range sizes() {
		source := draw.Stream([32]byte{13, 2}, 0)
		for range 200 {
			leaf := source.Next(leaves)
			way := On(leaves, leaf)
			if len(way) != Depth(leaves)+1 || way[len(way)-1] != leaves-1+leaf {
				t.Fatalf("of %d leaves: the way to %d is %v", leaves, leaf, way)
			}
		}
	}
}

// 13.3: no call panics, whatever numbers are given, and only ways of a tree are told.
func TestNoCallPanics(t *testing.T) {
	numbers := append(wrongSizes(), sizes()...)
	for n := -70; n <= 70; n++ {
		numbers = append(numbers, n)
	}
	for _, leaves := range numbers {
		Depth(leaves)
		Buckets(leaves)
		for _, a := range numbers {
			way := On(leaves, a)
			for _, b := range numbers {
				if bucket, ok := At(leaves, a, b); ok != (b >= 0 && b < len(way)) || ok && bucket != way[b] {
					t.Fatalf("At(%d, %d, %d) = %d, %t, but the way is %v", leaves, a, b, bucket, ok, way)
				}
				if meet := Meet(leaves, a, b); (meet >= 0) != (len(way) > 0 && len(On(leaves, b)) > 0) {
					t.Fatalf("Meet(%d, %d, %d) = %d", leaves, a, b, meet)
				}
			}
		}
	}
}

// 13.3: random numbers of all sizes do no harm either.
func TestNoCallPanicsOfRandomNumbers(t *testing.T) {
	random := rand.New(rand.NewSource(133))
	number := func() int { return int(random.Uint64() >> random.Intn(64)) }
	for range 200000 {
		leaves, a, b := number(), number(), number()
		if random.Intn(2) == 0 {
			leaves = 1 << random.Intn(17)
		}
		At(leaves, a, b)
		On(leaves, a)
		if meet := Meet(leaves, a, b); meet < -1 || meet > Depth(leaves) {
			t.Fatalf("Meet(%d, %d, %d) = %d", leaves, a, b, meet)
		}
	}
}
