package tests

import (
	"math"
	"reflect"
	"slices"
	"testing"

	"loop.example/fulltrees/impl"
)

// noDepths are numbers for which it is not told how many keys trees so deep have.
var noDepths = []int{math.MinInt, -8, -1, 0, 9, 10, 100, math.MaxInt}

// noSizes are numbers of keys that no tree has.
var noSizes = []int{math.MinInt, -100, -1, 101, 102, 200, math.MaxInt}

// leastBelow says in other words how many keys a node that is not the tree itself has at least, with all that lie below it.
func leastBelow(wide, depth int) int {
	if depth == 1 {
		return wide / 2
	}
	return wide/2 + (wide/2+1)*leastBelow(wide, depth-1)
}

// mostBelow says in other words how many keys a node has at most, with all that lie below it.
func mostBelow(wide, depth int) int {
	if depth == 1 {
		return wide
	}
	return wide + (wide+1)*mostBelow(wide, depth-1)
}

// sizesOf tells of each number up to most whether a node can have so many keys, with all that lie below it.
func sizesOf(wide, depth int, isRoot bool, most int) []bool {
	least := wide / 2
	if isRoot {
		least = min(depth-1, 1)
	}
	sizes := make([]bool, most+1)
	if depth == 1 {
		for n := least; n <= wide; n++ {
			sizes[n] = true
		}
		return sizes
	}
	below := sizesOf(wide, depth-1, false, most)
	sums := below
	for count := 1; count <= wide; count++ {
		sums = sumsOf(sums, below)
		for n := 0; count >= least && n+count <= most; n++ {
			sizes[n+count] = sizes[n+count] || sums[n]
		}
	}
	return sizes
}

// sumsOf tells of each number whether it is the sum of two that are told of.
func sumsOf(a, b []bool) []bool {
	sums := make([]bool, len(a))
	for i := range a {
		for j := 0; i+j < len(sums); j++ {
			sums[i+j] = sums[i+j] || a[i] && b[j]
		}
	}
	return sums
}

func TestLeastAndMostKeys(t *testing.T) {
	for wide := impl.MinWide; wide <= impl.MaxWide; wide++ {
		for depth := 1; depth <= 8; depth++ {
			least := 0
			if depth > 1 {
				least = 1 + 2*leastBelow(wide, depth-1)
			}
			if got := impl.LeastKeys(wide, depth); got != least {
				t.Errorf("LeastKeys(%d, %d) = %d, not %d", wide, depth, got, least)
			}
			if got, most := impl.MostKeys(wide, depth), mostBelow(wide, depth); got != most {
				t.Errorf("MostKeys(%d, %d) = %d, not %d", wide, depth, got, most)
			}
		}
	}
}

func TestLeastAndMostKeysOfOtherWidthsAndDepths(t *testing.T) {
	check := func(wide, depth int) {
		if impl.LeastKeys(wide, depth) != -1 || impl.MostKeys(wide, depth) != -1 {
			t.Errorf("LeastKeys(%d, %d) = %d, and at most %d", wide, depth, impl.LeastKeys(wide, depth), impl.MostKeys(wide, depth))
		}
	}
	for _, depth := range noDepths {
		for wide := impl.MinWide; wide <= impl.MaxWide; wide++ {
			check(wide, depth)
		}
	}
	for _, wide := range noWides {
		for _, depth := range append(from(1, 8), noDepths...) {
			check(wide, depth)
		}
	}
}

func TestKeysThatTreesOfADepthCanHave(t *testing.T) {
	const most = 300
	for wide := impl.MinWide; wide <= impl.MaxWide; wide++ {
		for depth := 1; depth <= 8; depth++ {
			for n, can := range sizesOf(wide, depth, true, most) {
				if can != (impl.LeastKeys(wide, depth) <= n && n <= impl.MostKeys(wide, depth)) {
					t.Errorf("%d keys with the width %d and the depth %d: %v", n, wide, depth, can)
				}
			}
		}
	}
}

func TestTreesWithLeastAndMostKeys(t *testing.T) {
	for wide := impl.MinWide; wide <= impl.MaxWide; wide++ {
		for depth := 2; impl.LeastKeys(wide, depth) <= impl.MaxKey+1; depth++ {
			first := grown(depth-1, steady(wide/2, wide/2), plain)
			count := len(impl.KeysOf(first))
			second := grown(depth-1, steady(wide/2, wide/2), func(i int) int { return count + 1 + i })
			x := over([]int{count}, first, second)
			if !impl.TreeValid(x, wide) || 2*count+1 != impl.LeastKeys(wide, depth) {
				t.Errorf("LeastKeys(%d, %d) = %d, not %d", wide, depth, impl.LeastKeys(wide, depth), 2*count+1)
			}
		}
		for depth := 1; impl.MostKeys(wide, depth) <= impl.MaxKey+1; depth++ {
			x := grown(depth, steady(wide, wide), plain)
			if !impl.TreeValid(x, wide) || len(impl.KeysOf(x)) != impl.MostKeys(wide, depth) {
				t.Errorf("MostKeys(%d, %d) = %d, not %d", wide, depth, impl.MostKeys(wide, depth), len(impl.KeysOf(x)))
			}
		}
	}
}

func TestLeastAndMostDepth(t *testing.T) {
	for wide := impl.MinWide; wide <= impl.MaxWide; wide++ {
		least, most := make([]int, impl.MaxKey+2), make([]int, impl.MaxKey+2)
		for depth := 1; depth <= 8; depth++ {
			for n, can := range sizesOf(wide, depth, true, impl.MaxKey+1) {
				if can && least[n] == 0 {
					least[n] = depth
				}
				if can {
					most[n] = depth
				}
			}
		}
		for n := 0; n <= impl.MaxKey+1; n++ {
			if got := impl.LeastDepth(wide, n); got != least[n] {
				t.Errorf("LeastDepth(%d, %d) = %d, not %d", wide, n, got, least[n])
			}
			if got := impl.MostDepth(wide, n); got != most[n] {
				t.Errorf("MostDepth(%d, %d) = %d, not %d", wide, n, got, most[n])
			}
		}
	}
}

func TestDepthsOfNumbersOfKeysJustAtADepth(t *testing.T) {
	for _, c := range []struct{ wide, n, least, most int }{
		{2, 0, 1, 1}, {2, 1, 1, 1}, {2, 2, 1, 1}, {2, 3, 2, 2}, {2, 6, 2, 2}, {2, 7, 2, 3}, {2, 8, 2, 3}, {2, 9, 3, 3},
		{2, 14, 3, 3}, {2, 15, 3, 4}, {2, 26, 3, 4}, {2, 27, 4, 4}, {2, 62, 4, 5}, {2, 63, 4, 6}, {2, 80, 4, 6}, {2, 81, 5, 6}, {2, 100, 5, 6},
		{3, 2, 1, 1}, {3, 3, 1, 2}, {3, 4, 2, 2}, {3, 15, 2, 4}, {3, 16, 3, 4}, {3, 63, 3, 6}, {3, 64, 4, 6}, {3, 100, 4, 6},
		{4, 4, 1, 1}, {4, 5, 2, 2}, {4, 16, 2, 2}, {4, 17, 2, 3}, {4, 24, 2, 3}, {4, 25, 3, 3}, {4, 52, 3, 3}, {4, 53, 3, 4}, {4, 100, 3, 4},
		{5, 5, 1, 2}, {5, 6, 2, 2}, {5, 35, 2, 3}, {5, 36, 3, 3}, {5, 100, 3, 4},
		{6, 6, 1, 1}, {6, 7, 2, 2}, {6, 30, 2, 2}, {6, 31, 2, 3}, {6, 48, 2, 3}, {6, 49, 3, 3}, {6, 100, 3, 3},
	} {
		if least, most := impl.LeastDepth(c.wide, c.n), impl.MostDepth(c.wide, c.n); least != c.least || most != c.most {
			t.Errorf("LeastDepth(%d, %d) = %d, and at most %d", c.wide, c.n, least, most)
		}
	}
}

func TestDepthsOfOtherWidthsAndNumbers(t *testing.T) {
	check := func(wide, n int) {
		if impl.LeastDepth(wide, n) != -1 || impl.MostDepth(wide, n) != -1 {
			t.Errorf("LeastDepth(%d, %d) = %d, and at most %d", wide, n, impl.LeastDepth(wide, n), impl.MostDepth(wide, n))
		}
	}
	for _, n := range noSizes {
		for wide := impl.MinWide; wide <= impl.MaxWide; wide++ {
			check(wide, n)
		}
	}
	for _, wide := range noWides {
		for _, n := range append([]int{0, 1, 2, 50, 100}, noSizes...) {
			check(wide, n)
		}
	}
}

func TestNoTreeIsLessDeep(t *testing.T) {
	compared := 0
	for _, x := range append(smallTrees(5), someTrees(t)...) {
		keys, depth := impl.KeysOf(x), impl.DepthOf(x)
		for wide := impl.MinWide; wide <= impl.MaxWide; wide++ {
			if !impl.TreeValid(x, wide) {
				continue
			}
			compared++
			y, ok := impl.BuildTree(wide, keys)
			if !ok || impl.DepthOf(y) > depth || impl.DepthOf(y) != impl.LeastDepth(wide, len(keys)) {
				t.Errorf("%s is less deep than BuildTree(%d, %v) = %s", impl.FormatTree(x), wide, keys, impl.FormatTree(y))
			}
			if most := impl.MostDepth(wide, len(keys)); most < depth {
				t.Errorf("%s is deeper than MostDepth(%d, %d) = %d", impl.FormatTree(x), wide, len(keys), most)
			}
			if len(keys) < impl.LeastKeys(wide, depth) || len(keys) > impl.MostKeys(wide, depth) {
				t.Errorf("%s has a number of keys that is not possible with the width %d", impl.FormatTree(x), wide)
			}
		}
	}
	if compared < 200 {
		t.Errorf("only %d trees are compared", compared)
	}
}

// builtOf says in other words which node is built of keys that ascend.
func builtOf(wide, depth, least int, keys []int) impl.Tree {
	if depth == 1 {
		return leaf(keys...)
	}
	own := slices.IndexFunc(from(0, wide+1), func(count int) bool {
		return count >= least && len(keys)-count <= (count+1)*mostBelow(wide, depth-1)
	})
	var x impl.Tree
	rest := len(keys) - own
	for kids := own + 1; kids > 0; kids-- {
		size := (rest + kids - 1) / kids
		x.Kids = append(x.Kids, builtOf(wide, depth-1, wide/2, keys[:size]))
		if kids > 1 {
			x.Keys = append(x.Keys, keys[size])
			keys = keys[size+1:]
		}
		rest -= size
	}
	return x
}

// checkBuilt checks which tree is built of a list of keys.
func checkBuilt(t *testing.T, wide int, keys []int) {
	t.Helper()
	sorted := slices.Compact(slices.Sorted(slices.Values(keys)))
	if got, ok := impl.SortKeys(keys); !ok || !slices.Equal(got, sorted) {
		t.Errorf("SortKeys(%v) = %v, %v", keys, got, ok)
	}
	depth := 1
	for mostBelow(wide, depth) < len(sorted) {
		depth++
	}
	want := builtOf(wide, depth, 1, sorted)
	got, ok := impl.BuildTree(wide, keys)
	if !ok || !impl.SameTree(got, want) {
		t.Errorf("BuildTree(%d, %v) = %s, %v, not %s", wide, keys, impl.FormatTree(got), ok, impl.FormatTree(want))
	}
	if !impl.TreeValid(got, wide) || !slices.Equal(impl.KeysOf(got), sorted) || impl.DepthOf(got) != impl.LeastDepth(wide, len(sorted)) {
		t.Errorf("BuildTree(%d, %v) = %s, which is no such tree", wide, keys, impl.FormatTree(got))
	}
}

func TestBuildingAllNumbersOfKeys(t *testing.T) {
	for wide := impl.MinWide; wide <= impl.MaxWide; wide++ {
		for n := 0; n <= impl.MaxKey+1; n++ {
			checkBuilt(t, wide, from(0, n))
			checkBuilt(t, wide, from(impl.MaxKey+1-n, n))
			checkBuilt(t, wide, scrambled(37, 5)[:n])
		}
		for _, keys := range someLists() {
			checkBuilt(t, wide, keys)
			checkBuilt(t, wide, keys[:len(keys)/3])
		}
	}
}

// checkShares checks that the keys are shared among the kids of a built node as evenly as can be, and those of these.
func checkShares(t *testing.T, x impl.Tree) {
	t.Helper()
	for i, kid := range x.Kids {
		first, size, last := len(impl.KeysOf(x.Kids[0])), len(impl.KeysOf(kid)), len(impl.KeysOf(x.Kids[len(x.Kids)-1]))
		if i > 0 && size > len(impl.KeysOf(x.Kids[i-1])) || first > last+1 {
			t.Errorf("the kid %d of %s has %d keys", i, impl.FormatTree(x), size)
		}
		checkShares(t, kid)
	}
}

func TestBuiltKidsHaveEvenShares(t *testing.T) {
	for wide := impl.MinWide; wide <= impl.MaxWide; wide++ {
		for n := 0; n <= impl.MaxKey+1; n++ {
			x, _ := impl.BuildTree(wide, from(0, n))
			checkShares(t, x)
		}
	}
}

func TestBuildingByHand(t *testing.T) {
	for _, c := range []struct {
		wide, n int
		want    string
	}{
		{2, 0, "()"},
		{2, 1, "(0)"},
		{2, 2, "(0 1)"},
		{2, 3, "((0) 1 (2))"},
		{2, 4, "((0 1) 2 (3))"},
		{2, 5, "((0 1) 2 (3 4))"},
		{2, 6, "((0 1) 2 (3) 4 (5))"},
		{2, 7, "((0 1) 2 (3 4) 5 (6))"},
		{2, 8, "((0 1) 2 (3 4) 5 (6 7))"},
		{2, 9, "(((0 1) 2 (3)) 4 ((5 6) 7 (8)))"},
		{2, 10, "(((0 1) 2 (3 4)) 5 ((6 7) 8 (9)))"},
		{2, 17, "(((0 1) 2 (3 4) 5 (6 7)) 8 ((9 10) 11 (12 13) 14 (15 16)))"},
		{2, 18, "(((0 1) 2 (3) 4 (5)) 6 ((7 8) 9 (10 11)) 12 ((13 14) 15 (16 17)))"},
		{2, 26, "(((0 1) 2 (3 4) 5 (6 7)) 8 ((9 10) 11 (12 13) 14 (15 16)) 17 ((18 19) 20 (21 22) 23 (24 25)))"},
		{2, 27, "((((0 1) 2 (3) 4 (5)) 6 ((7 8) 9 (10) 11 (12))) 13 (((14 15) 16 (17) 18 (19)) 20 ((21 22) 23 (24) 25 (26))))"},
		{3, 3, "(0 1 2)"},
		{3, 4, "((0 1) 2 (3))"},
		{3, 15, "((0 1 2) 3 (4 5 6) 7 (8 9 10) 11 (12 13 14))"},
		{3, 16, "(((0 1) 2 (3 4) 5 (6 7)) 8 ((9 10 11) 12 (13 14 15)))"},
		{4, 4, "(0 1 2 3)"},
		{4, 5, "((0 1) 2 (3 4))"},
		{4, 8, "((0 1 2 3) 4 (5 6 7))"},
		{4, 10, "((0 1 2) 3 (4 5 6) 7 (8 9))"},
		{4, 24, "((0 1 2 3) 4 (5 6 7 8) 9 (10 11 12 13) 14 (15 16 17 18) 19 (20 21 22 23))"},
		{4, 25, "(((0 1 2 3) 4 (5 6 7) 8 (9 10 11)) 12 ((13 14 15 16) 17 (18 19 20) 21 (22 23 24)))"},
		{5, 5, "(0 1 2 3 4)"},
		{5, 6, "((0 1 2) 3 (4 5))"},
		{5, 36, "(((0 1 2 3) 4 (5 6 7 8) 9 (10 11 12 13) 14 (15 16 17)) 18 ((19 20 21 22 23) 24 (25 26 27 28 29) 30 (31 32 33 34 35)))"},
		{6, 6, "(0 1 2 3 4 5)"},
		{6, 7, "((0 1 2) 3 (4 5 6))"},
		{6, 14, "((0 1 2 3) 4 (5 6 7 8) 9 (10 11 12 13))"},
		{6, 49, "(((0 1 2 3 4 5) 6 (7 8 9 10 11) 12 (13 14 15 16 17) 18 (19 20 21 22 23)) 24 ((25 26 27 28 29 30) 31 (32 33 34 35 36) 37 (38 39 40 41 42) 43 (44 45 46 47 48)))"},
	} {
		got, ok := impl.BuildTree(c.wide, from(0, c.n))
		if !ok || impl.FormatTree(got) != c.want {
			t.Errorf("BuildTree(%d) of %d keys = %s, %v", c.wide, c.n, impl.FormatTree(got), ok)
		}
	}
}

func TestBuildingNoKeys(t *testing.T) {
	for wide := impl.MinWide; wide <= impl.MaxWide; wide++ {
		for _, keys := range [][]int{nil, {}} {
			if x, ok := impl.BuildTree(wide, keys); !ok || !isZero(x) {
				t.Errorf("BuildTree(%d) of no keys = %s, %v", wide, impl.FormatTree(x), ok)
			}
			if list, ok := impl.SortKeys(keys); !ok || len(list) != 0 {
				t.Errorf("SortKeys of no keys = %v, %v", list, ok)
			}
		}
		for other := impl.MinWide; other <= impl.MaxWide; other++ {
			if x, ok := impl.Widen(leaf(), wide, other); !ok || !isZero(x) {
				t.Errorf("Widen((), %d, %d) = %s, %v", wide, other, impl.FormatTree(x), ok)
			}
		}
	}
}

func TestSortKeys(t *testing.T) {
	for _, c := range []struct{ keys, want []int }{
		{[]int{0}, []int{0}},
		{[]int{99, 0}, []int{0, 99}},
		{[]int{9, 0, 9, 5}, []int{0, 5, 9}},
		{[]int{5, 5, 5, 5}, []int{5}},
		{[]int{10, 9, 2, 1, 20, 2}, []int{1, 2, 9, 10, 20}},
		{make([]int, 200), []int{0}},
	} {
		if got, ok := impl.SortKeys(c.keys); !ok || !slices.Equal(got, c.want) {
			t.Errorf("SortKeys(%v) = %v, %v", c.keys, got, ok)
		}
	}
	if got, ok := impl.SortKeys(slices.Concat(scrambled(37, 4), scrambled(3, 0))); !ok || !slices.Equal(got, from(0, 100)) {
		t.Errorf("SortKeys of all keys twice = %v, %v", got, ok)
	}
}

func TestListsThatAreNotBuilt(t *testing.T) {
	lists := [][]int{make([]int, 201), make([]int, 100000), slices.Concat(from(0, 100), from(0, 100), []int{5})}
	for _, key := range noKeys {
		lists = append(lists, []int{key}, []int{key, 1}, []int{1, key, 2}, append(make([]int, 199), key))
	}
	for _, keys := range lists {
		if list, ok := impl.SortKeys(keys); ok || len(list) != 0 {
			t.Errorf("SortKeys of %d numbers = %v", len(keys), list)
		}
		for wide := -1; wide <= 8; wide++ {
			checkNotBuilt(t, wide, keys)
		}
	}
	for _, wide := range noWides {
		checkNotBuilt(t, wide, nil)
		checkNotBuilt(t, wide, []int{1})
		checkNotBuilt(t, wide, from(0, 100))
	}
}

// checkNotBuilt checks that no tree is built of a list.
func checkNotBuilt(t *testing.T, wide int, keys []int) {
	t.Helper()
	if x, ok := impl.BuildTree(wide, keys); ok || !isZero(x) {
		t.Errorf("BuildTree(%d) of %d numbers = %s, %v", wide, len(keys), impl.FormatTree(x), ok)
	}
}

func TestWiden(t *testing.T) {
	for _, x := range append(smallTrees(4), someTrees(t)...) {
		for wide := impl.MinWide; wide <= impl.MaxWide; wide++ {
			for other := impl.MinWide; other <= impl.MaxWide; other++ {
				if !impl.TreeValid(x, wide) {
					checkNotWidened(t, x, wide, other)
					continue
				}
				want, _ := impl.BuildTree(other, impl.KeysOf(x))
				if got, ok := impl.Widen(x, wide, other); !ok || !impl.SameTree(got, want) || !impl.TreeValid(got, other) {
					t.Errorf("Widen(%s, %d, %d) = %s, %v", impl.FormatTree(x), wide, other, impl.FormatTree(got), ok)
				}
			}
			for _, other := range noWides {
				checkNotWidened(t, x, wide, other)
			}
		}
	}
}

func TestWidenByHand(t *testing.T) {
	for _, c := range []struct {
		text        string
		wide, other int
		want        string
	}{
		{"((1) 2 (3) 4 (5))", 2, 2, "((1 2) 3 (4 5))"},
		{"((1 2) 4 (6) 8 (9))", 2, 6, "(1 2 4 6 8 9)"},
		{"((1 2) 4 (6) 8 (9))", 3, 5, "((1 2 4) 6 (8 9))"},
		{"(1 2 3 4 5 6)", 6, 2, "((1 2) 3 (4) 5 (6))"},
		{"(((1) 2 (3)) 4 ((5) 6 (7)))", 2, 3, "((1 2 3) 4 (5 6 7))"},
		{"(((1) 2 (3)) 4 ((5) 6 (7)))", 2, 4, "((1 2 3) 4 (5 6 7))"},
	} {
		if got, ok := impl.Widen(parsed(t, c.text), c.wide, c.other); !ok || impl.FormatTree(got) != c.want {
			t.Errorf("Widen(%s, %d, %d) = %s, %v", c.text, c.wide, c.other, impl.FormatTree(got), ok)
		}
	}
}

// checkNotWidened checks that no tree is built of the keys of a tree.
func checkNotWidened(t *testing.T, x impl.Tree, wide, other int) {
	t.Helper()
	if y, ok := impl.Widen(x, wide, other); ok || !isZero(y) {
		t.Errorf("Widen(%d, %d) = %s, %v", wide, other, impl.FormatTree(y), ok)
	}
}

func TestWideningTreesOfNoWidth(t *testing.T) {
	for _, x := range noTrees(t) {
		for wide := -1; wide <= 8; wide++ {
			for _, other := range []int{-1, 1, 2, 3, 6, 7} {
				checkNotWidened(t, x, wide, other)
			}
		}
	}
	for _, wide := range noWides {
		for other := 1; other <= 7; other++ {
			checkNotWidened(t, leaf(), wide, other)
			checkNotWidened(t, leaf(1, 2), wide, other)
		}
	}
}

func TestBuiltTreesShareNoMemory(t *testing.T) {
	room := append(scrambled(37, 5), 61, 62, 63)
	before := slices.Clone(room)
	for wide := impl.MinWide; wide <= impl.MaxWide; wide++ {
		for n := 0; n <= 100; n++ {
			checkOwnMemory(t, func() impl.Tree { x, _ := impl.BuildTree(wide, room[:n]); return x })
		}
	}
	sorted, _ := impl.SortKeys(room[:100])
	other, _ := impl.SortKeys(room[:100])
	clear(other[:cap(other)])
	if !slices.Equal(sorted, from(0, 100)) || !slices.Equal(room, before) {
		t.Errorf("SortKeys shares memory: %v, %v", sorted, room)
	}
	for _, count := range []int{1, 2, 100} {
		ascending := append(from(0, count), 71, 72)
		list, _ := impl.SortKeys(ascending[:count])
		clear(list[:cap(list)])
		if !slices.Equal(ascending, append(from(0, count), 71, 72)) {
			t.Errorf("a list that ascends has become %v", ascending)
		}
	}
}

func TestWidenedTreesShareNoMemory(t *testing.T) {
	for _, text := range []string{"()", "(5)", "((1 2) 4 (6) 8 (9))", "(((0) 1 (2 3)) 5 ((6) 7 (8)))"} {
		x := roomy(parsed(t, text))
		before := withRoom(x)
		for other := impl.MinWide; other <= impl.MaxWide; other++ {
			checkOwnMemory(t, func() impl.Tree { y, _ := impl.Widen(x, 2, other); return y })
		}
		if !reflect.DeepEqual(withRoom(x), before) {
			t.Errorf("%s has changed", text)
		}
	}
}
