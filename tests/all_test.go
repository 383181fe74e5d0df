package tests

import (
	"cmp"
	"math"
	"reflect"
	"slices"
	"strings"
	"sync"
	"testing"

	"loop.example/fulltrees/impl"
)

// noTold are numbers of keys with which no trees are told, and noCounted those with which none are counted.
var (
	noTold    = []int{math.MinInt, -30, -9, -1, 10, 11, 30, 31, 100, math.MaxInt}
	noCounted = []int{math.MinInt, -30, -9, -1, 31, 32, 99, 100, math.MaxInt}
)

// treesWith returns all trees of n keys with a key in each node at least and one kid more than keys in each that is no leaf, however deep their leaves lie.
func treesWith(n int) []impl.Tree {
	all := []impl.Tree{leaf(from(0, n)...)}
	for own := 1; own < n; own++ {
		for _, kids := range kidsWith(own+1, n-own) {
			all = append(all, over(make([]int, own), kids...))
		}
	}
	return all
}

// kidsWith returns all lists of so many of these trees that have n keys together.
func kidsWith(count, n int) [][]impl.Tree {
	if count == 0 && n == 0 {
		return [][]impl.Tree{nil}
	}
	if n < count || count == 0 {
		return nil
	}
	var all [][]impl.Tree
	for last := 1; last <= n; last++ {
		for _, ahead := range kidsWith(count-1, n-last) {
			for _, x := range treesWith(last) {
				all = append(all, append(slices.Clone(ahead), x))
			}
		}
	}
	return all
}

// compareTrees says in other words which of two trees of as many keys is told first.
func compareTrees(a, b impl.Tree) int {
	order := cmp.Or(cmp.Compare(impl.DepthOf(a), impl.DepthOf(b)), cmp.Compare(len(a.Keys), len(b.Keys)))
	for i := 0; order == 0 && i < len(a.Kids); i++ {
		sizes := cmp.Compare(len(impl.KeysOf(a.Kids[i])), len(impl.KeysOf(b.Kids[i])))
		order = cmp.Or(sizes, compareTrees(a.Kids[i], b.Kids[i]))
	}
	return order
}

// toldTrees says in other words which trees of n keys are told for each width, in order. The place of a width in the list is the width.
func toldTrees(n int) [][]impl.Tree {
	told := make([][]impl.Tree, impl.MaxWide+1)
	for _, shape := range treesWith(n) {
		x := numberedFrom(shape, 0)
		for wide := impl.MinWide; wide <= impl.MaxWide; wide++ {
			if fitsByRules(x, wide) {
				told[wide] = append(told[wide], x)
			}
		}
	}
	for _, trees := range told {
		slices.SortFunc(trees, compareTrees)
	}
	return told
}

// textsIn returns the texts of trees.
func textsIn(trees []impl.Tree) []string {
	var texts []string
	for _, x := range trees {
		texts = append(texts, impl.FormatTree(x))
	}
	return texts
}

// checkTold checks that a list of trees is the one that is told of a width and a number of keys.
func checkTold(t *testing.T, wide, n int, trees []impl.Tree) {
	t.Helper()
	got, ok := impl.AllTrees(wide, n)
	if want := textsIn(trees); !ok || !slices.Equal(got, want) {
		t.Errorf("AllTrees(%d, %d) = %s, %v, not %s", wide, n, strings.Join(got, " | "), ok, strings.Join(want, " | "))
	}
	if got := impl.CountTrees(wide, n); got != len(trees) {
		t.Errorf("CountTrees(%d, %d) = %d, not %d", wide, n, got, len(trees))
	}
	for i, x := range trees {
		got, ok := impl.TreeAt(wide, n, i)
		if !ok || !impl.SameTree(got, x) || !impl.TreeValid(got, wide) {
			t.Errorf("TreeAt(%d, %d, %d) = %s, %v, not %s", wide, n, i, impl.FormatTree(got), ok, impl.FormatTree(x))
		}
	}
	for _, i := range []int{math.MinInt, -2, -1, len(trees), len(trees) + 1, 1000, math.MaxInt} {
		if got, ok := impl.TreeAt(wide, n, i); !isZero(got) || ok {
			t.Errorf("TreeAt(%d, %d, %d) = %s, %v", wide, n, i, impl.FormatTree(got), ok)
		}
	}
}

func TestAllTreesOfAllSizes(t *testing.T) {
	for n := 0; n <= impl.MaxTold; n++ {
		told := toldTrees(n)
		for wide := impl.MinWide; wide <= impl.MaxWide; wide++ {
			checkTold(t, wide, n, told[wide])
		}
	}
}

func TestAllTreesByHand(t *testing.T) {
	for _, c := range []struct {
		wide, n int
		want    string
	}{
		{2, 0, "()"}, {6, 0, "()"}, {2, 1, "(0)"}, {4, 1, "(0)"}, {6, 1, "(0)"},
		{2, 2, "(0 1)"}, {3, 2, "(0 1)"}, {6, 5, "(0 1 2 3 4)"}, {5, 4, "(0 1 2 3)"}, {4, 4, "(0 1 2 3)"},
		{2, 3, "((0) 1 (2))"}, {3, 3, "(0 1 2) | ((0) 1 (2))"},
		{2, 4, "((0) 1 (2 3)) | ((0 1) 2 (3))"}, {3, 4, "((0) 1 (2 3)) | ((0 1) 2 (3))"},
		{5, 5, "(0 1 2 3 4) | ((0 1) 2 (3 4))"},
		{3, 5, "((0) 1 (2 3 4)) | ((0 1) 2 (3 4)) | ((0 1 2) 3 (4)) | ((0) 1 (2) 3 (4))"},
		{2, 6, "((0) 1 (2) 3 (4 5)) | ((0) 1 (2 3) 4 (5)) | ((0 1) 2 (3) 4 (5))"},
		{4, 6, "((0 1) 2 (3 4 5)) | ((0 1 2) 3 (4 5))"},
		{6, 7, "((0 1 2) 3 (4 5 6))"}, {6, 8, "((0 1 2) 3 (4 5 6 7)) | ((0 1 2 3) 4 (5 6 7))"},
		{2, 8, "((0 1) 2 (3 4) 5 (6 7)) | (((0) 1 (2)) 3 ((4) 5 (6 7))) | (((0) 1 (2)) 3 ((4 5) 6 (7))) | (((0) 1 (2 3)) 4 ((5) 6 (7))) | (((0 1) 2 (3)) 4 ((5) 6 (7)))"},
		{2, 9, "(((0) 1 (2)) 3 ((4 5) 6 (7 8))) | (((0) 1 (2)) 3 ((4) 5 (6) 7 (8))) | (((0) 1 (2 3)) 4 ((5) 6 (7 8))) | (((0) 1 (2 3)) 4 ((5 6) 7 (8))) | (((0 1) 2 (3)) 4 ((5) 6 (7 8))) | (((0 1) 2 (3)) 4 ((5 6) 7 (8))) | (((0 1) 2 (3 4)) 5 ((6) 7 (8))) | (((0) 1 (2) 3 (4)) 5 ((6) 7 (8)))"},
		{4, 9, "((0 1 2 3) 4 (5 6 7 8)) | ((0 1) 2 (3 4) 5 (6 7 8)) | ((0 1) 2 (3 4 5) 6 (7 8)) | ((0 1 2) 3 (4 5) 6 (7 8))"},
		{5, 9, "((0 1 2) 3 (4 5 6 7 8)) | ((0 1 2 3) 4 (5 6 7 8)) | ((0 1 2 3 4) 5 (6 7 8)) | ((0 1) 2 (3 4) 5 (6 7 8)) | ((0 1) 2 (3 4 5) 6 (7 8)) | ((0 1 2) 3 (4 5) 6 (7 8))"},
		{6, 9, "((0 1 2) 3 (4 5 6 7 8)) | ((0 1 2 3) 4 (5 6 7 8)) | ((0 1 2 3 4) 5 (6 7 8))"},
	} {
		var trees []impl.Tree
		for _, text := range strings.Split(c.want, " | ") {
			trees = append(trees, parsed(t, text))
		}
		checkTold(t, c.wide, c.n, trees)
	}
}

func TestTreesInOrderByTheirFirstKids(t *testing.T) {
	for at, text := range []string{
		"(((0) 1 (2)) 3 ((4) 5 (6 7 8)))", "(((0) 1 (2)) 3 ((4 5) 6 (7 8)))", "(((0) 1 (2)) 3 ((4 5 6) 7 (8)))", "(((0) 1 (2)) 3 ((4) 5 (6) 7 (8)))",
		"(((0) 1 (2 3)) 4 ((5) 6 (7 8)))", "(((0) 1 (2 3)) 4 ((5 6) 7 (8)))", "(((0 1) 2 (3)) 4 ((5) 6 (7 8)))", "(((0 1) 2 (3)) 4 ((5 6) 7 (8)))",
		"(((0) 1 (2 3 4)) 5 ((6) 7 (8)))", "(((0 1) 2 (3 4)) 5 ((6) 7 (8)))", "(((0 1 2) 3 (4)) 5 ((6) 7 (8)))", "(((0) 1 (2) 3 (4)) 5 ((6) 7 (8)))",
	} {
		got, ok := impl.TreeAt(3, 9, 16+at)
		if impl.FormatTree(got) != text || !ok || impl.NumberOf(got, 3) != 16+at {
			t.Errorf("TreeAt(3, 9, %d) = %s, %v, not %s", 16+at, impl.FormatTree(got), ok, text)
		}
	}
}

// product returns how often there are so many keys in two parts that are chosen one by one, by how often in each of them.
func product(a, b []int) []int {
	counts := make([]int, len(a))
	for i := range a {
		for j := 0; i+j < len(counts); j++ {
			counts[i+j] += a[i] * b[j]
		}
	}
	return counts
}

// countsBy says in other words how many nodes of a depth there are, by their numbers of keys, with so many keys of their own at least.
func countsBy(wide, depth, least int) []int {
	counts := make([]int, impl.MaxCount+1)
	if depth == 1 {
		for n := least; n <= wide; n++ {
			counts[n] = 1
		}
		return counts
	}
	kid := countsBy(wide, depth-1, wide/2)
	key := make([]int, len(kid))
	key[1] = 1
	for own := least; own <= wide; own++ {
		all := kid
		for range own {
			all = product(all, product(key, kid))
		}
		for n, count := range all {
			counts[n] += count
		}
	}
	return counts
}

func TestCountsOfAllSizes(t *testing.T) {
	for wide := impl.MinWide; wide <= impl.MaxWide; wide++ {
		sums := make([]int, impl.MaxCount+1)
		for depth := 1; depth <= 8; depth++ {
			for n, want := range countsBy(wide, depth, min(depth-1, 1)) {
				sums[n] += want
				if got := impl.CountDeep(wide, n, depth); got != want {
					t.Errorf("CountDeep(%d, %d, %d) = %d, not %d", wide, n, depth, got, want)
				}
				if can := impl.LeastKeys(wide, depth) <= n && n <= impl.MostKeys(wide, depth); can != (want > 0) {
					t.Errorf("%d keys with the width %d and the depth %d: %d trees", n, wide, depth, want)
				}
			}
		}
		for n, want := range sums {
			if got := impl.CountTrees(wide, n); got != want {
				t.Errorf("CountTrees(%d, %d) = %d, not %d", wide, n, got, want)
			}
		}
	}
}

func TestCountsThatAreKnown(t *testing.T) {
	// Trees of width 2 are B-trees of order 3, of which it has long been counted how many have n + 1 places for keys that are not there (A014535).
	known := []int{1, 1, 1, 1, 2, 2, 3, 4, 5, 8, 14, 23, 32, 43, 63, 97, 149, 224, 332, 489, 727, 1116, 1776, 2897, 4782, 7895, 12909, 20752, 32670, 50426, 76767}
	for n, want := range known {
		if got := impl.CountTrees(2, n); got != want {
			t.Errorf("CountTrees(2, %d) = %d, not %d", n, got, want)
		}
	}
	for _, c := range [][4]int{
		{2, 0, 1, 1}, {2, 0, 2, 0}, {2, 1, 1, 1}, {2, 2, 1, 1}, {2, 2, 2, 0}, {2, 3, 1, 0}, {2, 3, 2, 1}, {3, 3, 1, 1}, {3, 3, 2, 1},
		{2, 6, 2, 3}, {2, 7, 2, 3}, {2, 7, 3, 1}, {2, 8, 2, 1}, {2, 8, 3, 4}, {2, 9, 2, 0}, {2, 9, 3, 8}, {2, 14, 4, 0}, {2, 15, 4, 1},
		{2, 26, 2, 0}, {2, 27, 3, 0}, {2, 30, 5, 0}, {2, 30, 8, 0}, {3, 15, 2, 1}, {3, 16, 2, 0}, {3, 15, 4, 1},
		{4, 24, 2, 1}, {4, 25, 2, 0}, {4, 16, 3, 0}, {4, 17, 3, 1}, {5, 5, 1, 1}, {5, 5, 2, 1}, {5, 30, 2, 216}, {6, 6, 1, 1}, {6, 6, 2, 0},
		{6, 7, 1, 0}, {6, 7, 2, 1}, {6, 30, 3, 0}, {6, 30, 1, 0},
	} {
		if got := impl.CountDeep(c[0], c[1], c[2]); got != c[3] {
			t.Errorf("CountDeep(%d, %d, %d) = %d, not %d", c[0], c[1], c[2], got, c[3])
		}
	}
}

func TestWhatIsNotCounted(t *testing.T) {
	check := func(wide, n int, depths []int) {
		for _, depth := range depths {
			if got := impl.CountDeep(wide, n, depth); got != -1 {
				t.Errorf("CountDeep(%d, %d, %d) = %d", wide, n, depth, got)
			}
		}
	}
	all := append(from(1, 8), noDepths...)
	for wide := impl.MinWide; wide <= impl.MaxWide; wide++ {
		for n := 0; n <= impl.MaxCount; n++ {
			check(wide, n, noDepths)
		}
		for _, n := range noCounted {
			check(wide, n, all)
			if got := impl.CountTrees(wide, n); got != -1 {
				t.Errorf("CountTrees(%d, %d) = %d", wide, n, got)
			}
		}
	}
	for _, wide := range noWides {
		for _, n := range append(from(0, 31), noCounted...) {
			check(wide, n, all)
			if got := impl.CountTrees(wide, n); got != -1 {
				t.Errorf("CountTrees(%d, %d) = %d", wide, n, got)
			}
		}
	}
}

func TestWhatIsNotTold(t *testing.T) {
	check := func(wide, n int) {
		if got, ok := impl.AllTrees(wide, n); len(got) != 0 || ok {
			t.Errorf("AllTrees(%d, %d) = %v, %v", wide, n, got, ok)
		}
		for _, i := range []int{math.MinInt, -1, 0, 1, 2, 30, math.MaxInt} {
			if got, ok := impl.TreeAt(wide, n, i); !isZero(got) || ok {
				t.Errorf("TreeAt(%d, %d, %d) = %s, %v", wide, n, i, impl.FormatTree(got), ok)
			}
		}
	}
	for wide := impl.MinWide; wide <= impl.MaxWide; wide++ {
		for _, n := range noTold {
			check(wide, n)
		}
	}
	for _, wide := range noWides {
		for _, n := range append(from(0, 10), noTold...) {
			check(wide, n)
		}
	}
}

// checkPlaces checks the shape of a tree that is valid for some width, and for each width its place among all trees that are told.
func checkPlaces(t *testing.T, x impl.Tree, told [][][]impl.Tree) {
	t.Helper()
	want, n := numberedFrom(x, 0), len(impl.KeysOf(x))
	if got, ok := impl.ShapeOf(x); !ok || !impl.SameTree(got, want) {
		t.Errorf("ShapeOf(%s) = %s, %v", impl.FormatTree(x), impl.FormatTree(got), ok)
	}
	for wide := impl.MinWide; wide <= impl.MaxWide; wide++ {
		place := -1
		if n <= impl.MaxTold {
			place = slices.IndexFunc(told[n][wide], func(y impl.Tree) bool { return impl.SameTree(y, want) })
		}
		if got := impl.NumberOf(x, wide); got != place {
			t.Errorf("NumberOf(%s, %d) = %d, not %d", impl.FormatTree(x), wide, got, place)
		}
	}
	for _, wide := range noWides {
		if got := impl.NumberOf(x, wide); got != -1 {
			t.Errorf("NumberOf(%s, %d) = %d", impl.FormatTree(x), wide, got)
		}
	}
}

// toldOfAllSizes returns what toldTrees does for all numbers of keys with which trees are told.
func toldOfAllSizes() [][][]impl.Tree {
	var told [][][]impl.Tree
	for n := 0; n <= impl.MaxTold; n++ {
		told = append(told, toldTrees(n))
	}
	return told
}

func TestPlacesOfAllTreesThatAreTold(t *testing.T) {
	told := toldOfAllSizes()
	ways := []func(int) int{plain, odd, thirds, late, func(i int) int { return i * i }, func(i int) int { return 99 - (9-i)*(10-i)/2 }}
	for n := range told {
		for wide := impl.MinWide; wide <= impl.MaxWide; wide++ {
			for at, x := range told[n][wide] {
				for _, way := range ways {
					y := keyed(x, way)
					checkPlaces(t, y, told)
					if got := impl.NumberOf(y, wide); got != at {
						t.Errorf("NumberOf(%s, %d) = %d, not %d", impl.FormatTree(y), wide, got, at)
					}
				}
			}
		}
	}
}

func TestPlacesOfSomeTrees(t *testing.T) {
	told := toldOfAllSizes()
	for _, x := range append(someTrees(t), smallTrees(4)...) {
		checkPlaces(t, x, told)
	}
	for wide := impl.MinWide; wide <= impl.MaxWide; wide++ {
		for _, x := range insertedTrees(t, wide, append(from(0, 20), 30, 50, 80, 99, 100)) {
			checkPlaces(t, x, told)
		}
	}
}

func TestPlacesByHand(t *testing.T) {
	for _, c := range []struct {
		text, shape string
		places      [5]int
	}{
		{"()", "()", [5]int{0, 0, 0, 0, 0}},
		{"(99)", "(0)", [5]int{0, 0, 0, 0, 0}},
		{"(7 9)", "(0 1)", [5]int{0, 0, 0, 0, 0}},
		{"(7 9 98)", "(0 1 2)", [5]int{-1, 0, 0, 0, 0}},
		{"((7) 9 (98))", "((0) 1 (2))", [5]int{0, 1, -1, -1, -1}},
		{"((1 2) 4 (6))", "((0 1) 2 (3))", [5]int{1, 1, -1, -1, -1}},
		{"((10 20) 30 (40 50))", "((0 1) 2 (3 4))", [5]int{0, 1, 0, 1, -1}},
		{"((10) 20 (30) 40 (50))", "((0) 1 (2) 3 (4))", [5]int{1, 3, -1, -1, -1}},
		{"((1 2 3) 4 (6 7 8 9 10))", "((0 1 2) 3 (4 5 6 7 8))", [5]int{-1, -1, -1, 0, 0}},
		{"((1 2 3 4 6) 7 (8 9 10))", "((0 1 2 3 4) 5 (6 7 8))", [5]int{-1, -1, -1, 2, 2}},
		{"((1 2) 3 (4 6) 7 (8 9))", "((0 1) 2 (3 4) 5 (6 7))", [5]int{0, 3, 2, 4, -1}},
		{"(((1) 2 (3) 4 (6)) 7 ((8) 9 (11)))", "(((0) 1 (2) 3 (4)) 5 ((6) 7 (8)))", [5]int{7, 27, -1, -1, -1}},
		{"((1 2 3 4) 5 (6 7 8 9 10))", "((0 1 2 3) 4 (5 6 7 8 9))", [5]int{-1, -1, -1, -1, -1}},
		{"(((1) 2 (3) 4 (6)) 7 ((8) 9 (11 99)))", "(((0) 1 (2) 3 (4)) 5 ((6) 7 (8 9)))", [5]int{-1, -1, -1, -1, -1}},
	} {
		x := parsed(t, c.text)
		if got, ok := impl.ShapeOf(x); impl.FormatTree(got) != c.shape || !ok {
			t.Errorf("ShapeOf(%s) = %s, %v", c.text, impl.FormatTree(got), ok)
		}
		for at, want := range c.places {
			if got := impl.NumberOf(x, impl.MinWide+at); got != want {
				t.Errorf("NumberOf(%s, %d) = %d, not %d", c.text, impl.MinWide+at, got, want)
			}
		}
	}
}

func TestTreesOfNoWidthHaveNoShape(t *testing.T) {
	for at, x := range noTrees(t) {
		if got, ok := impl.ShapeOf(x); !isZero(got) || ok {
			t.Errorf("tree %d has the shape %s, %v", at, impl.FormatTree(got), ok)
		}
		for _, wide := range append(from(1, 7), noWides...) {
			if got := impl.NumberOf(x, wide); got != -1 {
				t.Errorf("tree %d has the place %d with the width %d", at, got, wide)
			}
		}
	}
}

func TestTreesWithAKeyMoreOrLessAreAmongAll(t *testing.T) {
	for wide := impl.MinWide; wide <= impl.MaxWide; wide++ {
		for n := range impl.MaxTold {
			for i := range impl.CountTrees(wide, n) {
				x, _ := impl.TreeAt(wide, n, i)
				x = keyed(x, odd)
				for key := 0; key <= 2*n; key += 2 {
					more, ok := impl.InsertKey(x, wide, key)
					place := impl.NumberOf(more, wide)
					shape, _ := impl.ShapeOf(more)
					if told, isTold := impl.TreeAt(wide, n+1, place); !ok || !isTold || !impl.SameTree(told, shape) {
						t.Errorf("%s with %d has the place %d with the width %d", impl.FormatTree(x), key, place, wide)
					}
					less, ok := impl.DeleteKey(more, wide, key)
					if back := impl.NumberOf(less, wide); !ok || back < 0 || back >= impl.CountTrees(wide, n) {
						t.Errorf("%s without %d has the place %d with the width %d", impl.FormatTree(more), key, back, wide)
					}
				}
			}
		}
	}
}

func TestAllTreesShareNoMemory(t *testing.T) {
	for wide := impl.MinWide; wide <= impl.MaxWide; wide++ {
		for n := 0; n <= impl.MaxTold; n++ {
			texts, _ := impl.AllTrees(wide, n)
			want := slices.Clone(texts)
			other, _ := impl.AllTrees(wide, n)
			clear(other[:cap(other)])
			if again, _ := impl.AllTrees(wide, n); !slices.Equal(texts, want) || !slices.Equal(again, want) {
				t.Errorf("AllTrees(%d, %d) shares memory with another result", wide, n)
			}
			for i := range want {
				checkOwnMemory(t, func() impl.Tree { x, _ := impl.TreeAt(wide, n, i); return x })
			}
		}
	}
	for _, x := range someTrees(t) {
		y := roomy(x)
		before := withRoom(y)
		checkOwnMemory(t, func() impl.Tree { shape, _ := impl.ShapeOf(y); return shape })
		for wide := range impl.MaxWide + 2 {
			impl.NumberOf(y, wide)
		}
		if !reflect.DeepEqual(withRoom(y), before) {
			t.Errorf("%s has changed", impl.FormatTree(x))
		}
	}
}

func TestAllTreesOfManyCallsAtOnce(t *testing.T) {
	told := toldTrees(9)
	var group sync.WaitGroup
	for range 20 {
		group.Go(func() {
			for wide := impl.MinWide; wide <= impl.MaxWide; wide++ {
				checkTold(t, wide, 9, told[wide])
				for at, x := range told[wide] {
					if got := impl.NumberOf(x, wide); got != at {
						t.Errorf("NumberOf(%s, %d) = %d, not %d", impl.FormatTree(x), wide, got, at)
					}
				}
			}
		})
	}
	group.Wait()
}
