package tests

import (
	"math"
	"reflect"
	"slices"
	"testing"

	"loop.example/fulltrees/impl"
)

// sharedOut returns a node whose kids at and at+1, with the key between them, are dealt out anew, so that the first one has count keys.
func sharedOut(x impl.Tree, at, count int) impl.Tree {
	all := molten(x, at)
	left, right := leaf(all.Keys[:count]...), leaf(all.Keys[count+1:]...)
	if len(all.Kids) > 0 {
		left.Kids, right.Kids = all.Kids[:count+1], all.Kids[count+1:]
	}
	y := copyOf(x)
	y.Keys[at], y.Kids[at], y.Kids[at+1] = all.Keys[count], left, right
	return y
}

// molten returns what the kids at and at+1 of a node are as one node, with the key between them.
func molten(x impl.Tree, at int) impl.Tree {
	left, right := x.Kids[at], x.Kids[at+1]
	return over(slices.Concat(left.Keys, x.Keys[at:at+1], right.Keys), slices.Concat(left.Kids, right.Kids)...)
}

// mended says in other words what becomes of a node whose kid at has had a key taken away, and what is repaired for that.
func mended(x impl.Tree, wide, at int) (impl.Tree, impl.Repair) {
	half, count := wide/2, len(x.Kids[at].Keys)
	if count >= half {
		return x, impl.Repair{}
	}
	if at > 0 {
		if ahead := len(x.Kids[at-1].Keys); ahead > half {
			return sharedOut(x, at-1, ahead-1), impl.Repair{Borrows: 1}
		}
	}
	if at+1 < len(x.Kids) && len(x.Kids[at+1].Keys) > half {
		return sharedOut(x, at, count+1), impl.Repair{Borrows: 1}
	}
	at = max(at-1, 0)
	y := copyOf(x)
	y.Keys = slices.Delete(y.Keys, at, at+1)
	y.Kids = slices.Replace(y.Kids, at, at+2, molten(x, at))
	return y, impl.Repair{Joins: 1}
}

// takenOut says in other words what becomes of a node by a key that it or a node below it has.
func takenOut(x impl.Tree, wide, key int) (impl.Tree, impl.Repair) {
	y := copyOf(x)
	at, here := slices.BinarySearch(y.Keys, key)
	if len(y.Kids) == 0 {
		y.Keys = slices.Delete(y.Keys, at, at+1)
		return y, impl.Repair{}
	}
	if here {
		key = slices.Max(impl.KeysOf(y.Kids[at]))
		y.Keys[at] = key
	}
	kid, below := takenOut(y.Kids[at], wide, key)
	y.Kids[at] = kid
	y, above := mended(y, wide, at)
	return y, impl.Repair{Borrows: below.Borrows + above.Borrows, Joins: below.Joins + above.Joins}
}

// withoutKey says in other words which tree a key less makes of one that has it, and what is repaired for that.
func withoutKey(x impl.Tree, wide, key int) (impl.Tree, impl.Repair) {
	y, r := takenOut(x, wide, key)
	if len(y.Keys) == 0 && len(y.Kids) == 1 {
		r.Shrinks = true
		return y.Kids[0], r
	}
	return y, r
}

// checkNotDeleted checks that a key is not deleted.
func checkNotDeleted(t *testing.T, x impl.Tree, wide, key int) {
	t.Helper()
	if y, ok := impl.DeleteKey(x, wide, key); ok || !isZero(y) {
		t.Errorf("%d is deleted with the width %d", key, wide)
	}
	if r, ok := impl.RepairsBy(x, wide, key); ok || r != (impl.Repair{}) {
		t.Errorf("RepairsBy(%d, %d) = %v, %v", wide, key, r, ok)
	}
	if k, ok := impl.StandIn(x, wide, key); ok || k != 0 {
		t.Errorf("StandIn(%d, %d) = %d, %v", wide, key, k, ok)
	}
}

// checkStandIn checks which key stands in for one that a valid tree has.
func checkStandIn(t *testing.T, x impl.Tree, wide, key int) {
	t.Helper()
	path, _ := walkTo(x, key)
	want, inner := 0, len(path)+1 < impl.DepthOf(x)
	if inner {
		keys := impl.KeysOf(x)
		want = keys[slices.Index(keys, key)-1]
	}
	if got, ok := impl.StandIn(x, wide, key); got != want || ok != inner {
		t.Errorf("StandIn(%s, %d, %d) = %d, %v", impl.FormatTree(x), wide, key, got, ok)
	}
}

// checkDeleted checks what becomes of a valid tree by a number: a tree with one key less, or none if it does not have it.
func checkDeleted(t *testing.T, x impl.Tree, wide, key int) {
	t.Helper()
	keys := impl.KeysOf(x)
	at, has := slices.BinarySearch(keys, key)
	if !has {
		checkNotDeleted(t, x, wide, key)
		return
	}
	text := impl.FormatTree(x)
	want, repair := withoutKey(x, wide, key)
	got, ok := impl.DeleteKey(x, wide, key)
	if !ok || !impl.SameTree(got, want) {
		t.Errorf("DeleteKey(%s, %d, %d) = %s, %v, not %s", text, wide, key, impl.FormatTree(got), ok, impl.FormatTree(want))
	}
	if !impl.TreeValid(got, wide) || !slices.Equal(impl.KeysOf(got), slices.Delete(keys, at, at+1)) {
		t.Errorf("DeleteKey(%s, %d, %d) = %s, which is no such tree", text, wide, key, impl.FormatTree(got))
	}
	r, ok := impl.RepairsBy(x, wide, key)
	if !ok || r != repair || r.Shrinks != (impl.DepthOf(got) < impl.DepthOf(x)) {
		t.Errorf("RepairsBy(%s, %d, %d) = %v, %v, not %v", text, wide, key, r, ok, repair)
	}
	if joined := impl.CountNodes(x) - impl.CountNodes(got); ok && r.Shrinks != (joined == r.Joins+1) {
		t.Errorf("RepairsBy(%s, %d, %d) = %v, and there are %d nodes less", text, wide, key, r, joined)
	}
	checkStandIn(t, x, wide, key)
}

// checkAllDeleted checks what becomes of a valid tree by each of its keys.
func checkAllDeleted(t *testing.T, x impl.Tree, wide int) {
	t.Helper()
	if !impl.TreeValid(x, wide) {
		t.Fatalf("%s is not valid for %d", impl.FormatTree(x), wide)
	}
	for _, key := range impl.KeysOf(x) {
		checkDeleted(t, x, wide, key)
	}
}

func TestDeletingFromAllSmallTrees(t *testing.T) {
	deleted := 0
	for _, x := range smallTrees(5) {
		last := 2*len(impl.KeysOf(x)) + 1
		for wide := impl.MinWide; wide <= impl.MaxWide; wide++ {
			for key := -1; key <= last; key++ {
				if !impl.TreeValid(x, wide) {
					checkNotDeleted(t, x, wide, key)
					continue
				}
				checkDeleted(t, x, wide, key)
				deleted++
			}
		}
	}
	if deleted < 1000 {
		t.Errorf("only %d keys are deleted", deleted)
	}
}

func TestDeletingFromTreesOfManyShapes(t *testing.T) {
	for _, x := range someTrees(t) {
		for wide := impl.MinWide; wide <= impl.MaxWide; wide++ {
			for _, key := range numbers() {
				if impl.TreeValid(x, wide) {
					checkDeleted(t, x, wide, key)
				} else {
					checkNotDeleted(t, x, wide, key)
				}
			}
		}
	}
}

// choices returns all lists of so many numbers from low to high.
func choices(low, high, count int) [][]int {
	if count == 0 {
		return [][]int{nil}
	}
	var all [][]int
	for _, list := range choices(low, high, count-1) {
		for number := low; number <= high; number++ {
			all = append(all, append(slices.Clone(list), number))
		}
	}
	return all
}

// overLeaves returns a tree two nodes deep whose leaves have so many keys.
func overLeaves(counts []int) impl.Tree {
	return grown(2, growth{byTurns(counts...).leaf, func() int { return len(counts) - 1 }}, plain)
}

// overNodes returns a tree three nodes deep whose kids have so many keys, and their leaves all the same number.
func overNodes(counts []int, leafKeys int) impl.Tree {
	// A kid that is grown first is asked for before the tree itself.
	order := slices.Insert(slices.Clone(counts), 1, len(counts)-1)
	return grown(3, growth{func() int { return leafKeys }, byTurns(order...).inner}, plain)
}

func TestDeletingFromAllTreesOfTwoLevels(t *testing.T) {
	for _, c := range []struct{ wide, mostKids int }{{2, 3}, {3, 4}, {4, 5}, {5, 4}, {6, 4}} {
		for kids := 2; kids <= c.mostKids; kids++ {
			for _, counts := range choices(c.wide/2, c.wide, kids) {
				checkAllDeleted(t, overLeaves(counts), c.wide)
			}
		}
	}
}

func TestDeletingFromAllTreesOfThreeLevels(t *testing.T) {
	for _, c := range []struct{ wide, mostKids int }{{2, 3}, {3, 4}, {4, 4}, {5, 4}, {6, 3}} {
		for kids := 2; kids <= c.mostKids; kids++ {
			for _, counts := range choices(c.wide/2, c.wide, kids) {
				checkAllDeleted(t, overNodes(counts, c.wide/2), c.wide)
			}
		}
	}
	for kids := 2; kids <= 3; kids++ {
		for _, counts := range choices(1, 2, kids) {
			checkAllDeleted(t, overNodes(counts, 2), 2)
			checkAllDeleted(t, overNodes(counts, 2), 3)
		}
	}
}

// checkCut checks what a key deleted from a tree of a text leads to.
func checkCut(t *testing.T, text string, wide, key int, want, repair string) {
	t.Helper()
	x := parsed(t, text)
	got, one := impl.DeleteKey(x, wide, key)
	r, two := impl.RepairsBy(x, wide, key)
	if !one || !two || impl.FormatTree(got) != want || impl.FormatRepair(r) != repair {
		t.Errorf("DeleteKey(%s, %d, %d) = %s, %v, and %q, %v", text, wide, key, impl.FormatTree(got), one, impl.FormatRepair(r), two)
	}
	checkDeleted(t, x, wide, key)
}

func TestDeletingWithoutRepair(t *testing.T) {
	checkCut(t, "(5)", 2, 5, "()", "0 0")
	checkCut(t, "(0 99)", 6, 99, "(0)", "0 0")
	checkCut(t, "((1 2) 3 (4 5))", 2, 2, "((1) 3 (4 5))", "0 0")
	checkCut(t, "((1 2) 3 (4 5))", 2, 3, "((1) 2 (4 5))", "0 0")
	checkCut(t, "((1 2 3) 4 (5 6))", 5, 1, "((2 3) 4 (5 6))", "0 0")
	checkCut(t, "(((0) 1 (2 3)) 4 ((5) 6 (7)))", 2, 4, "(((0) 1 (2)) 3 ((5) 6 (7)))", "0 0")
}

func TestBorrowing(t *testing.T) {
	checkCut(t, "((1 2) 3 (4))", 2, 4, "((1) 2 (3))", "1 0")
	checkCut(t, "((1) 2 (3 4))", 2, 1, "((2) 3 (4))", "1 0")
	checkCut(t, "((1) 2 (3 4))", 2, 2, "((1) 3 (4))", "1 0")
	checkCut(t, "((1 2) 3 (4))", 3, 4, "((1) 2 (3))", "1 0")
	checkCut(t, "((1 2 3) 4 (5 6))", 4, 5, "((1 2) 3 (4 6))", "1 0")
	checkCut(t, "((1 2) 3 (4 5 6))", 5, 1, "((2 3) 4 (5 6))", "1 0")
	checkCut(t, "((1 2 3 4 5 6) 7 (8 9 10))", 6, 9, "((1 2 3 4 5) 6 (7 8 10))", "1 0")
	checkCut(t, "(((0) 1 (2) 3 (4)) 5 ((6) 7 (8)))", 2, 8, "(((0) 1 (2)) 3 ((4) 5 (6 7)))", "1 1")
	checkCut(t, "(((0) 1 (2)) 3 ((4) 5 (6) 7 (8)))", 2, 2, "(((0 1) 3 (4)) 5 ((6) 7 (8)))", "1 1")
	checkCut(t, "(((0) 1 (2)) 3 ((4) 5 (6) 7 (8)))", 2, 3, "(((0 1) 2 (4)) 5 ((6) 7 (8)))", "1 1")
}

func TestBorrowingFromBothSides(t *testing.T) {
	checkCut(t, "((1 2) 3 (4) 5 (6 7))", 2, 4, "((1) 2 (3) 5 (6 7))", "1 0")
	checkCut(t, "((1) 3 (4) 5 (6 7))", 2, 4, "((1) 3 (5) 6 (7))", "1 0")
	checkCut(t, "((1 2) 3 (4) 5 (6))", 2, 4, "((1) 2 (3) 5 (6))", "1 0")
	checkCut(t, "((1 2) 3 (4 5) 6 (7))", 2, 7, "((1 2) 3 (4) 5 (6))", "1 0")
	checkCut(t, "((1) 2 (3) 4 (5 6))", 2, 1, "((2 3) 4 (5 6))", "0 1")
	checkCut(t, "((1 2) 3 (4) 5 (6))", 2, 6, "((1 2) 3 (4 5))", "0 1")
	checkCut(t, "((0 1 2) 3 (4 5) 6 (7 8 9 10))", 4, 5, "((0 1) 2 (3 4) 6 (7 8 9 10))", "1 0")
	checkCut(t, "((0 1) 3 (4 5) 6 (7 8 9 10))", 4, 5, "((0 1) 3 (4 6) 7 (8 9 10))", "1 0")
	checkCut(t, "(((0) 1 (2) 3 (4)) 5 ((6) 7 (8)) 9 ((10) 11 (12) 13 (14)))", 2, 6,
		"(((0) 1 (2)) 3 ((4) 5 (7 8)) 9 ((10) 11 (12) 13 (14)))", "1 1")
	checkCut(t, "(((0) 1 (2)) 5 ((6) 7 (8)) 9 ((10) 11 (12) 13 (14)))", 2, 8,
		"(((0) 1 (2)) 5 ((6 7) 9 (10)) 11 ((12) 13 (14)))", "1 1")
	checkCut(t, "(((0) 1 (2)) 5 ((6) 7 (8)) 9 ((10) 11 (12)))", 2, 8,
		"(((0) 1 (2) 5 (6 7)) 9 ((10) 11 (12)))", "0 2")
}

func TestJoinsUpToTheRoot(t *testing.T) {
	checkCut(t, "((1) 2 (3))", 2, 1, "(2 3)", "0 1 shrinks")
	checkCut(t, "((1) 2 (3))", 2, 2, "(1 3)", "0 1 shrinks")
	checkCut(t, "((1) 2 (3))", 3, 3, "(1 2)", "0 1 shrinks")
	checkCut(t, "((1) 3 (4) 5 (6))", 2, 4, "((1 3) 5 (6))", "0 1")
	checkCut(t, "((1) 3 (4) 5 (6))", 2, 1, "((3 4) 5 (6))", "0 1")
	checkCut(t, "((1 2) 3 (4 5))", 4, 3, "(1 2 4 5)", "0 1 shrinks")
	checkCut(t, "((1 2) 3 (4 5))", 5, 5, "(1 2 3 4)", "0 1 shrinks")
	checkCut(t, "((1 2 3) 4 (5 6 7))", 6, 1, "(2 3 4 5 6 7)", "0 1 shrinks")
	checkCut(t, "(((1) 2 (3)) 4 ((5) 6 (7)))", 2, 7, "((1) 2 (3) 4 (5 6))", "0 2 shrinks")
	const deep = "((((0) 1 (2)) 3 ((4) 5 (6))) 7 (((8) 9 (10)) 11 ((12) 13 (14))))"
	checkCut(t, deep, 2, 14, "(((0) 1 (2)) 3 ((4) 5 (6)) 7 ((8) 9 (10) 11 (12 13)))", "0 3 shrinks")
	checkCut(t, deep, 2, 7, "(((0) 1 (2) 3 (4 5)) 6 ((8) 9 (10)) 11 ((12) 13 (14)))", "0 3 shrinks")
	checkCut(t, deep, 3, 0, "(((1 2) 3 (4) 5 (6)) 7 ((8) 9 (10)) 11 ((12) 13 (14)))", "0 3 shrinks")
}

func TestDeletingKeysOfInnerNodes(t *testing.T) {
	for _, c := range []struct {
		text string
		wide int
		key  int
		want int
	}{
		{"((1 2) 4 (6) 8 (9))", 2, 4, 2},
		{"((1 2) 4 (6) 8 (9))", 3, 8, 6},
		{"((0) 99 (99))", 2, 99, -1},
		{"(((0) 1 (2)) 3 ((4) 5 (6)))", 2, 3, 2},
		{"(((0) 1 (2)) 3 ((4) 5 (6)))", 2, 1, 0},
		{"(((0) 1 (2)) 3 ((4) 5 (6)))", 2, 5, 4},
		{"(((0) 1 (2)) 3 ((4) 5 (6)))", 2, 2, -1},
		{"(((0) 1 (2)) 3 ((4) 5 (6)))", 2, 7, -1},
		{"(((0) 1 (2)) 3 ((4) 5 (6)))", 4, 3, -1},
		{"((((0) 1 (2)) 3 ((4) 5 (6 8))) 9 (((10) 11 (12)) 13 ((14) 15 (16))))", 2, 9, 8},
	} {
		got, ok := impl.StandIn(parsed(t, c.text), c.wide, c.key)
		if ok != (c.want >= 0) || got != max(c.want, 0) {
			t.Errorf("StandIn(%s, %d, %d) = %d, %v", c.text, c.wide, c.key, got, ok)
		}
	}
}

// checkCutList checks what becomes of a valid tree by a list of keys, and of what one behind the other leads to.
func checkCutList(t *testing.T, x impl.Tree, wide int, keys []int) {
	t.Helper()
	want, sum := copyOf(x), impl.Repair{}
	for _, key := range keys {
		if !slices.Contains(impl.KeysOf(want), key) {
			continue
		}
		checkDeleted(t, want, wide, key)
		y, r := withoutKey(want, wide, key)
		want, sum = y, impl.Repair{Borrows: sum.Borrows + r.Borrows, Joins: sum.Joins + r.Joins, Shrinks: sum.Shrinks || r.Shrinks}
	}
	if got, ok := impl.DeleteAll(x, wide, keys); !ok || !impl.SameTree(got, want) || !impl.TreeValid(got, wide) {
		t.Errorf("DeleteAll(%s, %d, %v) = %s, %v", impl.FormatTree(x), wide, keys, impl.FormatTree(got), ok)
	}
	if got, ok := impl.RepairsOf(x, wide, keys); !ok || got != sum {
		t.Errorf("RepairsOf(%s, %d, %v) = %v, %v, not %v", impl.FormatTree(x), wide, keys, got, ok, sum)
	}
	left := slices.DeleteFunc(impl.KeysOf(x), func(key int) bool { return slices.Contains(keys, key) })
	if !slices.Equal(impl.KeysOf(want), left) {
		t.Errorf("DeleteAll(%s, %d, %v) has the keys %v", impl.FormatTree(x), wide, keys, impl.KeysOf(want))
	}
}

func TestDeletingLists(t *testing.T) {
	for wide := impl.MinWide; wide <= impl.MaxWide; wide++ {
		for at, keys := range someLists() {
			x, ok := impl.InsertAll(wide, scrambled(37, at))
			if !ok {
				t.Fatal("there is no tree of all keys")
			}
			checkCutList(t, x, wide, keys)
			checkCutList(t, x, wide, keys[:len(keys)/3])
		}
	}
}

func TestDeletingListsFromTreesOfManyShapes(t *testing.T) {
	for _, x := range someTrees(t) {
		for wide := impl.MinWide; wide <= impl.MaxWide; wide++ {
			if impl.TreeValid(x, wide) {
				checkCutList(t, x, wide, scrambled(41, 13))
				checkCutList(t, x, wide, scrambled(7, 3)[:50])
			}
		}
	}
}

func TestDeletingKeysOneBehindTheOther(t *testing.T) {
	const deep = "((((0) 1 (2)) 3 ((4) 5 (6))) 7 (((8) 9 (10)) 11 ((12) 13 (14))))"
	for _, c := range []struct {
		text   string
		wide   int
		keys   []int
		want   string
		repair string
	}{
		{"((1) 2 (3))", 2, nil, "((1) 2 (3))", "0 0"},
		{"((1) 2 (3))", 2, []int{0, 9, 99}, "((1) 2 (3))", "0 0"},
		{"((1) 2 (3))", 2, []int{2, 2, 2}, "(1 3)", "0 1 shrinks"},
		{"((1) 2 (3 4))", 2, []int{1, 1, 3}, "(2 4)", "1 1 shrinks"},
		{"((1 2) 3 (4))", 2, []int{4, 1}, "(2 3)", "1 1 shrinks"},
		{"()", 6, []int{1, 2}, "()", "0 0"},
		{"(1 2 3 4 5 6)", 6, []int{6, 5, 4, 3, 2, 1, 0}, "()", "0 0"},
		{deep, 2, []int{14, 13, 12}, "(((0) 1 (2)) 3 ((4) 5 (6)) 7 ((8) 9 (10 11)))", "0 4 shrinks"},
		{deep, 2, []int{7, 6}, "(((0) 1 (2) 3 (4)) 5 ((8) 9 (10)) 11 ((12) 13 (14)))", "0 3 shrinks"},
		{deep, 2, from(0, 15), "()", "0 11 shrinks"},
	} {
		x := parsed(t, c.text)
		got, one := impl.DeleteAll(x, c.wide, c.keys)
		r, two := impl.RepairsOf(x, c.wide, c.keys)
		if !one || !two || impl.FormatTree(got) != c.want || impl.FormatRepair(r) != c.repair {
			t.Errorf("DeleteAll(%s, %d, %v) = %s, %v, and %q, %v", c.text, c.wide, c.keys, impl.FormatTree(got), one, impl.FormatRepair(r), two)
		}
		checkCutList(t, x, c.wide, c.keys)
	}
}

// checkNoCutList checks that a list is not deleted.
func checkNoCutList(t *testing.T, x impl.Tree, wide int, keys []int) {
	t.Helper()
	if y, ok := impl.DeleteAll(x, wide, keys); ok || !isZero(y) {
		t.Errorf("%v is deleted with the width %d", keys, wide)
	}
	if r, ok := impl.RepairsOf(x, wide, keys); ok || r != (impl.Repair{}) {
		t.Errorf("RepairsOf(%d, %v) = %v, %v", wide, keys, r, ok)
	}
}

func TestListsThatAreNotDeleted(t *testing.T) {
	for _, x := range []impl.Tree{leaf(), leaf(1), parsed(t, "((1 2) 4 (6) 8 (9))")} {
		for _, key := range noKeys {
			checkNoCutList(t, x, 2, []int{key})
			checkNoCutList(t, x, 2, []int{1, key})
			checkNoCutList(t, x, 2, []int{key, 1, 4})
			checkNoCutList(t, x, 2, append(make([]int, 199), key))
		}
		checkNoCutList(t, x, 2, make([]int, 201))
		checkNoCutList(t, x, 3, slices.Concat(from(0, 100), from(0, 100), []int{5}))
		checkNoCutList(t, x, 2, make([]int, 100000))
		checkCutList(t, x, 2, make([]int, 200))
		checkCutList(t, x, 2, slices.Concat(from(0, 100), from(0, 100)))
	}
}

func TestDeletingWithOtherWidths(t *testing.T) {
	x := parsed(t, "((1 2) 4 (6) 8 (9))")
	for _, wide := range append([]int{4, 5, 6}, noWides...) {
		for _, key := range []int{1, 4, 5, 9, 100} {
			checkNotDeleted(t, x, wide, key)
		}
		checkNoCutList(t, x, wide, nil)
		checkNoCutList(t, x, wide, []int{1, 4})
		checkNoPop(t, x, wide)
	}
	for _, wide := range noWides {
		checkNotDeleted(t, leaf(1), wide, 1)
		checkNoCutList(t, leaf(1), wide, []int{1})
		checkNoPop(t, leaf(1), wide)
	}
}

func TestDeletingFromTreesOfNoWidth(t *testing.T) {
	for _, x := range noTrees(t) {
		for wide := -1; wide <= 8; wide++ {
			for _, key := range []int{-1, 0, 1, 2, 3, 5, 100} {
				checkNotDeleted(t, x, wide, key)
			}
			checkNoCutList(t, x, wide, nil)
			checkNoCutList(t, x, wide, []int{1, 2, 3})
			checkNoPop(t, x, wide)
		}
	}
}

func TestDeletingWhatIsNotThere(t *testing.T) {
	x := parsed(t, "((1 2) 4 (6) 8 (9))")
	for _, key := range append([]int{0, 3, 5, 7, 10, 99}, noKeys...) {
		checkNotDeleted(t, x, 2, key)
		checkNotDeleted(t, x, 3, key)
		checkNotDeleted(t, leaf(), 2, key)
	}
	for wide := impl.MinWide; wide <= impl.MaxWide; wide++ {
		checkNotDeleted(t, impl.Tree{Keys: []int{}, Kids: []impl.Tree{}}, wide, 0)
		checkCutList(t, leaf(), wide, from(0, 100))
	}
}

// checkNoPop checks that no least key is told of a tree.
func checkNoPop(t *testing.T, x impl.Tree, wide int) {
	t.Helper()
	if key, y, ok := impl.PopLeast(x, wide); ok || key != 0 || !isZero(y) {
		t.Errorf("PopLeast(%d) = %d, %v", wide, key, ok)
	}
}

func TestPopLeast(t *testing.T) {
	for _, x := range someTrees(t) {
		for wide := impl.MinWide; wide <= impl.MaxWide; wide++ {
			if !impl.TreeValid(x, wide) {
				checkNoPop(t, x, wide)
				continue
			}
			left := copyOf(x)
			for _, least := range impl.KeysOf(x) {
				want, _ := withoutKey(left, wide, least)
				key, y, ok := impl.PopLeast(left, wide)
				if key != least || !ok || !impl.SameTree(y, want) {
					t.Fatalf("PopLeast(%s, %d) = %d, %s, %v", impl.FormatTree(left), wide, key, impl.FormatTree(y), ok)
				}
				left = y
			}
			checkNoPop(t, left, wide)
		}
	}
	if key, y, ok := impl.PopLeast(leaf(0), 2); key != 0 || !ok || !isZero(y) {
		t.Errorf("PopLeast((0)) = %d, %s, %v", key, impl.FormatTree(y), ok)
	}
}

func TestFormatRepair(t *testing.T) {
	for _, c := range []struct {
		x    impl.Repair
		want string
	}{
		{impl.Repair{}, "0 0"},
		{impl.Repair{Shrinks: true}, "0 0 shrinks"},
		{impl.Repair{Borrows: 1}, "1 0"},
		{impl.Repair{Joins: 2, Shrinks: true}, "0 2 shrinks"},
		{impl.Repair{Borrows: 12, Joins: 305, Shrinks: true}, "12 305 shrinks"},
		{impl.Repair{Borrows: -1, Joins: -20}, "-1 -20"},
		{impl.Repair{Borrows: math.MinInt, Joins: math.MaxInt}, "-9223372036854775808 9223372036854775807"},
	} {
		if got := impl.FormatRepair(c.x); got != c.want {
			t.Errorf("FormatRepair(%v) = %q", c.x, got)
		}
	}
}

func TestTreesWithAKeyLessShareNoMemory(t *testing.T) {
	for _, text := range []string{
		"(5)", "(5 6)", "((1 2) 4 (6) 8 (9))", "((1) 4 (6 7) 8 (9))", "(((0) 1 (2) 3 (4)) 5 ((6) 7 (8)))", "(((0) 1 (2)) 3 ((4) 5 (6) 7 (8)))", "(((1) 2 (3)) 4 ((5) 6 (7)))",
	} {
		x := roomy(parsed(t, text))
		before := withRoom(x)
		for _, key := range impl.KeysOf(x) {
			checkOwnMemory(t, func() impl.Tree { y, _ := impl.DeleteKey(x, 2, key); return y })
			impl.RepairsBy(x, 2, key)
			impl.StandIn(x, 2, key)
		}
		checkOwnMemory(t, func() impl.Tree { _, y, _ := impl.PopLeast(x, 2); return y })
		if !reflect.DeepEqual(withRoom(x), before) {
			t.Errorf("%s has changed", text)
		}
	}
}

func TestTreesWithoutAListShareNoMemory(t *testing.T) {
	room := append(scrambled(37, 5), 61, 62, 63)
	before := slices.Clone(room)
	for wide := impl.MinWide; wide <= impl.MaxWide; wide++ {
		full, _ := impl.InsertAll(wide, from(0, 100))
		x := roomy(full)
		was := withRoom(x)
		for count := 0; count <= 100; count += 4 {
			checkOwnMemory(t, func() impl.Tree { y, _ := impl.DeleteAll(x, wide, room[:count]); return y })
			impl.RepairsOf(x, wide, room[:count])
		}
		if !reflect.DeepEqual(withRoom(x), was) {
			t.Errorf("the tree has changed with the width %d", wide)
		}
	}
	if !slices.Equal(room, before) {
		t.Errorf("the list has become %v", room)
	}
}

func TestDeletingWhatHasBeenInserted(t *testing.T) {
	for _, x := range someTrees(t) {
		for wide := impl.MinWide; wide <= impl.MaxWide; wide++ {
			for key := 0; key <= impl.MaxKey; key += 7 {
				y, ok := impl.InsertKey(x, wide, key)
				if !ok {
					continue
				}
				z, ok := impl.DeleteKey(y, wide, key)
				if !ok || !impl.TreeValid(z, wide) || !slices.Equal(impl.KeysOf(z), impl.KeysOf(x)) {
					t.Errorf("%d inserted into %s and deleted with the width %d leads to %s", key, impl.FormatTree(x), wide, impl.FormatTree(z))
				}
			}
		}
	}
}
