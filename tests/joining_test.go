package tests

import (
	"math"
	"reflect"
	"slices"
	"sync"
	"testing"

	"loop.example/fulltrees/impl"
)

// joinedNodes says in other words what becomes of two trees and a key between them: one node, or two and the key between these.
func joinedNodes(a impl.Tree, wide, key int, b impl.Tree) ([]impl.Tree, []int) {
	left, right := copyOf(a), copyOf(b)
	switch deeper := impl.DepthOf(a) - impl.DepthOf(b); {
	case deeper > 0:
		last := len(left.Kids) - 1
		nodes, between := joinedNodes(left.Kids[last], wide, key, right)
		return halved(over(slices.Concat(left.Keys, between), slices.Concat(left.Kids[:last], nodes)...), wide)
	case deeper < 0:
		nodes, between := joinedNodes(left, wide, key, right.Kids[0])
		return halved(over(slices.Concat(between, right.Keys), slices.Concat(nodes, right.Kids[1:])...), wide)
	}
	return halved(over(slices.Concat(left.Keys, []int{key}, right.Keys), slices.Concat(left.Kids, right.Kids)...), wide)
}

// joined says in other words which tree two trees and a key between them become.
func joined(a impl.Tree, wide, key int, b impl.Tree) impl.Tree {
	nodes, between := joinedNodes(a, wide, key, b)
	if len(nodes) == 1 {
		return nodes[0]
	}
	return over(between, nodes...)
}

// joinedTwo says in other words which tree two trees become.
func joinedTwo(a impl.Tree, wide int, b impl.Tree) impl.Tree {
	if len(b.Keys) == 0 {
		return a
	}
	least := slices.Min(impl.KeysOf(b))
	rest, _ := withoutKey(b, wide, least)
	return joined(a, wide, least, rest)
}

// partAhead returns the part of an inner node ahead of its key at a place.
func partAhead(x impl.Tree, at int) impl.Tree {
	if at == 0 {
		return x.Kids[0]
	}
	return over(x.Keys[:at], x.Kids[:at+1]...)
}

// partBehind returns the part of an inner node behind its key at a place.
func partBehind(x impl.Tree, at int) impl.Tree {
	if at == len(x.Keys)-1 {
		return x.Kids[at+1]
	}
	return over(x.Keys[at+1:], x.Kids[at+1:]...)
}

// lessPart says in other words what is made of a node by the keys that are less than a number.
func lessPart(x impl.Tree, wide, number int) impl.Tree {
	at, here := slices.BinarySearch(x.Keys, number)
	if len(x.Kids) == 0 {
		return leaf(x.Keys[:at]...)
	}
	if here {
		return partAhead(x, at)
	}
	part := lessPart(x.Kids[at], wide, number)
	if at > 0 {
		part = joined(partAhead(x, at-1), wide, x.Keys[at-1], part)
	}
	return part
}

// morePart says in other words what is made of a node by the keys that are greater than a number.
func morePart(x impl.Tree, wide, number int) impl.Tree {
	at, here := slices.BinarySearch(x.Keys, number)
	switch {
	case len(x.Kids) == 0 && here:
		return leaf(x.Keys[at+1:]...)
	case len(x.Kids) == 0:
		return leaf(x.Keys[at:]...)
	case here:
		return partBehind(x, at)
	}
	part := morePart(x.Kids[at], wide, number)
	if at < len(x.Keys) {
		part = joined(part, wide, x.Keys[at], partBehind(x, at))
	}
	return part
}

// checkMade checks that a function has made a tree, and that it is valid and has the keys told.
func checkMade(t *testing.T, name string, got impl.Tree, ok bool, wide int, want impl.Tree, keys []int) {
	t.Helper()
	if !ok || !impl.SameTree(got, want) {
		t.Errorf("%s with the width %d: %s, %v, not %s", name, wide, impl.FormatTree(got), ok, impl.FormatTree(want))
	}
	if !impl.TreeValid(got, wide) || !slices.Equal(impl.KeysOf(got), keys) {
		t.Errorf("%s with the width %d: %s, which is no such tree of %v", name, wide, impl.FormatTree(got), keys)
	}
}

// checkNone checks that a function has made no tree.
func checkNone(t *testing.T, name string, got impl.Tree, ok bool, wide int) {
	t.Helper()
	if ok || !isZero(got) {
		t.Errorf("%s with the width %d: %s, %v", name, wide, impl.FormatTree(got), ok)
	}
}

// checkJoined checks what two valid trees and a key between them become, and both without the key.
func checkJoined(t *testing.T, a impl.Tree, wide, key int, b impl.Tree) {
	t.Helper()
	name := impl.FormatTree(a) + " and " + impl.FormatTree(b)
	got, ok := impl.JoinTrees(a, wide, key, b)
	checkMade(t, "JoinTrees of "+name, got, ok, wide, joined(a, wide, key, b), slices.Concat(impl.KeysOf(a), []int{key}, impl.KeysOf(b)))
	got, ok = impl.JoinTwo(a, wide, b)
	checkMade(t, "JoinTwo of "+name, got, ok, wide, joinedTwo(a, wide, b), slices.Concat(impl.KeysOf(a), impl.KeysOf(b)))
}

// numberedFrom returns a tree whose keys in order are the numbers from first on.
func numberedFrom(x impl.Tree, first int) impl.Tree {
	next := first
	return renumbered(x, &next)
}

// renumbered returns a tree whose keys in order are the next numbers.
func renumbered(x impl.Tree, next *int) impl.Tree {
	y := copyOf(x)
	for i := range max(len(y.Keys), len(y.Kids)) {
		if i < len(y.Kids) {
			y.Kids[i] = renumbered(y.Kids[i], next)
		}
		if i < len(y.Keys) {
			y.Keys[i] = *next
			*next++
		}
	}
	return y
}

// validOnes returns those of some trees that are valid for a width.
func validOnes(trees []impl.Tree, wide int) []impl.Tree {
	return slices.DeleteFunc(slices.Clone(trees), func(x impl.Tree) bool { return !impl.TreeValid(x, wide) })
}

// insertedTrees returns trees that are valid for a width, with the numbers of keys of a list, inserted in several orders.
func insertedTrees(t *testing.T, wide int, counts []int) []impl.Tree {
	t.Helper()
	var all []impl.Tree
	for _, n := range counts {
		upward := from(0, n)
		downward := slices.Clone(upward)
		slices.Reverse(downward)
		for _, keys := range [][]int{upward, downward, scrambled(37, 11)[:n]} {
			x, ok := impl.InsertAll(wide, keys)
			if !ok {
				t.Fatalf("there is no tree of %v", keys)
			}
			all = append(all, x)
		}
	}
	return all
}

// checkAllJoined checks what each two of some valid trees become, which are renumbered for that; those that have too many keys together are left out. It returns how many are joined.
func checkAllJoined(t *testing.T, trees []impl.Tree, wide int) int {
	t.Helper()
	count := 0
	for _, a := range trees {
		for _, b := range trees {
			key := len(impl.KeysOf(a))
			if key+len(impl.KeysOf(b)) > impl.MaxKey {
				continue
			}
			checkJoined(t, numberedFrom(a, 0), wide, key, numberedFrom(b, key+1))
			count++
		}
	}
	return count
}

func TestJoiningAllSmallTrees(t *testing.T) {
	trees, count := smallTrees(5), 0
	for wide := impl.MinWide; wide <= impl.MaxWide; wide++ {
		count += checkAllJoined(t, validOnes(trees, wide), wide)
	}
	if count < 10000 {
		t.Errorf("only %d trees are joined", count)
	}
}

func TestJoiningTreesOfManyShapes(t *testing.T) {
	for wide := impl.MinWide; wide <= impl.MaxWide; wide++ {
		checkAllJoined(t, validOnes(someTrees(t), wide), wide)
	}
}

func TestJoiningTreesThatAreNotEquallyDeep(t *testing.T) {
	for wide := impl.MinWide; wide <= impl.MaxWide; wide++ {
		trees := insertedTrees(t, wide, []int{0, 1, wide, wide + 1, 2*wide + 1, 17, 26, 35, 53, 62, 80, 98})
		seen := map[int]bool{}
		for _, a := range trees {
			for _, b := range trees {
				if len(impl.KeysOf(a))+len(impl.KeysOf(b)) <= impl.MaxKey {
					seen[impl.DepthOf(a)-impl.DepthOf(b)] = true
				}
			}
		}
		if !seen[0] || !seen[1] || !seen[2] || !seen[-1] || !seen[-2] {
			t.Errorf("with the width %d the depths differ by %v only", wide, seen)
		}
		checkAllJoined(t, trees, wide)
	}
}

func TestJoiningByHand(t *testing.T) {
	const deep = "(((1) 2 (3)) 4 ((5) 6 (7)))"
	for _, c := range []struct {
		a    string
		wide int
		key  int
		b    string
		want string
	}{
		{"()", 2, 0, "()", "(0)"},
		{"()", 6, 99, "()", "(99)"},
		{"(98)", 2, 99, "()", "(98 99)"},
		{"()", 2, 0, "(1 2)", "((0) 1 (2))"},
		{"(1)", 2, 2, "(3 4)", "((1 2) 3 (4))"},
		{"(1 2)", 2, 3, "(4 5)", "((1 2) 3 (4 5))"},
		{"(10)", 2, 50, "(90)", "((10) 50 (90))"},
		{"((1) 2 (3))", 2, 4, "((5) 6 (7))", deep},
		{"((1) 2 (3))", 3, 4, "((5) 6 (7))", "((1) 2 (3) 4 (5) 6 (7))"},
		{"((1 2 3) 4 (5 6 7))", 6, 8, "((9 10 11) 12 (13 14 15))", "((1 2 3) 4 (5 6 7) 8 (9 10 11) 12 (13 14 15))"},
		{"((1) 2 (3))", 2, 4, "(5 6)", "((1) 2 (3 4) 5 (6))"},
		{"((1) 2 (3) 4 (5))", 2, 6, "(7)", deep},
		{"(1)", 2, 2, "((3) 4 (5) 6 (7))", deep},
		{"()", 2, 0, "((1 2) 3 (4))", "((0) 1 (2) 3 (4))"},
		{"(1)", 4, 2, "((3 4) 5 (6 7))", "((1 2 3 4) 5 (6 7))"},
		{"(1 2)", 4, 3, "((4 5 6) 7 (8 9))", "((1 2 3) 4 (5 6) 7 (8 9))"},
		{"((1 2 3) 4 (5 6 7))", 6, 8, "(9)", "((1 2 3) 4 (5 6 7 8 9))"},
		{"((1 2) 3 (4 5 6 7 8))", 5, 9, "(10 11 12 13 14)", "((1 2) 3 (4 5 6 7 8) 9 (10 11 12 13 14))"},
		{deep, 2, 8, "()", "(((1) 2 (3)) 4 ((5) 6 (7 8)))"},
		{deep, 2, 8, "(9)", "(((1) 2 (3)) 4 ((5) 6 (7) 8 (9)))"},
		{deep, 2, 8, "((9) 10 (11))", "(((1) 2 (3)) 4 ((5) 6 (7)) 8 ((9) 10 (11)))"},
		{deep, 3, 8, "((9) 10 (11))", "(((1) 2 (3)) 4 ((5) 6 (7) 8 (9) 10 (11)))"},
		{"()", 2, 0, deep, "(((0 1) 2 (3)) 4 ((5) 6 (7)))"},
		{"((0) 10 (20))", 2, 30, "(((31) 32 (33)) 34 ((35) 36 (37)))", "(((0) 10 (20)) 30 ((31) 32 (33)) 34 ((35) 36 (37)))"},
	} {
		got, ok := impl.JoinTrees(parsed(t, c.a), c.wide, c.key, parsed(t, c.b))
		if !ok || impl.FormatTree(got) != c.want {
			t.Errorf("JoinTrees(%s, %d, %d, %s) = %s, %v", c.a, c.wide, c.key, c.b, impl.FormatTree(got), ok)
		}
	}
}

func TestJoiningTwoByHand(t *testing.T) {
	for _, c := range []struct {
		a    string
		wide int
		b    string
		want string
	}{
		{"()", 2, "()", "()"},
		{"(1 2)", 2, "()", "(1 2)"},
		{"(((1) 2 (3)) 4 ((5) 6 (7)))", 3, "()", "(((1) 2 (3)) 4 ((5) 6 (7)))"},
		{"()", 2, "(5)", "(5)"},
		{"()", 2, "((1) 2 (3))", "((1) 2 (3))"},
		{"()", 3, "((1) 2 (3))", "(1 2 3)"},
		{"(1)", 2, "((2) 3 (4))", "((1 2) 3 (4))"},
		{"(1 2)", 2, "(3)", "((1) 2 (3))"},
		{"(0)", 2, "(99)", "(0 99)"},
		{"((1) 2 (3))", 2, "(4)", "((1) 2 (3 4))"},
		{"((1) 2 (3))", 2, "(4 5)", "((1) 2 (3) 4 (5))"},
		{"((1) 2 (3))", 2, "((4) 5 (6))", "((1) 2 (3 4) 5 (6))"},
		{"((1) 2 (3))", 2, "((4 5) 6 (7))", "(((1) 2 (3)) 4 ((5) 6 (7)))"},
	} {
		got, ok := impl.JoinTwo(parsed(t, c.a), c.wide, parsed(t, c.b))
		if !ok || impl.FormatTree(got) != c.want {
			t.Errorf("JoinTwo(%s, %d, %s) = %s, %v", c.a, c.wide, c.b, impl.FormatTree(got), ok)
		}
	}
}

// checkNotJoined checks that two trees are not joined by a key.
func checkNotJoined(t *testing.T, a impl.Tree, wide, key int, b impl.Tree) {
	t.Helper()
	got, ok := impl.JoinTrees(a, wide, key, b)
	checkNone(t, "JoinTrees", got, ok, wide)
}

// checkNotTwo checks that two trees are not joined without a key.
func checkNotTwo(t *testing.T, a impl.Tree, wide int, b impl.Tree) {
	t.Helper()
	got, ok := impl.JoinTwo(a, wide, b)
	checkNone(t, "JoinTwo", got, ok, wide)
}

func TestKeysThatDoNotLieBetween(t *testing.T) {
	trees := []impl.Tree{leaf(), leaf(10), leaf(10, 20), parsed(t, "((8) 10 (12) 14 (16))"), parsed(t, "((18) 20 (22) 24 (26))"), leaf(30), parsed(t, "(((30) 31 (32)) 33 ((34) 35 (36)))")}
	joins := 0
	for _, a := range trees {
		for _, b := range trees {
			keys := slices.Concat(impl.KeysOf(a), impl.KeysOf(b))
			ascends := slices.IsSorted(keys) && len(slices.Compact(slices.Clone(keys))) == len(keys)
			if !ascends {
				checkNotTwo(t, a, 2, b)
			}
			for _, key := range numbers() {
				isPast := !slices.ContainsFunc(impl.KeysOf(a), func(k int) bool { return k >= key })
				isShort := !slices.ContainsFunc(impl.KeysOf(b), func(k int) bool { return k <= key })
				if isPast && isShort && 0 <= key && key <= impl.MaxKey {
					checkJoined(t, a, 2, key, b)
					joins++
				} else {
					checkNotJoined(t, a, 2, key, b)
				}
			}
		}
	}
	if joins < 300 {
		t.Errorf("only %d keys lie between", joins)
	}
}

func TestJoiningByWhatIsNoKey(t *testing.T) {
	for _, key := range noKeys {
		for wide := impl.MinWide; wide <= impl.MaxWide; wide++ {
			checkNotJoined(t, leaf(), wide, key, leaf())
			checkNotJoined(t, leaf(5), wide, key, leaf())
			checkNotJoined(t, leaf(), wide, key, leaf(5))
		}
	}
}

func TestTwoTreesThatAreNotInOrder(t *testing.T) {
	x, y := parsed(t, "((1) 2 (3))"), parsed(t, "((4) 5 (6) 7 (8))")
	checkNotTwo(t, y, 2, x)
	checkNotTwo(t, x, 2, x)
	checkNotTwo(t, x, 2, leaf(3))
	checkNotTwo(t, x, 2, leaf(3, 4))
	checkNotTwo(t, x, 2, leaf(0))
	checkNotTwo(t, leaf(4), 2, y)
	checkNotTwo(t, leaf(3, 9), 2, y)
	checkNotTwo(t, leaf(99), 2, y)
	checkNotTwo(t, leaf(0), 6, leaf(0))
}

// checkSplit checks what is made of a valid tree by the keys that are less than a number, and by those that are greater, and that both are joined to what was split.
func checkSplit(t *testing.T, x impl.Tree, wide, number int) {
	t.Helper()
	keys, name := impl.KeysOf(x), impl.FormatTree(x)
	at, here := slices.BinarySearch(keys, number)
	behind := keys[at:]
	if here {
		behind = keys[at+1:]
	}
	less, ok := impl.LessThan(x, wide, number)
	checkMade(t, "LessThan of "+name, less, ok, wide, lessPart(x, wide, number), keys[:at])
	more, ok := impl.MoreThan(x, wide, number)
	checkMade(t, "MoreThan of "+name, more, ok, wide, morePart(x, wide, number), behind)
	if impl.DepthOf(less) > impl.DepthOf(x) || impl.DepthOf(more) > impl.DepthOf(x) {
		t.Errorf("%s is split at %d into deeper trees with the width %d", name, number, wide)
	}
	if here {
		again, ok := impl.JoinTrees(less, wide, number, more)
		checkMade(t, "JoinTrees of what was "+name, again, ok, wide, joined(less, wide, number, more), keys)
	}
	both, ok := impl.JoinTwo(less, wide, more)
	checkMade(t, "JoinTwo of what was "+name, both, ok, wide, joinedTwo(less, wide, more), slices.Concat(keys[:at], behind))
}

func TestSplittingAllSmallTrees(t *testing.T) {
	trees, count := smallTrees(5), 0
	for wide := impl.MinWide; wide <= impl.MaxWide; wide++ {
		for _, x := range validOnes(trees, wide) {
			for number := -1; number <= 2*len(impl.KeysOf(x))+1; number++ {
				checkSplit(t, x, wide, number)
				count++
			}
		}
	}
	if count < 3000 {
		t.Errorf("only %d trees are split", count)
	}
}

func TestSplittingTreesOfManyShapes(t *testing.T) {
	for wide := impl.MinWide; wide <= impl.MaxWide; wide++ {
		for _, x := range validOnes(someTrees(t), wide) {
			for _, number := range numbers() {
				checkSplit(t, x, wide, number)
			}
		}
		for _, x := range insertedTrees(t, wide, []int{0, 7, 23, 40, 61, 77, 100}) {
			for number := -1; number <= 100; number += 3 {
				checkSplit(t, x, wide, number)
			}
		}
	}
}

func TestSplittingByHand(t *testing.T) {
	const deep, broad = "(((1) 2 (3)) 4 ((5) 6 (7)))", "((1) 2 (3) 4 (5) 6 (7))"
	for _, c := range []struct {
		text       string
		wide       int
		number     int
		less, more string
	}{
		{"()", 2, 5, "()", "()"},
		{"(5)", 2, 5, "()", "()"},
		{"(1 2)", 2, 1, "()", "(2)"},
		{"(1 2)", 2, 2, "(1)", "()"},
		{"(1 3 5)", 6, 3, "(1)", "(5)"},
		{"(1 3 5)", 6, 4, "(1 3)", "(5)"},
		{"((1) 2 (3))", 2, 2, "(1)", "(3)"},
		{"((1 2) 3 (4 5))", 4, 3, "(1 2)", "(4 5)"},
		{deep, 2, 1, "()", "((2 3) 4 (5) 6 (7))"},
		{deep, 2, 2, "(1)", "((3) 4 (5) 6 (7))"},
		{deep, 2, 4, "((1) 2 (3))", "((5) 6 (7))"},
		{deep, 2, 5, "((1) 2 (3 4))", "(6 7)"},
		{deep, 2, 6, "((1) 2 (3) 4 (5))", "(7)"},
		{deep, 2, 7, "((1) 2 (3 4) 5 (6))", "()"},
		{deep, 2, 0, "()", deep},
		{deep, 2, math.MinInt, "()", deep},
		{deep, 2, math.MaxInt, deep, "()"},
		{deep, 3, -1, "()", "((1 2) 3 (4 5) 6 (7))"},
		{deep, 3, 100, "((1) 2 (3 4) 5 (6 7))", "()"},
		{broad, 3, 2, "(1)", "((3) 4 (5) 6 (7))"},
		{broad, 3, 4, "((1) 2 (3))", "((5) 6 (7))"},
		{broad, 3, 6, "((1) 2 (3) 4 (5))", "(7)"},
		{broad, 3, 5, "((1) 2 (3 4))", "(6 7)"},
		{broad, 3, 3, "(1 2)", "((4 5) 6 (7))"},
	} {
		x := parsed(t, c.text)
		less, one := impl.LessThan(x, c.wide, c.number)
		more, two := impl.MoreThan(x, c.wide, c.number)
		if !one || !two || impl.FormatTree(less) != c.less || impl.FormatTree(more) != c.more {
			t.Errorf("%s split at %d with the width %d: %s, %v, and %s, %v", c.text, c.number, c.wide, impl.FormatTree(less), one, impl.FormatTree(more), two)
		}
	}
}

// checkNoSplit checks that nothing is split off a tree.
func checkNoSplit(t *testing.T, x impl.Tree, wide, number int) {
	t.Helper()
	less, ok := impl.LessThan(x, wide, number)
	checkNone(t, "LessThan", less, ok, wide)
	more, ok := impl.MoreThan(x, wide, number)
	checkNone(t, "MoreThan", more, ok, wide)
}

// checkKept checks what is made of a valid tree by a range of keys, and by all others.
func checkKept(t *testing.T, x impl.Tree, wide, low, high int) {
	t.Helper()
	keys, name := impl.KeysOf(x), impl.FormatTree(x)
	isOut := func(key int) bool { return key < low || key > high }
	inside := slices.DeleteFunc(slices.Clone(keys), isOut)
	outside := slices.DeleteFunc(slices.Clone(keys), func(key int) bool { return !isOut(key) })
	only, ok := impl.OnlyRange(x, wide, low, high)
	checkMade(t, "OnlyRange of "+name, only, ok, wide, lessPart(morePart(x, wide, low-1), wide, high+1), inside)
	without, ok := impl.WithoutRange(x, wide, low, high)
	checkMade(t, "WithoutRange of "+name, without, ok, wide, joinedTwo(lessPart(x, wide, low), wide, morePart(x, wide, high)), outside)
}

// checkNotKept checks that no tree is made by a range of keys, nor by all others.
func checkNotKept(t *testing.T, x impl.Tree, wide, low, high int) {
	t.Helper()
	only, ok := impl.OnlyRange(x, wide, low, high)
	checkNone(t, "OnlyRange", only, ok, wide)
	without, ok := impl.WithoutRange(x, wide, low, high)
	checkNone(t, "WithoutRange", without, ok, wide)
}

func TestRangesOfAllSmallTrees(t *testing.T) {
	trees := smallTrees(4)
	for wide := impl.MinWide; wide <= impl.MaxWide; wide++ {
		for _, x := range validOnes(trees, wide) {
			last := 2*len(impl.KeysOf(x)) + 1
			for low := range last + 1 {
				for high := low; high <= last; high++ {
					checkKept(t, x, wide, low, high)
				}
			}
		}
	}
}

func TestRangesOfTreesOfManyShapes(t *testing.T) {
	bounds := []int{0, 1, 2, 7, 20, 31, 50, 51, 70, 98, 99}
	for wide := impl.MinWide; wide <= impl.MaxWide; wide++ {
		trees := append(validOnes(someTrees(t), wide), insertedTrees(t, wide, []int{0, 40, 100})...)
		for _, x := range trees {
			for at, low := range bounds {
				for _, high := range bounds[at:] {
					checkKept(t, x, wide, low, high)
				}
			}
		}
	}
}

func TestRangesByHand(t *testing.T) {
	const deep = "(((1) 2 (3)) 4 ((5) 6 (7)))"
	for _, c := range []struct {
		text          string
		low, high     int
		only, without string
	}{
		{"()", 0, 99, "()", "()"},
		{"(5)", 5, 5, "(5)", "()"},
		{"(5)", 0, 4, "()", "(5)"},
		{"(0 99)", 0, 0, "(0)", "(99)"},
		{"(0 99)", 99, 99, "(99)", "(0)"},
		{"((1) 2 (3))", 2, 2, "(2)", "(1 3)"},
		{deep, 3, 5, "((3) 4 (5))", "((1 2) 6 (7))"},
		{deep, 2, 6, "((2 3) 4 (5 6))", "(1 7)"},
		{deep, 4, 4, "(4)", "((1) 2 (3 5) 6 (7))"},
		{deep, 0, 0, "()", deep},
		{deep, 0, 99, deep, "()"},
		{deep, 8, 9, "()", deep},
	} {
		x := parsed(t, c.text)
		only, one := impl.OnlyRange(x, 2, c.low, c.high)
		without, two := impl.WithoutRange(x, 2, c.low, c.high)
		if !one || !two || impl.FormatTree(only) != c.only || impl.FormatTree(without) != c.without {
			t.Errorf("%s from %d to %d: %s, %v, and without %s, %v", c.text, c.low, c.high, impl.FormatTree(only), one, impl.FormatTree(without), two)
		}
	}
}

func TestRangesThatAreNone(t *testing.T) {
	for _, x := range []impl.Tree{leaf(), leaf(1), parsed(t, "((1 2) 4 (6) 8 (9))")} {
		for _, number := range noKeys {
			for _, key := range []int{0, 1, 5, 99} {
				checkNotKept(t, x, 2, number, key)
				checkNotKept(t, x, 3, key, number)
			}
			checkNotKept(t, x, 2, number, number)
		}
		for _, c := range [][2]int{{1, 0}, {99, 0}, {6, 2}, {50, 49}, {100, -1}, {math.MaxInt, math.MinInt}, {math.MinInt, math.MaxInt}} {
			checkNotKept(t, x, 2, c[0], c[1])
		}
	}
}

func TestJoiningAndSplittingWithOtherWidths(t *testing.T) {
	x := parsed(t, "((1 2) 4 (6) 8 (9))")
	for _, wide := range append([]int{4, 5, 6}, noWides...) {
		for _, number := range []int{-1, 0, 4, 5, 10, 100} {
			checkNotJoined(t, x, wide, number, leaf(50))
			checkNotJoined(t, leaf(0), wide, number, x)
			checkNoSplit(t, x, wide, number)
		}
		checkNotJoined(t, leaf(), wide, 0, x)
		checkNotJoined(t, leaf(0), wide, 1, numberedFrom(x, 2))
		checkNotJoined(t, x, wide, 50, numberedFrom(x, 51))
		checkNotTwo(t, x, wide, leaf())
		checkNotTwo(t, x, wide, leaf(50))
		checkNotTwo(t, leaf(), wide, x)
		checkNotTwo(t, leaf(0), wide, x)
		checkNotKept(t, x, wide, 0, 99)
		checkNotKept(t, x, wide, 4, 4)
	}
	for _, wide := range noWides {
		checkNotJoined(t, leaf(), wide, 5, leaf())
		checkNotTwo(t, leaf(), wide, leaf())
		checkNotTwo(t, leaf(1), wide, leaf(2))
		checkNoSplit(t, leaf(), wide, 5)
		checkNoSplit(t, leaf(1), wide, 1)
		checkNotKept(t, leaf(1), wide, 0, 99)
	}
}

func TestJoiningAndSplittingTreesOfNoWidth(t *testing.T) {
	for _, x := range noTrees(t) {
		for wide := -1; wide <= 8; wide++ {
			for _, number := range []int{-1, 0, 2, 50, 99, 100} {
				checkNotJoined(t, x, wide, number, leaf())
				checkNotJoined(t, leaf(), wide, number, x)
				checkNotJoined(t, x, wide, number, x)
				checkNoSplit(t, x, wide, number)
				checkNotKept(t, x, wide, 0, number)
			}
			checkNotTwo(t, x, wide, leaf())
			checkNotTwo(t, leaf(), wide, x)
			checkNotTwo(t, x, wide, leaf(99))
			checkNotTwo(t, x, wide, x)
		}
	}
}

func TestJoinedTreesShareNoMemory(t *testing.T) {
	texts := []string{"()", "(1)", "(1 2)", "((1) 2 (3))", "((1 2) 3 (4) 5 (6 7))", "(((1) 2 (3)) 4 ((5) 6 (7)))", "(((1 2) 3 (4) 5 (6)) 7 ((8) 9 (10)) 11 ((12) 13 (14 15)))"}
	for _, one := range texts {
		for _, two := range texts {
			a, b := roomy(parsed(t, one)), roomy(numberedFrom(parsed(t, two), 51))
			left, right := withRoom(a), withRoom(b)
			checkOwnMemory(t, func() impl.Tree { x, _ := impl.JoinTrees(a, 2, 50, b); return x })
			checkOwnMemory(t, func() impl.Tree { x, _ := impl.JoinTwo(a, 2, b); return x })
			if !reflect.DeepEqual(withRoom(a), left) || !reflect.DeepEqual(withRoom(b), right) {
				t.Errorf("%s or %s has changed", one, two)
			}
		}
	}
}

func TestJoiningTreesThatShareMemory(t *testing.T) {
	room := from(0, 9)
	kids := []impl.Tree{{Keys: room[:1]}, {Keys: room[2:3]}, {Keys: room[4:5]}, {Keys: room[6:7]}}
	a, b := over(room[1:2], kids[:2]...), over(room[5:6], kids[2:]...)
	for _, c := range []struct {
		a    impl.Tree
		key  int
		b    impl.Tree
		want string
	}{
		{a, 3, b, "(((0) 1 (2)) 3 ((4) 5 (6)))"},
		{kids[0], 1, kids[1], "((0) 1 (2))"},
		{a, 3, kids[2], "((0) 1 (2) 3 (4))"},
		{kids[1], 3, b, "((2) 3 (4) 5 (6))"},
		{a, 3, leaf(), "((0) 1 (2 3))"},
	} {
		if x, ok := impl.JoinTrees(c.a, 2, c.key, c.b); !ok || impl.FormatTree(x) != c.want {
			t.Errorf("JoinTrees(%s, %d, %s) = %s, %v", impl.FormatTree(c.a), c.key, impl.FormatTree(c.b), impl.FormatTree(x), ok)
		}
		impl.JoinTwo(c.a, 2, c.b)
	}
	if !slices.Equal(room, from(0, 9)) || impl.FormatTree(over([]int{3}, a, b)) != "(((0) 1 (2)) 3 ((4) 5 (6)))" {
		t.Errorf("the trees have changed: %v", room)
	}
}

func TestSplitTreesShareNoMemory(t *testing.T) {
	for _, text := range []string{"()", "(5 6)", "((1 2) 4 (6) 8 (9))", "(((0) 1 (2) 3 (4)) 5 ((6) 7 (8)))", "(((1 2) 3 (4) 5 (6)) 7 ((8) 9 (10)) 11 ((12) 13 (14 15)))"} {
		x := roomy(parsed(t, text))
		before := withRoom(x)
		for number := -1; number <= 17; number++ {
			checkOwnMemory(t, func() impl.Tree { y, _ := impl.LessThan(x, 2, number); return y })
			checkOwnMemory(t, func() impl.Tree { y, _ := impl.MoreThan(x, 2, number); return y })
			checkOwnMemory(t, func() impl.Tree { y, _ := impl.OnlyRange(x, 2, 3, number); return y })
			checkOwnMemory(t, func() impl.Tree { y, _ := impl.WithoutRange(x, 2, 3, number); return y })
		}
		if !reflect.DeepEqual(withRoom(x), before) {
			t.Errorf("%s has changed", text)
		}
	}
}

func TestRangesOfManyCallsAtOnce(t *testing.T) {
	x, _ := impl.InsertAll(3, scrambled(37, 5))
	var group sync.WaitGroup
	for low := range 50 {
		group.Go(func() {
			want := joinedTwo(lessPart(x, 3, low), 3, morePart(x, 3, 2*low))
			if got, ok := impl.WithoutRange(x, 3, low, 2*low); !ok || !impl.SameTree(got, want) {
				t.Errorf("WithoutRange(%d, %d) = %s, %v", low, 2*low, impl.FormatTree(got), ok)
			}
		})
	}
	group.Wait()
}
