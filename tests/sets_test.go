package tests

import (
	"reflect"
	"slices"
	"sync"
	"testing"

	"loop.example/fulltrees/impl"
)

// united says in other words which tree the union of two trees is, and how often trees are joined for it.
func united(a impl.Tree, wide int, b impl.Tree) (impl.Tree, int) {
	switch {
	case len(b.Keys) == 0:
		return a, 0
	case len(a.Keys) == 0:
		return b, 0
	}
	key := a.Keys[0]
	less, one := united(lessPart(a, wide, key), wide, lessPart(b, wide, key))
	more, two := united(morePart(a, wide, key), wide, morePart(b, wide, key))
	return joined(less, wide, key, more), one + two + 1
}

// sifted says in other words which tree is made of those keys of a tree that another one has, or has not. Both are split, as the document tells.
func sifted(a impl.Tree, wide int, b impl.Tree, kept bool) impl.Tree {
	if len(a.Keys) == 0 {
		return a
	}
	key := a.Keys[0]
	less := sifted(lessPart(a, wide, key), wide, lessPart(b, wide, key), kept)
	more := sifted(morePart(a, wide, key), wide, morePart(b, wide, key), kept)
	if slices.Contains(impl.KeysOf(b), key) == kept {
		return joined(less, wide, key, more)
	}
	return joinedTwo(less, wide, more)
}

// keysWhere returns all keys of which something is true.
func keysWhere(isIn func(int) bool) []int {
	return slices.DeleteFunc(from(0, impl.MaxKey+1), func(key int) bool { return !isIn(key) })
}

// checkSets checks all that is made of two valid trees.
func checkSets(t *testing.T, a impl.Tree, wide int, b impl.Tree) {
	t.Helper()
	keysA, keysB := impl.KeysOf(a), impl.KeysOf(b)
	hasA := func(key int) bool { return slices.Contains(keysA, key) }
	hasB := func(key int) bool { return slices.Contains(keysB, key) }
	name := " of " + impl.FormatTree(a) + " and " + impl.FormatTree(b)
	want, joins := united(a, wide, b)
	got, ok := impl.UnionTree(a, wide, b)
	checkMade(t, "UnionTree"+name, got, ok, wide, want, keysWhere(func(key int) bool { return hasA(key) || hasB(key) }))
	got, ok = impl.CommonTree(a, wide, b)
	checkMade(t, "CommonTree"+name, got, ok, wide, sifted(a, wide, b, true), keysWhere(func(key int) bool { return hasA(key) && hasB(key) }))
	onlyA, onlyB := sifted(a, wide, b, false), sifted(b, wide, a, false)
	got, ok = impl.MinusTree(a, wide, b)
	checkMade(t, "MinusTree"+name, got, ok, wide, onlyA, keysWhere(func(key int) bool { return hasA(key) && !hasB(key) }))
	want, _ = united(onlyA, wide, onlyB)
	got, ok = impl.EitherTree(a, wide, b)
	checkMade(t, "EitherTree"+name, got, ok, wide, want, keysWhere(func(key int) bool { return hasA(key) != hasB(key) }))
	if got := impl.JoinsOf(a, wide, b); got != joins {
		t.Errorf("JoinsOf%s with the width %d = %d, not %d", name, wide, got, joins)
	}
	checkCommon(t, a, b)
}

// checkCommon checks what is told of the keys that two trees have, each of which is valid for some width.
func checkCommon(t *testing.T, a, b impl.Tree) {
	t.Helper()
	count := 0
	for _, key := range impl.KeysOf(a) {
		if slices.Contains(impl.KeysOf(b), key) {
			count++
		}
	}
	if got := impl.CountCommon(a, b); got != count {
		t.Errorf("CountCommon(%s, %s) = %d, not %d", impl.FormatTree(a), impl.FormatTree(b), got, count)
	}
	if got, want := impl.IsWithin(a, b), count == len(impl.KeysOf(a)); got != want {
		t.Errorf("IsWithin(%s, %s) = %v", impl.FormatTree(a), impl.FormatTree(b), got)
	}
}

// checkNoSets checks that nothing is made of two trees, one of which is not valid for the width.
func checkNoSets(t *testing.T, a impl.Tree, wide int, b impl.Tree) {
	t.Helper()
	got, ok := impl.UnionTree(a, wide, b)
	checkNone(t, "UnionTree", got, ok, wide)
	got, ok = impl.CommonTree(a, wide, b)
	checkNone(t, "CommonTree", got, ok, wide)
	got, ok = impl.MinusTree(a, wide, b)
	checkNone(t, "MinusTree", got, ok, wide)
	got, ok = impl.EitherTree(a, wide, b)
	checkNone(t, "EitherTree", got, ok, wide)
	if joins := impl.JoinsOf(a, wide, b); joins != -1 {
		t.Errorf("JoinsOf with the width %d = %d", wide, joins)
	}
}

// keyed returns a tree whose keys in order are those that key tells for 0, 1 and so on.
func keyed(x impl.Tree, key func(int) int) impl.Tree {
	y := numberedFrom(x, 0)
	var label func(x impl.Tree)
	label = func(x impl.Tree) {
		for i := range x.Keys {
			x.Keys[i] = key(x.Keys[i])
		}
		for _, kid := range x.Kids {
			label(kid)
		}
	}
	label(y)
	return y
}

func TestSetsOfAllSmallTrees(t *testing.T) {
	trees, count := smallTrees(4), 0
	ways := []func(int) int{
		odd, plain, thirds, late,
		func(i int) int { return 2 * i },
		func(i int) int { return 2*i + 7 },
		func(i int) int { return i + i/2 },
	}
	for wide := impl.MinWide; wide <= impl.MaxWide; wide++ {
		valid := validOnes(trees, wide)
		for _, a := range valid {
			for at, b := range valid {
				checkSets(t, a, wide, b)
				other := keyed(b, ways[at%len(ways)])
				checkSets(t, a, wide, other)
				checkSets(t, other, wide, a)
				count += 3
			}
		}
	}
	if count < 7000 {
		t.Errorf("only %d sets are made", count)
	}
}

func TestSetsOfLeaves(t *testing.T) {
	subsets := func(wide int) []impl.Tree {
		var all []impl.Tree
		for code := range 1 << 6 {
			x := leaf(slices.DeleteFunc(from(0, 6), func(key int) bool { return code>>key%2 == 0 })...)
			if len(x.Keys) <= wide {
				all = append(all, x)
			}
		}
		return all
	}
	for wide := impl.MinWide; wide <= impl.MaxWide; wide++ {
		for _, a := range subsets(wide) {
			for _, b := range subsets(wide) {
				checkSets(t, a, wide, b)
			}
		}
	}
}

func TestSetsOfTreesOfManyShapes(t *testing.T) {
	for wide := impl.MinWide; wide <= impl.MaxWide; wide++ {
		trees := validOnes(someTrees(t), wide)
		for _, a := range trees {
			for _, b := range trees {
				checkSets(t, a, wide, b)
			}
		}
	}
}

func TestSetsOfTreesThatAreNotEquallyDeep(t *testing.T) {
	for wide := impl.MinWide; wide <= impl.MaxWide; wide++ {
		trees := insertedTrees(t, wide, []int{0, 1, wide + 1, 3 * wide, 26, 62, 99})
		seen := map[int]bool{}
		for _, a := range trees {
			for _, b := range trees {
				seen[impl.DepthOf(a)-impl.DepthOf(b)] = true
				checkSets(t, a, wide, b)
			}
		}
		if !seen[0] || !seen[1] || !seen[2] || !seen[-1] || !seen[-2] {
			t.Errorf("with the width %d the depths differ by %v only", wide, seen)
		}
	}
}

func TestSetsOfTreesThatHaveTheSameKeys(t *testing.T) {
	for wide := impl.MinWide; wide <= impl.MaxWide; wide++ {
		for _, n := range []int{1, wide, wide + 1, 2*wide + 1, 30, 57, 100} {
			trees := insertedTrees(t, wide, []int{n})[:2]
			built, _ := impl.BuildTree(wide, from(0, n))
			for _, a := range append(trees, built) {
				for _, b := range append(trees, built) {
					checkSets(t, a, wide, b)
					one, _ := impl.MinusTree(a, wide, b)
					two, _ := impl.EitherTree(a, wide, b)
					if !isZero(one) || !isZero(two) || impl.JoinsOf(a, wide, b) != n || impl.CountCommon(a, b) != n {
						t.Errorf("%s and %s are not told to have the same keys", impl.FormatTree(a), impl.FormatTree(b))
					}
				}
			}
		}
	}
}

// thinnedTrees returns trees that are valid for a width, with many numbers of keys in much disorder, of which half have lost some again.
func thinnedTrees(t *testing.T, wide int) []impl.Tree {
	t.Helper()
	var all []impl.Tree
	for _, factor := range []int{3, 7, 11, 23, 37, 41, 59, 77, 99} {
		for n := 25; n <= 85; n += 15 {
			x, ok := impl.InsertAll(wide, scrambled(factor, n)[:n])
			y, fits := impl.DeleteAll(x, wide, scrambled(factor+4, factor)[:n/2])
			if !ok || !fits {
				t.Fatalf("there is no tree of %d keys by %d", n, factor)
			}
			all = append(all, x, y)
		}
	}
	return all
}

func TestSetsOfTreesWithKeysInDisorder(t *testing.T) {
	for wide := impl.MinWide; wide <= impl.MaxWide; wide++ {
		trees := thinnedTrees(t, wide)
		for i, a := range trees {
			for j, b := range trees {
				if (i+3*j)%16 == 0 {
					checkSets(t, a, wide, b)
				}
			}
		}
	}
}

// TestSetsWhosePartsGrow takes trees of which what is less gets so many keys that these reach into what is greater, if both lie in the same memory and nothing keeps them apart.
func TestSetsWhosePartsGrow(t *testing.T) {
	for _, c := range []struct {
		a, b string
		wide int
	}{
		{"((9 10 25 33) 39 (43 44 72 75) 84 (86 94 95))", "((0 2 6 11 13) 14 (16 18 22 29 31) 33 (38 41 42 51 54) 55 (57 58 60 70 73) 75 (76 78 79 82 86) 87 (89 92 97 99))", 5},
		{"((4 6 20 23 25 62) 69 (75 76 77 80 81) 85 (91 92 95 97))", "((6 8 9 10 12 16) 18 (22 24 27 31 33) 35 (40 46 52 55 56) 57 (59 62 65 67 70) 71 (73 74 77 83 84) 85 (86 87 90 94 99))", 6},
	} {
		for range 20 {
			checkSets(t, parsed(t, c.a), c.wide, parsed(t, c.b))
		}
	}
}

func TestSetsByHand(t *testing.T) {
	const deep, rest = "(((1) 2 (3)) 4 ((5) 6 (7)))", "((1) 2 (3 5) 6 (7))"
	for _, c := range []struct {
		a                            string
		wide                         int
		b                            string
		union, common, minus, either string
		joins                        int
	}{
		{"()", 2, "()", "()", "()", "()", "()", 0},
		{"(5)", 2, "(5)", "(5)", "(5)", "()", "()", 1},
		{"(0)", 2, "(99)", "(0 99)", "()", "(0)", "(0 99)", 1},
		{"(99)", 2, "(0)", "(0 99)", "()", "(99)", "(0 99)", 1},
		{"(1 2)", 2, "(3)", "((1) 2 (3))", "()", "(1 2)", "((1) 2 (3))", 2},
		{"((1) 2 (3))", 2, "(2 4)", "((1 2) 3 (4))", "(2)", "(1 3)", "((1) 3 (4))", 2},
		{"(2 4)", 2, "((1) 2 (3))", "((1 2) 3 (4))", "(2)", "(4)", "((1) 3 (4))", 2},
		{"((1) 2 (3 4))", 2, "((1 2) 3 (4))", "((1 2) 3 (4))", "((1 2) 3 (4))", "()", "()", 4},
		{"((1) 2 (3))", 2, "()", "((1) 2 (3))", "()", "((1) 2 (3))", "((1) 2 (3))", 0},
		{"()", 3, "((1) 2 (3) 4 (5))", "((1) 2 (3) 4 (5))", "()", "()", "((1 2) 3 (4 5))", 0},
		{"((1) 2 (3) 4 (5))", 3, "()", "((1) 2 (3) 4 (5))", "()", "((1 2) 3 (4 5))", "((1 2) 3 (4 5))", 0},
		{deep, 2, "()", deep, "()", deep, deep, 0},
		{"()", 2, deep, deep, "()", "()", deep, 0},
		{deep, 3, "()", deep, "()", "((1 2 3) 4 (5 6 7))", "((1 2 3) 4 (5 6 7))", 0},
		{deep, 3, deep, "((1 2 3) 4 (5 6 7))", "((1 2 3) 4 (5 6 7))", "()", "()", 7},
		{deep, 2, "(4)", deep, "(4)", rest, rest, 1},
		{"(4)", 2, deep, deep, "(4)", "()", rest, 1},
		{"(9)", 2, deep, "(((1) 2 (3)) 4 ((5) 6 (7 9)))", "()", "(9)", "(((1) 2 (3)) 4 ((5) 6 (7 9)))", 1},
		{deep, 2, "(9)", "(((1) 2 (3)) 4 ((5 6) 7 (9)))", "()", deep, "(((1) 2 (3)) 4 ((5 6) 7 (9)))", 3},
		{"((3) 4 (9))", 2, "((1) 2 (3))", "((1) 2 (3) 4 (9))", "(3)", "(4 9)", "((1 2) 4 (9))", 2},
		{"(1 3 5)", 6, "(2 4 6)", "(1 2 3 4 5 6)", "()", "(1 3 5)", "(1 2 3 4 5 6)", 3},
	} {
		a, b := parsed(t, c.a), parsed(t, c.b)
		union, one := impl.UnionTree(a, c.wide, b)
		common, two := impl.CommonTree(a, c.wide, b)
		minus, three := impl.MinusTree(a, c.wide, b)
		either, four := impl.EitherTree(a, c.wide, b)
		if !one || !two || !three || !four {
			t.Errorf("%s and %s with the width %d: %v, %v, %v, %v", c.a, c.b, c.wide, one, two, three, four)
		}
		got := []string{impl.FormatTree(union), impl.FormatTree(common), impl.FormatTree(minus), impl.FormatTree(either)}
		if want := []string{c.union, c.common, c.minus, c.either}; !slices.Equal(got, want) {
			t.Errorf("%s and %s with the width %d: %q, not %q", c.a, c.b, c.wide, got, want)
		}
		if joins := impl.JoinsOf(a, c.wide, b); joins != c.joins {
			t.Errorf("JoinsOf(%s, %d, %s) = %d, not %d", c.a, c.wide, c.b, joins, c.joins)
		}
	}
}

func TestTreesWithinOthersByHand(t *testing.T) {
	const deep, broad = "(((1) 2 (3)) 4 ((5) 6 (7)))", "((1 2 3) 5 (6 7 9 10 11 12))"
	for _, c := range []struct {
		a, b     string
		isWithin bool
		count    int
	}{
		{"()", "()", true, 0},
		{"()", "(5)", true, 0},
		{"(5)", "()", false, 0},
		{"(5)", "(5)", true, 1},
		{"(5)", "(6)", false, 0},
		{"(0 99)", "((0) 50 (99))", true, 2},
		{"((0) 50 (99))", "(0 99)", false, 2},
		{"(2 4 6)", deep, true, 3},
		{"(2 4 8)", deep, false, 2},
		{deep, deep, true, 7},
		{deep, "(1 2 3 4 5 6)", false, 6},
		{deep, broad, false, 6},
		{broad, deep, false, 6},
		{"((1) 2 (3) 6 (7))", broad, true, 5},
		{"(0)", broad, false, 0},
		{"(99)", broad, false, 0},
	} {
		a, b := parsed(t, c.a), parsed(t, c.b)
		if got := impl.IsWithin(a, b); got != c.isWithin {
			t.Errorf("IsWithin(%s, %s) = %v", c.a, c.b, got)
		}
		if got := impl.CountCommon(a, b); got != c.count {
			t.Errorf("CountCommon(%s, %s) = %d, not %d", c.a, c.b, got, c.count)
		}
	}
}

func TestCommonKeysOfTreesOfOtherWidths(t *testing.T) {
	trees := someTrees(t)
	for _, a := range trees {
		for _, b := range trees {
			checkCommon(t, a, b)
		}
	}
}

func TestSetsWithOtherWidths(t *testing.T) {
	x := parsed(t, "((1 2) 4 (6) 8 (9))")
	for _, wide := range append([]int{4, 5, 6}, noWides...) {
		for _, y := range []impl.Tree{leaf(), leaf(4), leaf(50), x} {
			checkNoSets(t, x, wide, y)
			checkNoSets(t, y, wide, x)
		}
	}
	for _, wide := range noWides {
		for _, a := range []impl.Tree{leaf(), leaf(1), leaf(2)} {
			for _, b := range []impl.Tree{leaf(), leaf(1), leaf(2)} {
				checkNoSets(t, a, wide, b)
			}
		}
	}
	checkNoSets(t, leaf(1, 2, 3), 2, leaf())
	checkNoSets(t, leaf(), 2, leaf(1, 2, 3))
	checkNoSets(t, parsed(t, "((1 2) 3 (4 5))"), 6, parsed(t, "((1 2 3) 4 (5 6 7))"))
	checkNoSets(t, parsed(t, "((1 2 3) 4 (5 6 7))"), 2, parsed(t, "((1 2) 3 (4 5))"))
}

func TestSetsOfTreesOfNoWidth(t *testing.T) {
	trees := noTrees(t)
	for at, x := range trees {
		others := []impl.Tree{leaf(), leaf(3), parsed(t, "((1) 2 (3))"), x, trees[(at+1)%len(trees)]}
		for _, y := range others {
			for wide := -1; wide <= 8; wide++ {
				checkNoSets(t, x, wide, y)
				checkNoSets(t, y, wide, x)
			}
			if impl.IsWithin(x, y) || impl.IsWithin(y, x) || impl.CountCommon(x, y) != -1 || impl.CountCommon(y, x) != -1 {
				t.Errorf("keys of tree %d are told", at)
			}
		}
	}
}

func TestSetsShareNoMemory(t *testing.T) {
	texts := []string{"()", "(4)", "(1 2)", "((1) 2 (3))", "((1 2) 3 (4) 5 (6 7))", "(((1) 2 (3)) 4 ((5) 6 (7)))", "(((1 2) 3 (4) 5 (6)) 7 ((8) 9 (10)) 11 ((12) 13 (14 15)))", "((8) 20 (30) 40 (50))"}
	for _, one := range texts {
		for _, two := range texts {
			a, b := roomy(parsed(t, one)), roomy(parsed(t, two))
			left, right := withRoom(a), withRoom(b)
			checkOwnMemory(t, func() impl.Tree { x, _ := impl.UnionTree(a, 2, b); return x })
			checkOwnMemory(t, func() impl.Tree { x, _ := impl.CommonTree(a, 2, b); return x })
			checkOwnMemory(t, func() impl.Tree { x, _ := impl.MinusTree(a, 2, b); return x })
			checkOwnMemory(t, func() impl.Tree { x, _ := impl.EitherTree(a, 2, b); return x })
			impl.JoinsOf(a, 2, b)
			impl.CountCommon(a, b)
			impl.IsWithin(a, b)
			if !reflect.DeepEqual(withRoom(a), left) || !reflect.DeepEqual(withRoom(b), right) {
				t.Errorf("%s or %s has changed", one, two)
			}
		}
	}
}

func TestSetsOfTreesThatShareMemory(t *testing.T) {
	x := parsed(t, "(((1 2) 3 (4) 5 (6)) 7 ((8) 9 (10)) 11 ((12) 13 (14 15)))")
	before := copyOf(x)
	trees := append([]impl.Tree{x}, x.Kids...)
	for _, kid := range x.Kids {
		trees = append(trees, kid.Kids...)
	}
	for _, a := range trees {
		for _, b := range trees {
			checkSets(t, a, 2, b)
		}
	}
	if !reflect.DeepEqual(x, before) {
		t.Errorf("the tree has become %s", impl.FormatTree(x))
	}
}

func TestSetsOfManyCallsAtOnce(t *testing.T) {
	a, _ := impl.InsertAll(2, scrambled(37, 5)[:70])
	b, _ := impl.InsertAll(2, scrambled(41, 9)[:80])
	var group sync.WaitGroup
	for range 20 {
		group.Go(func() { checkSets(t, a, 2, b) })
		group.Go(func() { checkSets(t, b, 2, a) })
	}
	group.Wait()
}
