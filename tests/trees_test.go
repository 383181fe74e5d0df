package tests

import (
	"math"
	"reflect"
	"slices"
	"strings"
	"testing"

	"loop.example/fulltrees/impl"
)

// leaf returns a node without Kids.
func leaf(keys ...int) impl.Tree {
	return impl.Tree{Keys: keys}
}

// over returns a node with Kids.
func over(keys []int, kids ...impl.Tree) impl.Tree {
	return impl.Tree{Keys: keys, Kids: kids}
}

// from returns count numbers from first on.
func from(first, count int) []int {
	var list []int
	for i := range count {
		list = append(list, first+i)
	}
	return list
}

// parsed returns the tree of a text that has to be one.
func parsed(t *testing.T, text string) impl.Tree {
	t.Helper()
	x, ok := impl.ParseTree(text)
	if !ok {
		t.Fatalf("ParseTree(%q) fails", text)
	}
	return x
}

// isZero reports whether a tree is the zero value, nil and empty slices being the same.
func isZero(x impl.Tree) bool {
	return len(x.Keys) == 0 && len(x.Kids) == 0
}

// copyOf returns a copy of a tree that shares no memory with it.
func copyOf(x impl.Tree) impl.Tree {
	y := impl.Tree{Keys: slices.Clone(x.Keys), Kids: slices.Clone(x.Kids)}
	for i := range y.Kids {
		y.Kids[i] = copyOf(x.Kids[i])
	}
	return y
}

// checkWides checks for which widths a tree is valid, among numbers that are no widths as well.
func checkWides(t *testing.T, x impl.Tree, wides ...int) {
	t.Helper()
	for _, wide := range []int{math.MinInt, -2, -1, 0, 1, 2, 3, 4, 5, 6, 7, 8, 12, 99, math.MaxInt} {
		if got, want := impl.TreeValid(x, wide), slices.Contains(wides, wide); got != want {
			t.Errorf("TreeValid(%s, %d) = %v", impl.FormatTree(x), wide, got)
		}
	}
}

func TestTreeValidForWhichWidths(t *testing.T) {
	for _, c := range []struct {
		text  string
		wides []int
	}{
		{"((1 2) 4 (6) 8 (9))", []int{2, 3}},
		{"()", []int{2, 3, 4, 5, 6}},
		{"(0)", []int{2, 3, 4, 5, 6}},
		{"(99)", []int{2, 3, 4, 5, 6}},
		{"(1 2)", []int{2, 3, 4, 5, 6}},
		{"(1 2 3)", []int{3, 4, 5, 6}},
		{"(1 2 3 4 5 6)", []int{6}},
		{"(1 2 3 4 5 6 7)", nil},
		{"((0) 1 (2))", []int{2, 3}},
		{"((0 1) 2 (3 4))", []int{2, 3, 4, 5}},
		{"((0 1) 2 (3))", []int{2, 3}},
		{"((0) 1 (2 3))", []int{2, 3}},
		{"((0 1 2) 3 (4 5 6))", []int{3, 4, 5, 6}},
		{"((0 1 2) 3 (4 5))", []int{3, 4, 5}},
		{"(((0) 1 (2)) 3 ((4) 5 (6)))", []int{2, 3}},
		{"(((0 1) 2 (3 4) 5 (6 7)) 8 ((9 10) 11 (12 13) 14 (15 16)))", []int{2, 3, 4, 5}},
		{"(((0 1) 2 (3 4)) 8 ((9 10) 11 (12 13) 14 (15 16)))", []int{2, 3}},
	} {
		checkWides(t, parsed(t, c.text), c.wides...)
	}
}

func TestTreeValidLeavesOfOtherDepths(t *testing.T) {
	for _, text := range []string{
		"((1) 2 ((3) 4 (5)))",
		"(((1) 2 (3)) 4 (5))",
		"((1) 2 ((3) 4 (5)) 6 (7))",
		"(((1) 2 (3)) 4 (5) 6 ((7) 8 (9)))",
		"((((0) 1 (2)) 3 ((4) 5 (6))) 7 ((8) 9 (10)))",
		"(((0) 1 (2)) 3 ((4) 5 ((6) 7 (8))))",
	} {
		checkWides(t, parsed(t, text))
	}
}

func TestTreeValidNodesWithoutKeys(t *testing.T) {
	for _, text := range []string{
		"(())", "((()))", "((1))", "((1 2))", "(() 2 (3))", "((1) 2 ())", "(() 1 ())",
		"(((1) 2 (3)) 4 ((5)))", "(((1) 2 (3)))", "((1) 2 () 3 (4))",
	} {
		checkWides(t, parsed(t, text))
	}
}

func TestTreeValidCountsOfKeys(t *testing.T) {
	for wide := impl.MinWide; wide <= impl.MaxWide; wide++ {
		half := wide / 2
		for first := 0; first <= wide+2; first++ {
			for second := 0; second <= wide+2; second++ {
				x := over([]int{20}, leaf(from(0, first)...), leaf(from(30, second)...))
				want := half <= min(first, second) && max(first, second) <= wide
				if impl.TreeValid(x, wide) != want {
					t.Errorf("TreeValid(%s, %d) = %v", impl.FormatTree(x), wide, !want)
				}
			}
		}
		for count := 0; count <= wide+2; count++ {
			var keys []int
			kids := []impl.Tree{leaf(from(0, half)...)}
			for i := range count {
				keys = append(keys, 10*i+9)
				kids = append(kids, leaf(from(10*i+10, half)...))
			}
			want := 1 <= count && count <= wide
			if x := over(keys, kids...); impl.TreeValid(x, wide) != want {
				t.Errorf("TreeValid(%s, %d) = %v", impl.FormatTree(x), wide, !want)
			}
			if x := leaf(from(0, count)...); impl.TreeValid(x, wide) != (count <= wide) {
				t.Errorf("TreeValid(%s, %d)", impl.FormatTree(x), wide)
			}
		}
	}
}

func TestTreeValidCountsOfKids(t *testing.T) {
	one, two, three, four := leaf(0), leaf(2), leaf(4), leaf(6)
	checkWides(t, over([]int{1}, one, two), 2, 3)
	checkWides(t, over([]int{1, 3}, one, two, three), 2, 3)
	checkWides(t, over([]int{1, 3, 5}, one, two, three, four), 3)
	checkWides(t, over([]int{1}, one))
	checkWides(t, over([]int{1}, one, two, three))
	checkWides(t, over([]int{1, 3}, one, two))
	checkWides(t, over([]int{1, 3}, one, two, three, four))
	checkWides(t, over([]int{1, 3}, one))
	checkWides(t, over(nil, one))
	checkWides(t, over(nil, one, two))
	checkWides(t, over(nil, leaf()))
	checkWides(t, over([]int{7}, over([]int{1}, one, two, three), over([]int{9}, leaf(8), leaf(10))))
	checkWides(t, over([]int{7}, over([]int{1}, one, two), over([]int{9}, leaf(8))))
}

func TestTreeValidOrderOfKeys(t *testing.T) {
	for _, x := range []impl.Tree{
		leaf(1, 1), leaf(2, 1), leaf(-1), leaf(100), leaf(-1, 3), leaf(3, 100), leaf(math.MinInt), leaf(math.MaxInt),
		over([]int{2}, leaf(3), leaf(4)), over([]int{2}, leaf(2), leaf(4)), over([]int{2}, leaf(1), leaf(2)),
		over([]int{2}, leaf(1), leaf(1)), over([]int{2}, leaf(3), leaf(1)), over([]int{100}, leaf(1), leaf(101)),
		over([]int{2}, leaf(-1), leaf(3)), over([]int{2}, leaf(1), leaf(100)), over([]int{2, 4}, leaf(1), leaf(5), leaf(6)),
		over([]int{4, 2}, leaf(1), leaf(3), leaf(5)),
		over([]int{4}, over([]int{2}, leaf(1), leaf(5)), over([]int{6}, leaf(5), leaf(7))),
		over([]int{4}, over([]int{2}, leaf(1), leaf(3)), over([]int{6}, leaf(3), leaf(7))),
		over([]int{4}, over([]int{2}, leaf(1), leaf(4)), over([]int{6}, leaf(5), leaf(7))),
		over([]int{4}, over([]int{2}, leaf(-1), leaf(3)), over([]int{6}, leaf(5), leaf(7))),
		over([]int{4}, over([]int{2}, leaf(1), leaf(2)), over([]int{6}, leaf(5), leaf(7))),
	} {
		checkWides(t, x)
	}
	checkWides(t, leaf(0, 99), 2, 3, 4, 5, 6)
	checkWides(t, over([]int{50}, leaf(0), leaf(99)), 2, 3)
}

// binary returns a tree with one key in each inner node and leaf of each leaf, and the number behind its keys.
func binary(depth, next int, leafKeys func() int) (impl.Tree, int) {
	if depth == 1 {
		count := leafKeys()
		return leaf(from(next, count)...), next + count
	}
	first, key := binary(depth-1, next, leafKeys)
	second, end := binary(depth-1, key+1, leafKeys)
	return over([]int{key}, first, second), end
}

func TestTreeValidDeepestAndLargest(t *testing.T) {
	one := func() int { return 1 }
	for depth := 1; depth <= 6; depth++ {
		x, count := binary(depth, 0, one)
		if count != 1<<depth-1 || impl.DepthOf(x) != depth || !impl.TreeValid(x, 2) || !impl.TreeValid(x, 3) {
			t.Errorf("depth %d: %s", depth, impl.FormatTree(x))
		}
	}
	x, _ := binary(7, 0, one)
	checkWides(t, x)
	leaves := 0
	fill := func() int {
		leaves++
		if leaves <= 5 {
			return 3
		}
		return 2
	}
	x, count := binary(6, 0, fill)
	if count != impl.MaxKey+1 {
		t.Fatalf("%d keys", count)
	}
	checkWides(t, x, 3)
}

// fitsByRules says in other words what the document requires of a valid tree, but for the order of its keys.
func fitsByRules(x impl.Tree, wide int) bool {
	if wide < 2 || wide > 6 {
		return false
	}
	depths := map[int]bool{}
	good := true
	var look func(x impl.Tree, depth int)
	look = func(x impl.Tree, depth int) {
		isLeaf := len(x.Kids) == 0
		if isLeaf {
			depths[depth] = true
		}
		tooMany := len(x.Keys) > wide
		tooFew := depth > 1 && len(x.Keys) < wide/2
		bare := !isLeaf && len(x.Keys) == 0
		uneven := !isLeaf && len(x.Kids) != len(x.Keys)+1
		good = good && !tooMany && !tooFew && !bare && !uneven
		for _, kid := range x.Kids {
			look(kid, depth+1)
		}
	}
	look(x, 1)
	return good && len(depths) == 1
}

// shapes returns all trees of so many nodes, without keys.
func shapes(nodes int) []impl.Tree {
	var all []impl.Tree
	for _, kids := range forests(nodes - 1) {
		all = append(all, impl.Tree{Kids: kids})
	}
	return all
}

// forests returns all lists of trees that have so many nodes together.
func forests(nodes int) [][]impl.Tree {
	if nodes == 0 {
		return [][]impl.Tree{nil}
	}
	var all [][]impl.Tree
	for first := 1; first <= nodes; first++ {
		for _, x := range shapes(first) {
			for _, rest := range forests(nodes - first) {
				all = append(all, append([]impl.Tree{x}, rest...))
			}
		}
	}
	return all
}

// withKeys returns a shape with as many keys in each node as counts tell, ascending in order.
func withKeys(shape impl.Tree, counts func() int, next *int) impl.Tree {
	x := impl.Tree{Keys: make([]int, counts()), Kids: make([]impl.Tree, len(shape.Kids))}
	for i := range max(len(x.Keys), len(x.Kids)) {
		if i < len(x.Kids) {
			x.Kids[i] = withKeys(shape.Kids[i], counts, next)
		}
		if i < len(x.Keys) {
			x.Keys[i] = *next
			*next++
		}
	}
	return x
}

func TestTreeValidAllSmallTrees(t *testing.T) {
	seen := 0
	for nodes := 1; nodes <= 5; nodes++ {
		for _, shape := range shapes(nodes) {
			for code := range 1 << (2 * nodes) {
				left, next := code, 0
				x := withKeys(shape, func() int { count := left % 4; left /= 4; return count }, &next)
				for wide := 0; wide <= 8; wide++ {
					if got, want := impl.TreeValid(x, wide), fitsByRules(x, wide); got != want {
						t.Fatalf("TreeValid(%s, %d) = %v", impl.FormatTree(x), wide, got)
					} else if got {
						seen++
					}
				}
			}
		}
	}
	if seen < 50 {
		t.Errorf("only %d valid trees", seen)
	}
}

// oddTrees are trees that are valid for no width, or for some, and what is told of them.
var oddTrees = []struct {
	tree         impl.Tree
	text         string
	keys         []int
	depth, nodes int
	levels       [][]int
}{
	{impl.Tree{}, "()", nil, 1, 1, [][]int{nil}},
	{impl.Tree{Keys: []int{}, Kids: []impl.Tree{}}, "()", nil, 1, 1, [][]int{nil}},
	{leaf(-7), "(-7)", []int{-7}, 1, 1, [][]int{{-7}}},
	{leaf(0), "(0)", []int{0}, 1, 1, [][]int{{0}}},
	{leaf(5, 5, 3, 1000, -20), "(5 5 3 1000 -20)", []int{5, 5, 3, 1000, -20}, 1, 1, [][]int{{5, 5, 3, 1000, -20}}},
	{leaf(math.MinInt64, math.MaxInt64), "(-9223372036854775808 9223372036854775807)", []int{math.MinInt64, math.MaxInt64}, 1, 1, [][]int{{math.MinInt64, math.MaxInt64}}},
	{over([]int{200, 3}, leaf(1)), "((1) 200 3)", []int{1, 200, 3}, 2, 2, [][]int{{200, 3}, {1}}},
	{over([]int{2}, leaf(1), leaf(3), leaf(4), leaf(5)), "((1) 2 (3) (4) (5))", []int{1, 2, 3, 4, 5}, 2, 5, [][]int{{2}, {1, 3, 4, 5}}},
	{over(nil, leaf(1), leaf(), leaf(2)), "((1) () (2))", []int{1, 2}, 2, 4, [][]int{nil, {1, 2}}},
	{over([]int{1, 2, 3}, leaf(), leaf()), "(() 1 () 2 3)", []int{1, 2, 3}, 2, 3, [][]int{{1, 2, 3}, nil}},
	{over(nil, leaf()), "(())", nil, 2, 2, [][]int{nil, nil}},
	{over(nil, over(nil, over(nil, leaf(9)))), "((((9))))", []int{9}, 4, 4, [][]int{nil, nil, nil, {9}}},
	{over([]int{4}, over([]int{2}, leaf(1), leaf(3)), leaf(5)), "(((1) 2 (3)) 4 (5))", []int{1, 2, 3, 4, 5}, 3, 5, [][]int{{4}, {2, 5}, {1, 3}}},
	{over([]int{4}, leaf(5), over([]int{2}, leaf(1), leaf(3))), "((5) 4 ((1) 2 (3)))", []int{5, 4, 1, 2, 3}, 3, 5, [][]int{{4}, {5, 2}, {1, 3}}},
	{over([]int{8}, over([]int{4}, leaf(2), leaf(6)), over([]int{12, 14}, leaf(10, 11), leaf(13), leaf(15))),
		"(((2) 4 (6)) 8 ((10 11) 12 (13) 14 (15)))", []int{2, 4, 6, 8, 10, 11, 12, 13, 14, 15}, 3, 8, [][]int{{8}, {4, 12, 14}, {2, 6, 10, 11, 13, 15}}},
}

func TestTreesOfAnyValues(t *testing.T) {
	for _, c := range oddTrees {
		if got := impl.FormatTree(c.tree); got != c.text {
			t.Errorf("FormatTree = %q, not %q", got, c.text)
		}
		if got := impl.KeysOf(c.tree); !slices.Equal(got, c.keys) {
			t.Errorf("KeysOf(%s) = %v", c.text, got)
		}
		if got := impl.DepthOf(c.tree); got != c.depth {
			t.Errorf("DepthOf(%s) = %d", c.text, got)
		}
		if got := impl.CountNodes(c.tree); got != c.nodes {
			t.Errorf("CountNodes(%s) = %d", c.text, got)
		}
		for i, want := range c.levels {
			if got := impl.LevelOf(c.tree, i+1); !slices.Equal(got, want) {
				t.Errorf("LevelOf(%s, %d) = %v", c.text, i+1, got)
			}
		}
	}
}

func TestLevelOfDepthsWithoutNodes(t *testing.T) {
	for _, c := range oddTrees {
		for _, depth := range []int{math.MinInt, -2, -1, 0, c.depth + 1, c.depth + 2, 100, math.MaxInt} {
			if got := impl.LevelOf(c.tree, depth); len(got) != 0 {
				t.Errorf("LevelOf(%s, %d) = %v", c.text, depth, got)
			}
		}
	}
}

func TestFullNodes(t *testing.T) {
	for _, c := range []struct {
		tree  impl.Tree
		wants map[int]int
	}{
		{leaf(), map[int]int{0: 1}},
		{leaf(1, 2, 3), map[int]int{3: 1}},
		{leaf(from(0, 9)...), map[int]int{9: 1}},
		{over([]int{1}, leaf(), leaf()), map[int]int{0: 2, 1: 1}},
		{over([]int{4, 8}, leaf(1, 2), leaf(6), leaf(9)), map[int]int{1: 2, 2: 2}},
		{over([]int{4}, over([]int{2}, leaf(1), leaf(3)), leaf(5, 6)), map[int]int{1: 4, 2: 1}},
	} {
		for _, wide := range []int{math.MinInt, -1, 0, 1, 2, 3, 4, 5, 6, 7, 9, 10, math.MaxInt} {
			if got := impl.FullNodes(c.tree, wide); got != c.wants[wide] {
				t.Errorf("FullNodes(%s, %d) = %d", impl.FormatTree(c.tree), wide, got)
			}
		}
	}
}

func TestSameTree(t *testing.T) {
	different := []impl.Tree{
		leaf(), leaf(1), leaf(2), leaf(1, 2), leaf(2, 1), leaf(1, 2, 3), over(nil, leaf()), over(nil, leaf(1)),
		over(nil, leaf(), leaf()), over([]int{2}, leaf(1), leaf(3)), over([]int{2}, leaf(3), leaf(1)),
		over([]int{2}, leaf(1)), over([]int{2}, leaf(1), leaf(4)), over([]int{2}, leaf(1), leaf(3), leaf()),
		over([]int{4}, leaf(1), leaf(3)), over([]int{2, 3}, leaf(1)), over([]int{2}, leaf(1), leaf(3, 4)),
		over([]int{2}, leaf(1), over(nil, leaf(3))), over([]int{2}, leaf(1), over(nil, leaf(4))),
	}
	for i, a := range different {
		for j, b := range different {
			if got := impl.SameTree(a, copyOf(b)); got != (i == j) {
				t.Errorf("SameTree(%s, %s) = %v", impl.FormatTree(a), impl.FormatTree(b), got)
			}
		}
	}
	empty := impl.Tree{Keys: []int{}, Kids: []impl.Tree{}}
	if !impl.SameTree(impl.Tree{}, empty) || !impl.SameTree(empty, impl.Tree{}) || !impl.SameTree(over(nil, empty), over([]int{}, leaf())) {
		t.Error("nil and empty slices are not the same")
	}
}

func TestParseTreeTexts(t *testing.T) {
	for _, c := range []struct {
		text string
		tree impl.Tree
	}{
		{"()", leaf()},
		{"(0)", leaf(0)},
		{"(99)", leaf(99)},
		{"(10)", leaf(10)},
		{"(3 2 1 1)", leaf(3, 2, 1, 1)},
		{"(1 2 3 4 5 6 7 8)", leaf(from(1, 8)...)},
		{"(())", over(nil, leaf())},
		{"((1))", over(nil, leaf(1))},
		{"(((1 2)))", over(nil, over(nil, leaf(1, 2)))},
		{"(() 0 ())", over([]int{0}, leaf(), leaf())},
		{"((9) 5 (1))", over([]int{5}, leaf(9), leaf(1))},
		{"((1) 2 ((3) 4 (5)))", over([]int{2}, leaf(1), over([]int{4}, leaf(3), leaf(5)))},
		{"((1 2) 4 (6) 8 (9))", over([]int{4, 8}, leaf(1, 2), leaf(6), leaf(9))},
	} {
		got, ok := impl.ParseTree(c.text)
		if !ok || !impl.SameTree(got, c.tree) || impl.FormatTree(got) != c.text {
			t.Errorf("ParseTree(%q) = %v, %v", c.text, got, ok)
		}
	}
}

func TestParseTreeTextsOfNoTree(t *testing.T) {
	for _, text := range []string{
		"", " ", "(", ")", ")(", "1", "-", "x", "(1", "1)", "(1))", "((1)", "()()", "() ()", " ()", "() ", "()\n", "\n()",
		"( )", "( 1)", "(1 )", "(1  2)", "(1,2)", "(1\t2)", "(1\n2)", "(1 2 )", "( )1", "(12 )",
		"(01)", "(00)", "(007)", "(-1)", "(-0)", "(+1)", "(100)", "(999)", "(1 100)", "(1_0)", "(0x1)", "(1.0)", "(1e1)",
		"(18446744073709551617)", "(99999999999999999999999)", "(a)", "(١)",
		"((1) (2))", "((1) 2)", "(1 (2))", "(1 (2) 3)", "((1) 2 (3) 4)", "((1) 2 3 (4))", "((1) 2 (3) (4))", "((1)2(3))",
		"((1) 2(3))", "((1)2 (3))", "((1)  2 (3))", "((1) 2  (3))", "((1) 02 (3))", "((1) 100 (3))", "((1) -2 (3))",
		"((1) )", "((1) 2 )", "( (1))", "((1)(2))", "(()())", "((1) 2 (3)) ", "((1) 2 (3)))", "[1]", "(1\x00)", "\x00", "(\xff)", "(1\x002)",
	} {
		if got, ok := impl.ParseTree(text); ok || !isZero(got) {
			t.Errorf("ParseTree(%q) = %v, %v", text, got, ok)
		}
	}
}

func TestParseTreeLongTexts(t *testing.T) {
	nested := func(depth int) string { return strings.Repeat("(", depth) + strings.Repeat(")", depth) }
	flat := func(first string, more int) string { return "(" + first + strings.Repeat(" 7", more) + ")" }
	for _, c := range []struct {
		text string
		size int
		good bool
	}{
		{nested(999), 1998, true},
		{nested(1000), 2000, true},
		{nested(1001), 2002, false},
		{flat("1", 998), 1999, true},
		{flat("10", 998), 2000, true},
		{flat("1", 999), 2001, false},
		{flat("10", 999), 2002, false},
		{strings.Repeat("(", 2000), 2000, false},
		{strings.Repeat("(", 1000000), 1000000, false},
	} {
		got, ok := impl.ParseTree(c.text)
		if len(c.text) != c.size || ok != c.good || !ok && !isZero(got) || ok && impl.FormatTree(got) != c.text {
			t.Errorf("a text of %d bytes: %v", len(c.text), ok)
		}
	}
}

// textsOf returns all texts of trees of so many bytes that are made of the digits 0 and 5, and the trees.
func textsOf(size int) map[string]impl.Tree {
	all := map[string]impl.Tree{}
	keyOf := map[string]int{"0": 0, "5": 5, "50": 50, "55": 55}
	var leaves func(text string, x impl.Tree)
	leaves = func(text string, x impl.Tree) {
		if len(text)+1 == size {
			all[text+")"] = x
		}
		for digits, key := range keyOf {
			more := text + " " + digits
			if len(x.Keys) == 0 {
				more = text + digits
			}
			if len(more) < size {
				leaves(more, leaf(append(slices.Clone(x.Keys), key)...))
			}
		}
	}
	var inner func(text string, x impl.Tree)
	inner = func(text string, x impl.Tree) {
		for kidSize := 2; len(text)+kidSize < size; kidSize++ {
			for kidText, kid := range textsOf(kidSize) {
				y := over(x.Keys, append(slices.Clone(x.Kids), kid)...)
				if len(text)+kidSize+1 == size {
					all[text+kidText+")"] = y
				}
				for digits, key := range keyOf {
					inner(text+kidText+" "+digits+" ", over(append(slices.Clone(x.Keys), key), y.Kids...))
				}
			}
		}
	}
	leaves("(", impl.Tree{})
	inner("(", impl.Tree{})
	return all
}

// everyText calls a function with each text of so many bytes that are some of others.
func everyText(bytes string, size int, check func(text string)) {
	text := make([]byte, size)
	var try func(at int)
	try = func(at int) {
		if at == size {
			check(string(text))
			return
		}
		for i := range len(bytes) {
			text[at] = bytes[i]
			try(at + 1)
		}
	}
	try(0)
}

func TestParseTreeAllShortTexts(t *testing.T) {
	for size := range 10 {
		good := textsOf(size)
		parsedTexts := 0
		everyText("() 05", size, func(text string) {
			want, isGood := good[text]
			got, ok := impl.ParseTree(text)
			if ok != isGood || !impl.SameTree(got, want) {
				t.Fatalf("ParseTree(%q) = %v, %v", text, got, ok)
			}
			if ok {
				parsedTexts++
			}
		})
		if parsedTexts != len(good) {
			t.Errorf("%d of %d texts of %d bytes", parsedTexts, len(good), size)
		}
	}
}

func TestParseTreeOfFormatTree(t *testing.T) {
	for _, c := range oddTrees {
		want := c.tree
		good := true
		var look func(x impl.Tree)
		look = func(x impl.Tree) {
			good = good && (len(x.Kids) == 0 || len(x.Kids) == len(x.Keys)+1)
			for _, key := range x.Keys {
				good = good && 0 <= key && key <= impl.MaxKey
			}
			for _, kid := range x.Kids {
				look(kid)
			}
		}
		look(want)
		if got, ok := impl.ParseTree(impl.FormatTree(want)); ok != good || ok && !impl.SameTree(got, want) || !ok && !isZero(got) {
			t.Errorf("ParseTree(%s) = %v, %v", c.text, got, ok)
		}
	}
}

func TestTreesAreNotChanged(t *testing.T) {
	for _, c := range oddTrees {
		before := copyOf(c.tree)
		for number := -1; number <= 7; number++ {
			impl.TreeValid(c.tree, number)
			impl.LevelOf(c.tree, number)
			impl.FullNodes(c.tree, number)
		}
		impl.FormatTree(c.tree)
		impl.KeysOf(c.tree)
		impl.DepthOf(c.tree)
		impl.CountNodes(c.tree)
		impl.SameTree(c.tree, impl.Tree{})
		impl.SameTree(impl.Tree{}, c.tree)
		if !reflect.DeepEqual(copyOf(c.tree), before) {
			t.Errorf("%s has changed", c.text)
		}
	}
}

func TestKeysShareNoMemory(t *testing.T) {
	room := []int{1, 2, 3, 70, 71, 72}
	x := over([]int{8}, impl.Tree{Keys: room[:3]}, leaf(9))
	for _, of := range []func() []int{
		func() []int { return impl.KeysOf(x) },
		func() []int { return impl.LevelOf(x, 1) },
		func() []int { return impl.LevelOf(x, 2) },
		func() []int { return impl.KeysOf(x.Kids[0]) },
		func() []int { return impl.LevelOf(x.Kids[0], 1) },
	} {
		got, other := of(), of()
		want := slices.Clone(other)
		got = got[:cap(got)]
		for i := range got {
			got[i] = 50
		}
		if !slices.Equal(room, []int{1, 2, 3, 70, 71, 72}) || impl.FormatTree(x) != "((1 2 3) 8 (9))" || !slices.Equal(other, want) || !slices.Equal(of(), want) {
			t.Errorf("memory is shared: %v, %s", room, impl.FormatTree(x))
		}
	}
}

// overwriteRoom overwrites all slices of a tree beyond their length.
func overwriteRoom(x impl.Tree) {
	for i := len(x.Keys); i < cap(x.Keys); i++ {
		x.Keys[:cap(x.Keys)][i] = 77
	}
	for i := len(x.Kids); i < cap(x.Kids); i++ {
		x.Kids[:cap(x.Kids)][i] = leaf(77)
	}
	for _, kid := range x.Kids {
		overwriteRoom(kid)
	}
}

func TestParsedTreesShareNoMemory(t *testing.T) {
	const text = "(((1 2) 3 (4)) 5 ((6) 7 (8) 9 (10 11 12)))"
	x, y := parsed(t, text), parsed(t, text)
	overwriteRoom(x)
	if got := impl.FormatTree(x); got != text {
		t.Errorf("with other values beyond its slices it is %s", got)
	}
	x.Keys[0], x.Kids[0].Keys[0], x.Kids[1].Kids[2] = 90, 91, leaf()
	if got := impl.FormatTree(y); got != text {
		t.Errorf("another result has become %s", got)
	}
}

func TestTreesThatHoldThemselves(t *testing.T) {
	for _, keys := range [][]int{nil, {1}, {1, 2}} {
		for kids := 1; kids <= 3; kids++ {
			x := over(keys, make([]impl.Tree, kids)...)
			x.Kids[kids-1] = x
			checkEndless(t, x)
			x.Kids[0] = x
			checkEndless(t, x)
			checkEndless(t, over([]int{5}, leaf(4), x))
		}
	}
}

func TestTreesThatHoldThemselvesFarBelow(t *testing.T) {
	for round := 1; round <= 9; round++ {
		for above := range 9 {
			last := over([]int{1}, leaf(0), leaf())
			x := last
			for range round - 1 {
				x = over([]int{1}, leaf(0), x)
			}
			last.Kids[1] = x
			for range above {
				x = over([]int{3, 5}, leaf(2), x, leaf(4))
			}
			checkEndless(t, x)
		}
	}
}

// checkEndless checks that functions return for a tree that holds itself, and that no text, key or node is told of it.
func checkEndless(t *testing.T, x impl.Tree) {
	t.Helper()
	for wide := 0; wide <= 7; wide++ {
		if impl.TreeValid(x, wide) || impl.FullNodes(x, wide) != 0 || len(impl.LevelOf(x, wide)) != 0 {
			t.Errorf("it is told with %d", wide)
		}
	}
	if impl.FormatTree(x) != "" || len(impl.KeysOf(x)) != 0 || impl.DepthOf(x) != 0 || impl.CountNodes(x) != 0 {
		t.Error("it is told")
	}
	if impl.SameTree(x, x) || impl.SameTree(x, leaf()) || impl.SameTree(leaf(), x) {
		t.Error("it is the same as some tree")
	}
}

func TestTreesWithSharedKids(t *testing.T) {
	x := leaf(1)
	for range 60 {
		x = over([]int{1}, x, x)
	}
	checkWides(t, over([]int{1}, leaf(0), leaf(2)), 2, 3)
	for wide := impl.MinWide; wide <= impl.MaxWide; wide++ {
		if impl.TreeValid(x, wide) {
			t.Errorf("TreeValid(%d) of a tree that is too deep", wide)
		}
	}
	y, text := leaf(3), "(3)"
	for depth := 2; depth <= 6; depth++ {
		y, text = over([]int{3}, y, y), "("+text+" 3 "+text+")"
		if impl.FormatTree(y) != text || impl.CountNodes(y) != 1<<depth-1 || impl.DepthOf(y) != depth || !impl.SameTree(y, copyOf(y)) {
			t.Errorf("a tree with the same kid twice: %s", impl.FormatTree(y))
		}
	}
}

func TestTreesWithMoreNodesThanOneCanVisit(t *testing.T) {
	x := leaf(1)
	for range 60 {
		x = over([]int{2}, x, x)
	}
	for depth := 1; depth <= 5; depth++ {
		if got := impl.LevelOf(x, depth); len(got) != 1<<(depth-1) || got[0] != 2 {
			t.Errorf("LevelOf(%d) = %v", depth, got)
		}
	}
	for i, y := range []impl.Tree{leaf(), leaf(2), over([]int{2}, leaf(1), leaf(1)), over([]int{3}, x, x), over([]int{2}, x)} {
		if impl.SameTree(x, y) || impl.SameTree(y, x) {
			t.Errorf("it is the same as tree %d", i)
		}
	}
}

func TestDeepTrees(t *testing.T) {
	checkDeep(t, 100000)
	checkDeep(t, 1<<20+1)
}

func TestTreesTooDeepForCallsWithinCalls(t *testing.T) {
	if testing.Short() {
		t.Skip("it takes much memory")
	}
	const depth = 4000000
	x := leaf(7)
	for range depth - 1 {
		x = over(nil, x)
	}
	if impl.DepthOf(x) != depth || !slices.Equal(impl.KeysOf(x), []int{7}) || len(impl.FormatTree(x)) != 2*depth+1 {
		t.Error("it is not told")
	}
	if !slices.Equal(impl.LevelOf(x, depth), []int{7}) || !impl.SameTree(x, x) || impl.TreeValid(x, 2) {
		t.Error("it is not looked through")
	}
}

// checkDeep checks what is told of a tree of so many nodes, in which each one but the last has one kid and one key.
func checkDeep(t *testing.T, depth int) {
	t.Helper()
	x, y := leaf(7), leaf(8)
	for range depth - 1 {
		x, y = over([]int{5}, x), over([]int{5}, y)
	}
	text := strings.Repeat("(", depth-1) + "(7)" + strings.Repeat(" 5)", depth-1)
	if impl.FormatTree(x) != text {
		t.Errorf("FormatTree of %d nodes", depth)
	}
	keys := impl.KeysOf(x)
	if len(keys) != depth || keys[0] != 7 || slices.ContainsFunc(keys[1:], func(key int) bool { return key != 5 }) {
		t.Errorf("KeysOf of %d nodes: %d keys", depth, len(keys))
	}
	if impl.DepthOf(x) != depth || impl.CountNodes(x) != depth || impl.FullNodes(x, 1) != depth || impl.FullNodes(x, 0) != 0 {
		t.Errorf("a tree of %d nodes is not counted", depth)
	}
	if !slices.Equal(impl.LevelOf(x, depth), []int{7}) || !slices.Equal(impl.LevelOf(x, depth-1), []int{5}) || len(impl.LevelOf(x, depth+1)) != 0 {
		t.Errorf("LevelOf of %d nodes", depth)
	}
	if !impl.SameTree(x, x) || impl.SameTree(x, y) || impl.SameTree(x, x.Kids[0]) || impl.SameTree(x.Kids[0], x) {
		t.Errorf("SameTree of %d nodes", depth)
	}
	for wide := impl.MinWide; wide <= impl.MaxWide; wide++ {
		if impl.TreeValid(x, wide) {
			t.Errorf("TreeValid(%d) of %d nodes", wide, depth)
		}
	}
}
