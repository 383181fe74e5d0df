package tests

import (
	"math"
	"reflect"
	"slices"
	"testing"

	"loop.example/fulltrees/impl"
)

// growth tells how trees are filled: how many keys the next leaf or inner node has.
type growth struct{ leaf, inner func() int }

// steady returns the growth of trees whose nodes have as many keys as told.
func steady(leafKeys, innerKeys int) growth {
	return growth{func() int { return leafKeys }, func() int { return innerKeys }}
}

// byTurns returns the growth of trees whose nodes have the numbers of keys of a list by turns.
func byTurns(counts ...int) growth {
	at := -1
	next := func() int { at++; return counts[at%len(counts)] }
	return growth{next, next}
}

// grown returns a tree of a depth that is filled so, with the keys that key tells for 0, 1 and so on.
func grown(depth int, g growth, key func(int) int) impl.Tree {
	count := 0
	next := func() int { count++; return key(count - 1) }
	var grow func(depth int) impl.Tree
	grow = func(depth int) impl.Tree {
		var x impl.Tree
		if depth == 1 {
			for range g.leaf() {
				x.Keys = append(x.Keys, next())
			}
			return x
		}
		x.Kids = []impl.Tree{grow(depth - 1)}
		for range g.inner() {
			x.Keys = append(x.Keys, next())
			x.Kids = append(x.Kids, grow(depth-1))
		}
		return x
	}
	return grow(depth)
}

// plain tells the keys 0, 1, 2 and so on, odd 1, 3, 5 and so on, thirds 0, 3, 6 and so on, and late those up to 99.
func plain(i int) int  { return i }
func odd(i int) int    { return 2*i + 1 }
func thirds(i int) int { return 3 * i }
func late(i int) int   { return 70 + i }

// someTrees returns trees that are valid for some width, of many shapes.
func someTrees(t *testing.T) []impl.Tree {
	t.Helper()
	all := []impl.Tree{leaf(), leaf(0), leaf(99), leaf(50), leaf(0, 99), over([]int{50}, leaf(0), leaf(99))}
	for wide := impl.MinWide; wide <= impl.MaxWide; wide++ {
		all = append(all, leaf(from(20, wide)...))
		for inner := 1; inner <= wide; inner++ {
			all = append(all, grown(2, steady(wide/2, inner), thirds), grown(2, steady(wide/2, inner), late), grown(2, steady(wide, inner), odd))
		}
	}
	for depth := 2; depth <= 6; depth++ {
		all = append(all, grown(depth, steady(1, 1), plain))
	}
	all = append(all,
		grown(3, steady(1, 2), odd), grown(3, steady(1, 2), thirds), grown(3, steady(2, 2), odd), grown(4, steady(1, 1), thirds),
		grown(4, steady(1, 2), plain), grown(5, steady(1, 1), odd), grown(5, steady(2, 1), odd), grown(3, steady(2, 3), plain),
		grown(3, steady(3, 3), plain), grown(3, steady(3, 2), odd), grown(3, byTurns(1, 2), odd), grown(3, byTurns(1, 2, 2), plain),
		grown(4, byTurns(1, 2, 1), plain), grown(3, byTurns(2, 3, 1), odd), grown(3, byTurns(3, 2, 4), plain), grown(3, byTurns(4, 2, 3, 3), plain))
	for _, x := range all {
		if !validForSome(x) {
			t.Fatalf("%s is valid for no width", impl.FormatTree(x))
		}
	}
	return all
}

// validForSome reports whether a tree is valid for some width.
func validForSome(x impl.Tree) bool {
	for wide := impl.MinWide; wide <= impl.MaxWide; wide++ {
		if impl.TreeValid(x, wide) {
			return true
		}
	}
	return false
}

// smallTrees returns all trees with the keys 1, 3, 5 and so on that have so many nodes at most, and are valid for some width.
func smallTrees(nodes int) []impl.Tree {
	var all []impl.Tree
	for count := 1; count <= nodes; count++ {
		for _, shape := range shapes(count) {
			for code := range 1 << (2 * count) {
				left, next := code, 0
				x := withKeys(shape, func() int { keys := left % 4; left /= 4; return keys }, &next)
				if validForSome(x) {
					all = append(all, relabelled(x))
				}
			}
		}
	}
	return all
}

// relabelled returns a tree with each key k become 2k+1.
func relabelled(x impl.Tree) impl.Tree {
	y := copyOf(x)
	for i := range y.Keys {
		y.Keys[i] = odd(y.Keys[i])
	}
	for i := range y.Kids {
		y.Kids[i] = relabelled(y.Kids[i])
	}
	return y
}

// numbers are all keys, and numbers that are none.
func numbers() []int {
	return append(from(-3, 106), math.MinInt, math.MinInt+1, -1000, 1000, math.MaxInt-1, math.MaxInt)
}

// walkTo says in other words which kids one goes to to look for a number.
func walkTo(x impl.Tree, number int) ([]int, bool) {
	if slices.Contains(x.Keys, number) {
		return nil, true
	}
	if len(x.Kids) == 0 {
		return nil, false
	}
	less := 0
	for _, key := range x.Keys {
		if key < number {
			less++
		}
	}
	path, found := walkTo(x.Kids[less], number)
	return append([]int{less}, path...), found
}

// visitsOfRange says in other words how many nodes are visited to find a range.
func visitsOfRange(x impl.Tree, low, high int) int {
	visits := 1
	for i, kid := range x.Kids {
		allBelow := i < len(x.Keys) && x.Keys[i] <= low
		allAbove := i > 0 && x.Keys[i-1] >= high
		if !allBelow && !allAbove {
			visits += visitsOfRange(kid, low, high)
		}
	}
	return visits
}

// within returns those of some numbers that are from low to high.
func within(list []int, low, high int) []int {
	return slices.DeleteFunc(slices.Clone(list), func(n int) bool { return n < low || n > high })
}

// checkNumber checks all that is told of a number in a tree that is valid for some width.
func checkNumber(t *testing.T, x impl.Tree, number int) {
	t.Helper()
	text, keys := impl.FormatTree(x), impl.KeysOf(x)
	less, more := 0, len(keys)
	for less < len(keys) && keys[less] < number {
		less++
	}
	for more > 0 && keys[more-1] > number {
		more--
	}
	if got := impl.RankOf(x, number); got != less {
		t.Errorf("RankOf(%s, %d) = %d", text, number, got)
	}
	has := slices.Contains(keys, number)
	if got := impl.HasKey(x, number); got != has {
		t.Errorf("HasKey(%s, %d) = %v", text, number, got)
	}
	path, found := walkTo(x, number)
	if got, ok := impl.PathOf(x, number); !slices.Equal(got, path) || ok != has || ok != found {
		t.Errorf("PathOf(%s, %d) = %v, %v", text, number, got, ok)
	}
	if got := impl.VisitsOf(x, number); got != len(path)+1 {
		t.Errorf("VisitsOf(%s, %d) = %d", text, number, got)
	}
	checkFound(t, "KeyAt", x, number, keys, number)
	checkFound(t, "NextKey", x, number, keys, more)
	checkFound(t, "PrevKey", x, number, keys, less-1)
}

// checkFound checks that a function finds the key with an index, or none if there is no such key.
func checkFound(t *testing.T, name string, x impl.Tree, number int, keys []int, at int) {
	t.Helper()
	find := map[string]func(impl.Tree, int) (int, bool){"KeyAt": impl.KeyAt, "NextKey": impl.NextKey, "PrevKey": impl.PrevKey}[name]
	want, ok := 0, 0 <= at && at < len(keys)
	if ok {
		want = keys[at]
	}
	if got, found := find(x, number); got != want || found != ok {
		t.Errorf("%s(%s, %d) = %d, %v", name, impl.FormatTree(x), number, got, found)
	}
}

// checkRange checks what is told of a range in a tree that is valid for some width.
func checkRange(t *testing.T, x impl.Tree, low, high int) {
	t.Helper()
	visits := -1
	if low <= high {
		visits = visitsOfRange(x, low, high)
	}
	if got := impl.RangeVisits(x, low, high); got != visits {
		t.Errorf("RangeVisits(%s, %d, %d) = %d, not %d", impl.FormatTree(x), low, high, got, visits)
	}
	if got := impl.RangeOf(x, low, high); !slices.Equal(got, within(impl.KeysOf(x), low, high)) {
		t.Errorf("RangeOf(%s, %d, %d) = %v", impl.FormatTree(x), low, high, got)
	}
}

func TestFindingInTreesOfManyShapes(t *testing.T) {
	for _, x := range someTrees(t) {
		for _, number := range numbers() {
			checkNumber(t, x, number)
		}
	}
}

func TestRangesInTreesOfManyShapes(t *testing.T) {
	ends := append(from(-1, 12), 20, 21, 35, 49, 50, 51, 77, 98, 99, 100, math.MinInt, math.MaxInt)
	for _, x := range someTrees(t) {
		for _, low := range ends {
			for _, high := range ends {
				checkRange(t, x, low, high)
			}
		}
	}
}

func TestFindingInAllSmallTrees(t *testing.T) {
	trees := smallTrees(5)
	if len(trees) < 50 {
		t.Fatalf("only %d trees", len(trees))
	}
	for _, x := range trees {
		last := 2*len(impl.KeysOf(x)) + 1
		for low := -1; low <= last; low++ {
			checkNumber(t, x, low)
			for high := -1; high <= last; high++ {
				checkRange(t, x, low, high)
			}
		}
	}
}

func TestRangesOfOneNumber(t *testing.T) {
	x := parsed(t, "((1 2) 4 (6) 8 (9))")
	for _, c := range []struct {
		number int
		keys   []int
		visits int
	}{
		{math.MinInt, nil, 2}, {-1, nil, 2}, {0, nil, 2}, {1, []int{1}, 2}, {3, nil, 2}, {4, []int{4}, 1}, {5, nil, 2}, {6, []int{6}, 2},
		{7, nil, 2}, {8, []int{8}, 1}, {9, []int{9}, 2}, {10, nil, 2}, {100, nil, 2}, {math.MaxInt, nil, 2},
	} {
		if got := impl.RangeOf(x, c.number, c.number); !slices.Equal(got, c.keys) {
			t.Errorf("RangeOf(%d, %d) = %v", c.number, c.number, got)
		}
		if got := impl.RangeVisits(x, c.number, c.number); got != c.visits {
			t.Errorf("RangeVisits(%d, %d) = %d", c.number, c.number, got)
		}
	}
	if impl.RangeVisits(x, 4, 3) != -1 || impl.RangeVisits(x, math.MaxInt, math.MinInt) != -1 || len(impl.RangeOf(x, 9, 1)) != 0 {
		t.Error("a range whose ends are the wrong way round is told")
	}
}

func TestFindingInTreeOfManyWidths(t *testing.T) {
	x := parsed(t, "((1 2) 4 (6) 8 (9))")
	for _, c := range []struct {
		number int
		path   []int
		has    bool
		rank   int
		next   int
		prev   int
	}{
		{-1, []int{0}, false, 0, 1, -1}, {1, []int{0}, true, 0, 2, -1}, {2, []int{0}, true, 1, 4, 1}, {3, []int{0}, false, 2, 4, 2},
		{4, nil, true, 2, 6, 2}, {5, []int{1}, false, 3, 6, 4}, {6, []int{1}, true, 3, 8, 4}, {7, []int{1}, false, 4, 8, 6},
		{8, nil, true, 4, 9, 6}, {9, []int{2}, true, 5, -1, 8}, {10, []int{2}, false, 6, -1, 9}, {500, []int{2}, false, 6, -1, 9},
	} {
		if path, has := impl.PathOf(x, c.number); !slices.Equal(path, c.path) || has != c.has || impl.HasKey(x, c.number) != c.has || impl.VisitsOf(x, c.number) != len(c.path)+1 {
			t.Errorf("PathOf(%d) = %v, %v", c.number, path, has)
		}
		if got := impl.RankOf(x, c.number); got != c.rank {
			t.Errorf("RankOf(%d) = %d", c.number, got)
		}
		if got, ok := impl.NextKey(x, c.number); ok != (c.next >= 0) || got != max(c.next, 0) {
			t.Errorf("NextKey(%d) = %d, %v", c.number, got, ok)
		}
		if got, ok := impl.PrevKey(x, c.number); ok != (c.prev >= 0) || got != max(c.prev, 0) {
			t.Errorf("PrevKey(%d) = %d, %v", c.number, got, ok)
		}
	}
	checkNumber(t, parsed(t, "((1 2 3 4 5) 6 (7 8))"), 5)
	checkNumber(t, parsed(t, "((1 2 3 4 5 6) 7 (8 9 10 11 12 13))"), 12)
}

// noTrees returns trees that are valid for no width.
func noTrees(t *testing.T) []impl.Tree {
	t.Helper()
	all := []impl.Tree{leaf(-1), leaf(100), leaf(2, 1), leaf(1, 1), leaf(from(0, 7)...), grown(7, steady(1, 1), plain)}
	for _, text := range []string{
		"((3) 2 (1))", "((1) 2 (2))", "(())", "((1))", "(() 1 (2))", "((1) 2 ((3) 4 (5)))", "((1 2 3 4) 5 (6))", "((1 2 3 4 5 6) 7 (8 9))",
	} {
		all = append(all, parsed(t, text))
	}
	all = append(all, over([]int{4}, leaf(1), leaf(5), leaf(6)), over([]int{2, 4}, leaf(1), leaf(3)), over(nil, leaf(1), leaf(2)))
	x := over([]int{3}, leaf(2), leaf())
	x.Kids[1] = x
	y := leaf(3)
	for range 1000000 {
		y = over(nil, y)
	}
	return append(all, x, y)
}

func TestFindingInTreesOfNoWidth(t *testing.T) {
	for at, x := range noTrees(t) {
		for _, number := range []int{math.MinInt, -1, 0, 1, 2, 3, 5, 99, 100, math.MaxInt} {
			path, found := impl.PathOf(x, number)
			key, ok := impl.KeyAt(x, number)
			if len(path) != 0 || found || key != 0 || ok || impl.HasKey(x, number) || impl.RankOf(x, number) != -1 || impl.VisitsOf(x, number) != -1 {
				t.Errorf("%d is looked for in tree %d", number, at)
			}
			next, one := impl.NextKey(x, number)
			prev, two := impl.PrevKey(x, number)
			if next != 0 || one || prev != 0 || two {
				t.Errorf("%d has neighbours in tree %d", number, at)
			}
			for _, high := range []int{number, 0, 5, 100} {
				if len(impl.RangeOf(x, number, high)) != 0 || impl.RangeVisits(x, number, high) != -1 {
					t.Errorf("the range from %d to %d is told in tree %d", number, high, at)
				}
			}
		}
	}
}

func TestFindingChangesNoTree(t *testing.T) {
	room := []int{1, 2, 3, 70, 71, 72}
	x := over([]int{8}, impl.Tree{Keys: room[:3]}, leaf(9))
	before := copyOf(x)
	for number := -1; number <= 10; number++ {
		checkNumber(t, x, number)
		checkRange(t, x, 2, number)
	}
	if !reflect.DeepEqual(copyOf(x), before) || !slices.Equal(room, []int{1, 2, 3, 70, 71, 72}) {
		t.Error("the tree has changed")
	}
	for _, of := range []func() []int{
		func() []int { return impl.RangeOf(x, 0, 99) },
		func() []int { return impl.RangeOf(x, 1, 3) },
		func() []int { return impl.RangeOf(x.Kids[0], 2, 3) },
		func() []int { path, _ := impl.PathOf(x, 9); return path },
		func() []int { path, _ := impl.PathOf(x, 3); return path },
	} {
		got, other := of(), of()
		want := slices.Clone(other)
		got = got[:cap(got)]
		for i := range got {
			got[i] = 50
		}
		if !slices.Equal(other, want) || !slices.Equal(of(), want) || !reflect.DeepEqual(copyOf(x), before) || !slices.Equal(room, []int{1, 2, 3, 70, 71, 72}) {
			t.Errorf("memory is shared: %v", want)
		}
	}
}
