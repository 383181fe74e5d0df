package tests

import (
	"math"
	"reflect"
	"slices"
	"strings"
	"sync"
	"testing"

	"loop.example/fulltrees/impl"
)

// noWides are numbers that are no widths.
var noWides = []int{math.MinInt, -2, -1, 0, 1, 7, 8, 99, math.MaxInt}

// noKeys are numbers that are no keys.
var noKeys = []int{math.MinInt, -100, -1, 100, 101, 1000, math.MaxInt}

// putIn says in other words what becomes of a node by a key: one node, or two and the key between them, and how many are split.
func putIn(x impl.Tree, wide, key int) ([]impl.Tree, []int, int) {
	y, splits := copyOf(x), 0
	at, _ := slices.BinarySearch(y.Keys, key)
	if len(y.Kids) == 0 {
		y.Keys = slices.Insert(y.Keys, at, key)
	} else {
		nodes, between, below := putIn(y.Kids[at], wide, key)
		y.Keys = slices.Insert(y.Keys, at, between...)
		y.Kids = slices.Replace(y.Kids, at, at+1, nodes...)
		splits = below
	}
	if len(y.Keys) > wide {
		splits++
	}
	nodes, between := halved(y, wide)
	return nodes, between, splits
}

// halved says in other words what becomes of a node that may have too many keys: one node, or two and the key between them.
func halved(x impl.Tree, wide int) ([]impl.Tree, []int) {
	n := len(x.Keys)
	if n <= wide {
		return []impl.Tree{x}, nil
	}
	left, right := leaf(x.Keys[:n/2]...), leaf(x.Keys[n/2+1:]...)
	if len(x.Kids) > 0 {
		left.Kids, right.Kids = x.Kids[:n/2+1], x.Kids[n/2+1:]
	}
	return []impl.Tree{left, right}, []int{x.Keys[n/2]}
}

// withKey says in other words which tree a key makes of one that does not have it, how many nodes are split, and whether it grows.
func withKey(x impl.Tree, wide, key int) (impl.Tree, int, bool) {
	nodes, between, splits := putIn(x, wide, key)
	if len(nodes) == 1 {
		return nodes[0], splits, false
	}
	return over(between, nodes...), splits, true
}

// roomOf says in other words how many keys may be inserted without a node being split.
func roomOf(x impl.Tree, wide int) int {
	if len(x.Kids) == 0 {
		return wide - len(x.Keys)
	}
	room := wide
	for _, kid := range x.Kids {
		room = min(room, roomOf(kid, wide))
	}
	return room
}

// checkNotInserted checks that a key is not inserted.
func checkNotInserted(t *testing.T, x impl.Tree, wide, key int) {
	t.Helper()
	if y, ok := impl.InsertKey(x, wide, key); ok || !isZero(y) {
		t.Errorf("InsertKey(%s, %d, %d) = %s, %v", impl.FormatTree(x), wide, key, impl.FormatTree(y), ok)
	}
	if got := impl.SplitsBy(x, wide, key); got != -1 {
		t.Errorf("SplitsBy(%s, %d, %d) = %d", impl.FormatTree(x), wide, key, got)
	}
	if impl.GrowsBy(x, wide, key) {
		t.Errorf("GrowsBy(%s, %d, %d)", impl.FormatTree(x), wide, key)
	}
}

// checkInserted checks what becomes of a valid tree by a number: a tree with one key more, or none if it has it or it is no key.
func checkInserted(t *testing.T, x impl.Tree, wide, key int) {
	t.Helper()
	before := impl.KeysOf(x)
	at, has := slices.BinarySearch(before, key)
	if has || key < 0 || key > impl.MaxKey {
		checkNotInserted(t, x, wide, key)
		return
	}
	want, splits, grows := withKey(x, wide, key)
	got, ok := impl.InsertKey(x, wide, key)
	if !ok || !impl.SameTree(got, want) {
		t.Errorf("InsertKey(%s, %d, %d) = %s, %v", impl.FormatTree(x), wide, key, impl.FormatTree(got), ok)
	}
	if !impl.TreeValid(got, wide) || !slices.Equal(impl.KeysOf(got), slices.Insert(before, at, key)) {
		t.Errorf("InsertKey(%s, %d, %d) = %s, which is no such tree", impl.FormatTree(x), wide, key, impl.FormatTree(got))
	}
	if got := impl.SplitsBy(x, wide, key); got != splits {
		t.Errorf("SplitsBy(%s, %d, %d) = %d, not %d", impl.FormatTree(x), wide, key, got, splits)
	}
	if got := impl.GrowsBy(x, wide, key); got != grows || got != (impl.DepthOf(want) > impl.DepthOf(x)) {
		t.Errorf("GrowsBy(%s, %d, %d) = %v", impl.FormatTree(x), wide, key, got)
	}
}

func TestInsertingIntoAllSmallTrees(t *testing.T) {
	inserted := 0
	for _, x := range smallTrees(5) {
		last := 2*len(impl.KeysOf(x)) + 1
		for wide := impl.MinWide; wide <= impl.MaxWide; wide++ {
			for key := -1; key <= last; key++ {
				if !impl.TreeValid(x, wide) {
					checkNotInserted(t, x, wide, key)
					continue
				}
				checkInserted(t, x, wide, key)
				inserted++
			}
		}
	}
	if inserted < 1000 {
		t.Errorf("only %d keys are inserted", inserted)
	}
}

func TestInsertingIntoTreesOfManyShapes(t *testing.T) {
	keys := append([]int{-1, 12, 100, math.MinInt, math.MaxInt}, from(0, 8)...)
	keys = append(keys, 33, 34, 49, 50, 51, 71, 77, 97, 98, 99)
	for _, x := range someTrees(t) {
		for wide := impl.MinWide; wide <= impl.MaxWide; wide++ {
			for _, key := range keys {
				if impl.TreeValid(x, wide) {
					checkInserted(t, x, wide, key)
				} else {
					checkNotInserted(t, x, wide, key)
				}
			}
		}
	}
}

func TestSplitsUpToTheRoot(t *testing.T) {
	for _, c := range []struct {
		text   string
		wide   int
		key    int
		want   string
		splits int
		grows  bool
	}{
		{"(1 2)", 2, 0, "((0) 1 (2))", 1, true},
		{"(0 2)", 2, 1, "((0) 1 (2))", 1, true},
		{"(1 2 3)", 3, 0, "((0 1) 2 (3))", 1, true},
		{"(0 1 2)", 3, 99, "((0 1) 2 (99))", 1, true},
		{"(1 2 3 4)", 4, 5, "((1 2) 3 (4 5))", 1, true},
		{"(1 2 3 4 5)", 5, 0, "((0 1 2) 3 (4 5))", 1, true},
		{"(1 2 3 4 5 6)", 6, 0, "((0 1 2) 3 (4 5 6))", 1, true},
		{"(1 2 3 4 5)", 6, 6, "(1 2 3 4 5 6)", 0, false},
		{"((0 1) 3 (4) 6 (7))", 2, 2, "(((0) 1 (2)) 3 ((4) 6 (7)))", 2, true},
		{"((0) 3 (4 5) 7 (8))", 2, 6, "(((0) 3 (4)) 5 ((6) 7 (8)))", 2, true},
		{"((0) 3 (4) 6 (7 8))", 2, 9, "(((0) 3 (4)) 6 ((7) 8 (9)))", 2, true},
		{"((1 2 4) 5 (6) 7 (8) 9 (10))", 3, 3, "(((1 2) 3 (4) 5 (6)) 7 ((8) 9 (10)))", 2, true},
		{"((1) 2 (3) 4 (5 6 7) 10 (11))", 3, 8, "(((1) 2 (3) 4 (5 6)) 7 ((8) 10 (11)))", 2, true},
		{"((1 2) 3 (4 5) 6 (7 8) 9 (11 12 13))", 3, 10, "(((1 2) 3 (4 5) 6 (7 8)) 9 ((10 11) 12 (13)))", 2, true},
		{"((0 1) 10 (11 12) 20 (21 22) 30 (31 32) 40 (41 42) 50 (51 52 53 54 55))", 5, 56,
			"(((0 1) 10 (11 12) 20 (21 22) 30 (31 32)) 40 ((41 42) 50 (51 52 53) 54 (55 56)))", 2, true},
		{"((0 1 2 3) 10 (11 12) 20 (21 22) 30 (31 32) 40 (41 42))", 4, 4,
			"(((0 1) 2 (3 4) 10 (11 12)) 20 ((21 22) 30 (31 32) 40 (41 42)))", 2, true},
		{"(((0) 1 (2)) 3 ((4) 5 (6) 7 (8 9)))", 2, 10, "(((0) 1 (2)) 3 ((4) 5 (6)) 7 ((8) 9 (10)))", 2, false},
		{"(((0) 1 (2)) 3 ((4 5) 7 (8)))", 2, 6, "(((0) 1 (2)) 3 ((4) 5 (6) 7 (8)))", 1, false},
		{"(((0) 1 (2)) 5 ((6) 7 (8)))", 2, 4, "(((0) 1 (2 4)) 5 ((6) 7 (8)))", 0, false},
		{"(((0) 1 (2 3) 5 (6)) 7 ((8) 9 (10)) 11 ((12) 13 (14)))", 2, 4,
			"((((0) 1 (2)) 3 ((4) 5 (6))) 7 (((8) 9 (10)) 11 ((12) 13 (14))))", 3, true},
	} {
		x := parsed(t, c.text)
		got, ok := impl.InsertKey(x, c.wide, c.key)
		if !ok || impl.FormatTree(got) != c.want || impl.SplitsBy(x, c.wide, c.key) != c.splits || impl.GrowsBy(x, c.wide, c.key) != c.grows {
			t.Errorf("InsertKey(%s, %d, %d) = %s, %v, and %d nodes are split", c.text, c.wide, c.key, impl.FormatTree(got), ok, impl.SplitsBy(x, c.wide, c.key))
		}
	}
}

func TestSplitsOfFullTrees(t *testing.T) {
	for _, c := range []struct{ wide, depth int }{{2, 1}, {2, 2}, {2, 3}, {2, 4}, {3, 1}, {3, 2}, {3, 3}, {4, 1}, {4, 2}, {5, 1}, {5, 2}, {6, 1}, {6, 2}} {
		x := grown(c.depth, steady(c.wide, c.wide), odd)
		if last := slices.Max(impl.KeysOf(x)); last > impl.MaxKey {
			x = grown(c.depth, steady(c.wide, c.wide), func(i int) int { return i + 1 })
		}
		if impl.FullNodes(x, c.wide) != impl.CountNodes(x) || impl.RoomOf(x, c.wide) != 0 {
			t.Fatalf("%s is not full", impl.FormatTree(x))
		}
		for key := range impl.MaxKey + 1 {
			checkInserted(t, x, c.wide, key)
			if !impl.HasKey(x, key) && (impl.SplitsBy(x, c.wide, key) != c.depth || !impl.GrowsBy(x, c.wide, key)) {
				t.Errorf("SplitsBy(%s, %d, %d) = %d", impl.FormatTree(x), c.wide, key, impl.SplitsBy(x, c.wide, key))
			}
		}
	}
}

func TestInsertingKeysThatAreThere(t *testing.T) {
	x := parsed(t, "(((0) 1 (2)) 3 ((4) 5 (98 99)))")
	for _, key := range impl.KeysOf(x) {
		checkNotInserted(t, x, 2, key)
		checkNotInserted(t, x, 3, key)
	}
	for _, key := range []int{6, 50, 97} {
		checkInserted(t, x, 2, key)
	}
	checkNotInserted(t, leaf(0), 2, 0)
	checkNotInserted(t, leaf(0, 99), 2, 99)
	checkNotInserted(t, leaf(from(0, 6)...), 6, 5)
}

func TestInsertingIntoAnEmptyTree(t *testing.T) {
	for wide := impl.MinWide; wide <= impl.MaxWide; wide++ {
		for _, key := range []int{0, 1, 50, 98, 99} {
			for _, x := range []impl.Tree{{}, {Keys: []int{}, Kids: []impl.Tree{}}} {
				checkInserted(t, x, wide, key)
			}
		}
	}
}

func TestInsertingWhatIsNoKey(t *testing.T) {
	for _, key := range noKeys {
		for wide := impl.MinWide; wide <= impl.MaxWide; wide++ {
			for _, x := range []impl.Tree{leaf(), leaf(1), leaf(0, 99)} {
				checkNotInserted(t, x, wide, key)
			}
		}
		checkNotInserted(t, parsed(t, "((1 2) 4 (6) 8 (9))"), 2, key)
	}
}

func TestInsertingWithOtherWidths(t *testing.T) {
	for _, wide := range noWides {
		for _, x := range []impl.Tree{leaf(), leaf(1), parsed(t, "((1 2) 4 (6) 8 (9))")} {
			checkNotInserted(t, x, wide, 5)
			checkNotInserted(t, x, wide, 1)
			if got := impl.RoomOf(x, wide); got != -1 {
				t.Errorf("RoomOf(%s, %d) = %d", impl.FormatTree(x), wide, got)
			}
		}
	}
	x := parsed(t, "((1 2) 4 (6) 8 (9))")
	for _, wide := range []int{4, 5, 6} {
		checkNotInserted(t, x, wide, 5)
	}
}

func TestInsertingIntoTreesOfNoWidth(t *testing.T) {
	for _, x := range noTrees(t) {
		for wide := -1; wide <= 8; wide++ {
			for _, key := range []int{-1, 0, 5, 50, 100} {
				if y, ok := impl.InsertKey(x, wide, key); ok || !isZero(y) || impl.SplitsBy(x, wide, key) != -1 || impl.GrowsBy(x, wide, key) {
					t.Errorf("%d is inserted with the width %d", key, wide)
				}
			}
			if impl.RoomOf(x, wide) != -1 {
				t.Errorf("RoomOf = %d with the width %d", impl.RoomOf(x, wide), wide)
			}
		}
	}
}

// scrambled returns the numbers from 0 to 99, by a rule that puts them in some disorder.
func scrambled(factor, start int) []int {
	var list []int
	for i := range 100 {
		list = append(list, (factor*i+start)%100)
	}
	return list
}

// someLists returns lists of keys, in order and not, with keys that come again and without.
func someLists() [][]int {
	backward := from(0, 100)
	slices.Reverse(backward)
	lists := [][]int{nil, {}, {0}, {99}, {5, 5, 5}, {1, 2, 1, 2, 3, 3, 2, 1}, from(0, 100), backward, slices.Concat(from(0, 100), backward), make([]int, 200)}
	for _, factor := range []int{3, 7, 11, 23, 37, 41, 59, 77, 99} {
		lists = append(lists, scrambled(factor, factor), slices.Concat(scrambled(factor, 0), scrambled(factor+4, 1)))
	}
	var outsideIn, byTwos []int
	for i := range 50 {
		outsideIn = append(outsideIn, i, 99-i)
		byTwos = append(byTwos, 2*i, 2*i, 2*i+1)
	}
	return append(lists, outsideIn, byTwos)
}

// checkList checks what becomes of a leaf without Keys by a list of keys, as far as each of them.
func checkList(t *testing.T, wide int, keys []int) {
	t.Helper()
	x, splits, texts := leaf(), 0, []string{}
	for _, key := range keys {
		if !slices.Contains(impl.KeysOf(x), key) {
			y, more, _ := withKey(x, wide, key)
			x, splits = y, splits+more
		}
		texts = append(texts, impl.FormatTree(x))
	}
	if got, ok := impl.InsertAll(wide, keys); !ok || !impl.SameTree(got, x) || !impl.TreeValid(got, wide) {
		t.Errorf("InsertAll(%d, %v) = %s, %v", wide, keys, impl.FormatTree(got), ok)
	}
	if got := impl.SplitsOf(wide, keys); got != splits {
		t.Errorf("SplitsOf(%d, %v) = %d, not %d", wide, keys, got, splits)
	}
	if got, ok := impl.StepsOf(wide, keys); !ok || !slices.Equal(got, texts) {
		t.Errorf("StepsOf(%d, %v) = %q, %v", wide, keys, got, ok)
	}
	distinct := slices.Clone(keys)
	slices.Sort(distinct)
	if got := impl.KeysOf(x); !slices.Equal(got, slices.Compact(distinct)) {
		t.Errorf("InsertAll(%d, %v) has the keys %v", wide, keys, got)
	}
}

func TestInsertingLists(t *testing.T) {
	for _, keys := range someLists() {
		for wide := impl.MinWide; wide <= impl.MaxWide; wide++ {
			checkList(t, wide, keys)
			checkList(t, wide, keys[:len(keys)/3])
		}
	}
}

func TestInsertingAllListsOfFewKeys(t *testing.T) {
	const most = 5
	var list []int
	var try func()
	try = func() {
		for wide := impl.MinWide; wide <= impl.MaxWide; wide++ {
			checkList(t, wide, list)
		}
		if len(list) == most {
			return
		}
		for key := range most {
			list = append(list, key)
			try()
			list = list[:len(list)-1]
		}
	}
	try()
}

func TestInsertingKeysOneBehindTheOther(t *testing.T) {
	for _, c := range []struct {
		wide   int
		keys   []int
		want   string
		splits int
	}{
		{2, from(1, 5), "((1) 2 (3) 4 (5))", 2},
		{2, []int{5, 4, 3, 2, 1}, "((1) 2 (3) 4 (5))", 2},
		{2, from(0, 15), "((((0) 1 (2)) 3 ((4) 5 (6))) 7 (((8) 9 (10)) 11 ((12) 13 (14))))", 11},
		{3, from(1, 13), "(((1 2) 3 (4 5) 6 (7 8)) 9 ((10 11) 12 (13)))", 5},
		{3, []int{3, 1, 3, 2, 1, 0}, "((0 1) 2 (3))", 1},
		{4, from(0, 8), "((0 1) 2 (3 4) 5 (6 7))", 2},
		{5, from(0, 10), "((0 1 2) 3 (4 5 6) 7 (8 9))", 2},
		{5, []int{9, 8, 7, 6, 5, 4, 3, 2, 1, 0}, "((0 1 2 3) 4 (5 6) 7 (8 9))", 2},
		{6, from(0, 11), "((0 1 2) 3 (4 5 6) 7 (8 9 10))", 2},
		{6, from(0, 10), "((0 1 2) 3 (4 5 6 7 8 9))", 1},
	} {
		got, ok := impl.InsertAll(c.wide, c.keys)
		if !ok || impl.FormatTree(got) != c.want || impl.SplitsOf(c.wide, c.keys) != c.splits {
			t.Errorf("InsertAll(%d, %v) = %s, %v, and %d nodes are split", c.wide, c.keys, impl.FormatTree(got), ok, impl.SplitsOf(c.wide, c.keys))
		}
	}
	steps, ok := impl.StepsOf(2, []int{3, 1, 3, 2, 1, 4})
	if want := []string{"(3)", "(1 3)", "(1 3)", "((1) 2 (3))", "((1) 2 (3))", "((1) 2 (3 4))"}; !ok || !slices.Equal(steps, want) {
		t.Errorf("StepsOf = %q, %v", steps, ok)
	}
}

// checkNoList checks that a list is not inserted.
func checkNoList(t *testing.T, wide int, keys []int) {
	t.Helper()
	if x, ok := impl.InsertAll(wide, keys); ok || !isZero(x) {
		t.Errorf("InsertAll(%d, %v) = %s, %v", wide, keys, impl.FormatTree(x), ok)
	}
	if got := impl.SplitsOf(wide, keys); got != -1 {
		t.Errorf("SplitsOf(%d, %v) = %d", wide, keys, got)
	}
	if steps, ok := impl.StepsOf(wide, keys); ok || len(steps) != 0 {
		t.Errorf("StepsOf(%d, %v) = %q, %v", wide, keys, steps, ok)
	}
}

func TestListsThatAreNotInserted(t *testing.T) {
	for _, wide := range noWides {
		checkNoList(t, wide, nil)
		checkNoList(t, wide, []int{1, 2, 3})
		checkNoList(t, wide, []int{-1})
	}
	for wide := impl.MinWide; wide <= impl.MaxWide; wide++ {
		for _, key := range noKeys {
			checkNoList(t, wide, []int{key})
			checkNoList(t, wide, []int{key, 1, 2})
			checkNoList(t, wide, []int{1, 2, key})
			checkNoList(t, wide, []int{1, key, 1})
			checkNoList(t, wide, append(make([]int, 199), key))
		}
		checkNoList(t, wide, make([]int, 201))
		checkNoList(t, wide, slices.Concat(from(0, 100), from(0, 100), []int{5}))
		checkNoList(t, wide, make([]int, 100000))
	}
}

func TestRoomOf(t *testing.T) {
	for _, c := range []struct {
		text  string
		rooms map[int]int
	}{
		{"()", map[int]int{2: 2, 3: 3, 4: 4, 5: 5, 6: 6}},
		{"(5)", map[int]int{2: 1, 3: 2, 4: 3, 5: 4, 6: 5}},
		{"(1 2 3)", map[int]int{3: 0, 4: 1, 5: 2, 6: 3}},
		{"(0 1 2 3 4 5)", map[int]int{6: 0}},
		{"((1 2) 4 (6) 8 (9))", map[int]int{2: 0, 3: 1}},
		{"((1) 4 (6) 8 (9 10))", map[int]int{2: 0, 3: 1}},
		{"((1) 2 (3) 4 (5))", map[int]int{2: 1, 3: 2}},
		{"((1) 2 (3) 4 (5) 6 (7))", map[int]int{3: 2}},
		{"((0 1) 2 (3 4))", map[int]int{2: 0, 3: 1, 4: 2, 5: 3}},
		{"((0 1 2) 3 (4 5 6 7))", map[int]int{4: 0, 5: 1, 6: 2}},
		{"(((1) 2 (3)) 4 ((5) 6 (7) 8 (9)))", map[int]int{2: 1, 3: 2}},
		{"((1) 2 ((3) 4 (5)))", nil},
	} {
		for wide := -1; wide <= 8; wide++ {
			want, ok := c.rooms[wide]
			if !ok {
				want = -1
			}
			if got := impl.RoomOf(parsed(t, c.text), wide); got != want {
				t.Errorf("RoomOf(%s, %d) = %d, not %d", c.text, wide, got, want)
			}
		}
	}
	for _, x := range someTrees(t) {
		for wide := impl.MinWide; wide <= impl.MaxWide; wide++ {
			want := -1
			if impl.TreeValid(x, wide) {
				want = roomOf(x, wide)
			}
			if got := impl.RoomOf(x, wide); got != want {
				t.Errorf("RoomOf(%s, %d) = %d, not %d", impl.FormatTree(x), wide, got, want)
			}
		}
	}
}

func TestRoomIsWhatMayBeInsertedAtLeast(t *testing.T) {
	for _, x := range smallTrees(4) {
		for wide := impl.MinWide; wide <= impl.MaxWide; wide++ {
			room := impl.RoomOf(x, wide)
			splits := 0
			for key := 0; key <= 2*len(impl.KeysOf(x)); key += 2 {
				splits = max(splits, impl.SplitsBy(x, wide, key))
			}
			if room >= 0 && (room == 0) != (splits > 0) {
				t.Errorf("RoomOf(%s, %d) = %d, and %d nodes are split", impl.FormatTree(x), wide, room, splits)
			}
		}
	}
}

// checkOwnMemory checks that a function returns trees that share no memory with each other, nor slices with others in them.
func checkOwnMemory(t *testing.T, of func() impl.Tree) {
	t.Helper()
	x, y := of(), of()
	text := impl.FormatTree(x)
	overwriteRoom(x)
	if got := impl.FormatTree(x); got != text {
		t.Errorf("with other values beyond its slices %s is %s", text, got)
	}
	blank(x)
	if impl.FormatTree(y) != text || impl.FormatTree(of()) != text {
		t.Errorf("another result, %s, has become %s, and a third one is %s", text, impl.FormatTree(y), impl.FormatTree(of()))
	}
}

// blank overwrites all keys and kids of a tree.
func blank(x impl.Tree) {
	for i := range x.Kids {
		blank(x.Kids[i])
		x.Kids[i] = impl.Tree{}
	}
	clear(x.Keys)
}

func TestTreesWithAKeyMoreShareNoMemory(t *testing.T) {
	for _, c := range []struct {
		text string
		key  int
	}{{"(5)", 4}, {"(5 6)", 7}, {"((1 2) 4 (6) 8 (9))", 7}, {"((1 2) 4 (6) 8 (9))", 3}, {"(((0) 1 (2 3)) 5 ((6) 7 (8)))", 4}} {
		x := roomy(parsed(t, c.text))
		before := withRoom(x)
		checkOwnMemory(t, func() impl.Tree { y, _ := impl.InsertKey(x, 2, c.key); return y })
		impl.SplitsBy(x, 2, c.key)
		impl.GrowsBy(x, 2, c.key)
		impl.RoomOf(x, 2)
		if !reflect.DeepEqual(withRoom(x), before) {
			t.Errorf("%s has changed by %d", c.text, c.key)
		}
	}
}

// roomy returns a copy of a tree whose slices have room, with other values there.
func roomy(x impl.Tree) impl.Tree {
	y := impl.Tree{Keys: append(slices.Clone(x.Keys), 71, 72, 73)[:len(x.Keys)]}
	for _, kid := range x.Kids {
		y.Kids = append(y.Kids, roomy(kid))
	}
	y.Kids = append(y.Kids, leaf(74), leaf(75))[:len(x.Kids)]
	return y
}

// withRoom returns a copy of a tree with what lies beyond the length of its slices.
func withRoom(x impl.Tree) impl.Tree {
	y := impl.Tree{Keys: slices.Clone(x.Keys[:cap(x.Keys)])}
	for _, kid := range x.Kids[:cap(x.Kids)] {
		y.Kids = append(y.Kids, withRoom(kid))
	}
	return y
}

func TestTreesOfListsShareNoMemory(t *testing.T) {
	room := append(scrambled(37, 5), 61, 62, 63)
	before := slices.Clone(room)
	keys := room[:100]
	for wide := impl.MinWide; wide <= impl.MaxWide; wide++ {
		for count := 0; count <= 100; count += 4 {
			checkOwnMemory(t, func() impl.Tree { x, _ := impl.InsertAll(wide, keys[:count]); return x })
		}
		impl.SplitsOf(wide, keys)
		steps, _ := impl.StepsOf(wide, keys)
		want := slices.Clone(steps)
		other, _ := impl.StepsOf(wide, keys)
		clear(other[:cap(other)])
		if !slices.Equal(steps, want) {
			t.Errorf("StepsOf(%d) shares memory with another result", wide)
		}
	}
	if !slices.Equal(room, before) {
		t.Errorf("the list has become %v", room)
	}
}

func TestStepsOfManyCallsAtOnce(t *testing.T) {
	keys := scrambled(23, 7)
	want, _ := impl.StepsOf(3, keys)
	var group sync.WaitGroup
	for range 20 {
		group.Go(func() {
			if got, ok := impl.StepsOf(3, keys); !ok || !slices.Equal(got, want) {
				t.Errorf("StepsOf = %s, %v", strings.Join(got, " "), ok)
			}
		})
	}
	group.Wait()
}
