package tests

import (
	"math"
	"reflect"
	"slices"
	"strconv"
	"strings"
	"sync"
	"testing"

	"loop.example/fulltrees/impl"
)

// cursor returns the cursor with an index of a key, and the indices of kids.
func cursor(at int, path ...int) impl.Cursor {
	return impl.Cursor{Path: path, At: at}
}

// cursorsOf says in other words which cursors a tree has, in order.
func cursorsOf(x impl.Tree, path ...int) []impl.Cursor {
	var all []impl.Cursor
	for i := range max(len(x.Keys), len(x.Kids)) {
		if i < len(x.Kids) {
			all = append(all, cursorsOf(x.Kids[i], append(slices.Clone(path), i)...)...)
		}
		if i < len(x.Keys) {
			all = append(all, cursor(i, slices.Clone(path)...))
		}
	}
	return all
}

// sameCursor reports whether two cursors are the same, nil and empty slices being so.
func sameCursor(c, d impl.Cursor) bool {
	return slices.Equal(c.Path, d.Path) && c.At == d.At
}

// checkGoes checks that a function returns one of some cursors, or none if the index is none of theirs.
func checkGoes(t *testing.T, name string, got impl.Cursor, ok bool, all []impl.Cursor, index int) {
	t.Helper()
	var want impl.Cursor
	has := 0 <= index && index < len(all)
	if has {
		want = all[index]
	}
	if ok != has || !sameCursor(got, want) {
		t.Errorf("%s = %v, %v, not %v, %v", name, got, ok, want, has)
	}
}

// checkCursor checks what is told of a cursor in a tree that is valid for some width.
func checkCursor(t *testing.T, x impl.Tree, c impl.Cursor, all []impl.Cursor) {
	t.Helper()
	name := " of " + impl.FormatCursor(c) + " in " + impl.FormatTree(x)
	index := slices.IndexFunc(all, func(d impl.Cursor) bool { return sameCursor(c, d) })
	isThere, ahead, behind, key := index >= 0, -1, -1, 0
	if isThere {
		ahead, behind, key = index-1, index+1, impl.KeysOf(x)[index]
	}
	if impl.CursorValid(x, c) != isThere {
		t.Errorf("CursorValid%s = %v", name, !isThere)
	}
	if got, ok := impl.CursorKey(x, c); got != key || ok != isThere {
		t.Errorf("CursorKey%s = %d, %v", name, got, ok)
	}
	got, ok := impl.Forward(x, c)
	checkGoes(t, "Forward"+name, got, ok, all, behind)
	got, ok = impl.Backward(x, c)
	checkGoes(t, "Backward"+name, got, ok, all, ahead)
}

// checkCursors checks all cursors of a tree that is valid for some width, and where one starts and seeks.
func checkCursors(t *testing.T, x impl.Tree) {
	t.Helper()
	all, keys, name := cursorsOf(x), impl.KeysOf(x), " of "+impl.FormatTree(x)
	if len(all) != len(keys) {
		t.Fatalf("there are %d cursors%s", len(all), name)
	}
	for _, c := range all {
		checkCursor(t, x, c, all)
	}
	got, ok := impl.FirstCursor(x)
	checkGoes(t, "FirstCursor"+name, got, ok, all, 0)
	got, ok = impl.LastCursor(x)
	checkGoes(t, "LastCursor"+name, got, ok, all, len(all)-1)
	for _, number := range numbers() {
		got, ok := impl.SeekCursor(x, number)
		behind := slices.IndexFunc(keys, func(key int) bool { return key >= number })
		checkGoes(t, "SeekCursor of "+strconv.Itoa(number)+name, got, ok, all, behind)
	}
}

// checkNoCursor checks that a cursor stands nowhere in a tree.
func checkNoCursor(t *testing.T, x impl.Tree, c impl.Cursor) {
	t.Helper()
	key, one := impl.CursorKey(x, c)
	next, two := impl.Forward(x, c)
	last, three := impl.Backward(x, c)
	if impl.CursorValid(x, c) || key != 0 || one || two || three || !sameCursor(next, impl.Cursor{}) || !sameCursor(last, impl.Cursor{}) {
		t.Errorf("a cursor that is told with %d kids and %d stands somewhere: %d, %v, %v", len(c.Path), c.At, key, next, last)
	}
}

// cursorsUpTo returns all cursors of at most so many kids whose indices are from -1 to most.
func cursorsUpTo(kids, most int) []impl.Cursor {
	paths := [][]int{nil}
	for first := 0; len(paths[first]) < kids; first++ {
		for _, kid := range from(-1, most+2) {
			paths = append(paths, append(slices.Clone(paths[first]), kid))
		}
	}
	var all []impl.Cursor
	for _, path := range paths {
		for _, key := range from(-1, most+2) {
			all = append(all, cursor(key, path...))
		}
	}
	return all
}

func TestCursorsOfAllSmallTrees(t *testing.T) {
	trees := smallTrees(5)
	if len(trees) < 50 {
		t.Fatalf("only %d trees", len(trees))
	}
	for _, x := range trees {
		checkCursors(t, x)
	}
}

func TestCursorsOfTreesOfManyShapes(t *testing.T) {
	for _, x := range someTrees(t) {
		checkCursors(t, x)
	}
}

func TestCursorsOfTreesWithKeysInDisorder(t *testing.T) {
	for wide := impl.MinWide; wide <= impl.MaxWide; wide++ {
		for _, x := range thinnedTrees(t, wide) {
			checkCursors(t, x)
		}
	}
}

func TestCursorsOfTreesOfAllKeys(t *testing.T) {
	for wide := impl.MinWide; wide <= impl.MaxWide; wide++ {
		for _, x := range insertedTrees(t, wide, []int{impl.MaxKey + 1}) {
			checkCursors(t, x)
			_, there := cursorsBy(x, impl.FirstCursor, impl.Forward)
			_, back := cursorsBy(x, impl.LastCursor, impl.Backward)
			slices.Reverse(back)
			if !slices.Equal(there, from(0, impl.MaxKey+1)) || !slices.Equal(back, there) {
				t.Errorf("one comes by %v forward and %v backward in %s", there, back, impl.FormatTree(x))
			}
		}
	}
}

// cursorsBy returns the cursors one comes by from one on, and the keys at which they stand. It stops after more of them than a tree can have.
func cursorsBy(x impl.Tree, start func(impl.Tree) (impl.Cursor, bool), goOn func(impl.Tree, impl.Cursor) (impl.Cursor, bool)) ([]string, []int) {
	var texts []string
	var keys []int
	for c, ok := start(x); ok && len(keys) <= impl.MaxKey+1; c, ok = goOn(x, c) {
		key, _ := impl.CursorKey(x, c)
		texts, keys = append(texts, impl.FormatCursor(c)), append(keys, key)
	}
	return texts, keys
}

func TestCursorsThatStandNowhere(t *testing.T) {
	few, many := cursorsUpTo(3, 3), cursorsUpTo(2, 8)
	for _, x := range smallTrees(4) {
		all := cursorsOf(x)
		for _, c := range few {
			checkCursor(t, x, c, all)
		}
	}
	for wide := impl.MinWide; wide <= impl.MaxWide; wide++ {
		for _, x := range []impl.Tree{leaf(from(7, wide)...), grown(2, steady(wide/2, wide), plain), grown(2, steady(wide, 1), odd)} {
			all := cursorsOf(x)
			for _, c := range many {
				checkCursor(t, x, c, all)
			}
		}
	}
	x := parsed(t, "(((1) 2 (3)) 4 ((5 6) 7 (9)))")
	for _, c := range cursorsUpTo(4, 2) {
		checkCursor(t, x, c, cursorsOf(x))
	}
}

func TestCursorsFarOutside(t *testing.T) {
	x := grown(6, steady(1, 1), plain)
	for _, far := range []int{math.MinInt, math.MinInt + 1, math.MinInt32, -1000, -100, 100, 1000, math.MaxInt32, math.MaxInt - 1, math.MaxInt} {
		for _, c := range []impl.Cursor{cursor(far), cursor(0, far), cursor(far, 0), cursor(0, 1, far), cursor(0, far, 1), cursor(far, 0, 0, 0, 0, 0), cursor(0, 0, 0, 0, 0, far)} {
			checkNoCursor(t, x, c)
			checkNoCursor(t, leaf(5), c)
			checkNoCursor(t, leaf(), c)
		}
	}
	for count := 6; count <= 20; count++ {
		checkNoCursor(t, x, cursor(0, make([]int, count)...))
	}
	checkNoCursor(t, x, cursor(0, make([]int, 1000000)...))
}

func TestCursorsOfTreesWithoutKeys(t *testing.T) {
	for _, x := range []impl.Tree{leaf(), {Keys: []int{}, Kids: []impl.Tree{}}} {
		checkCursors(t, x)
		for _, c := range cursorsUpTo(2, 2) {
			checkNoCursor(t, x, c)
		}
	}
}

func TestCursorsOfTreesOfNoWidth(t *testing.T) {
	for index, x := range noTrees(t) {
		for _, c := range []impl.Cursor{cursor(0), cursor(1), cursor(0, 0), cursor(0, 1), cursor(1, 0), cursor(0, 0, 0), cursor(0, 1, 0), cursor(0, 1, 1, 1), cursor(-1), cursor(0, -1)} {
			checkNoCursor(t, x, c)
		}
		first, one := impl.FirstCursor(x)
		last, two := impl.LastCursor(x)
		if one || two || !sameCursor(first, impl.Cursor{}) || !sameCursor(last, impl.Cursor{}) {
			t.Errorf("cursors of tree %d: %v, %v", index, first, last)
		}
		for _, number := range []int{math.MinInt, -1, 0, 1, 2, 3, 5, 99, 100, math.MaxInt} {
			if c, ok := impl.SeekCursor(x, number); ok || !sameCursor(c, impl.Cursor{}) {
				t.Errorf("SeekCursor of %d in tree %d = %v, %v", number, index, c, ok)
			}
		}
	}
}

func TestCursorsByHand(t *testing.T) {
	for _, c := range []struct {
		tree, cursors string
	}{
		{"()", ""},
		{"(0)", "0"},
		{"(0 50 99)", "0 1 2"},
		{"(1 2 3 4 5 6)", "0 1 2 3 4 5"},
		{"((1 2) 4 (6) 8 (9))", "0/0 0/1 0 1/0 1 2/0"},
		{"((0) 50 (99))", "0/0 0 1/0"},
		{"((1 2 3) 4 (5 6 7 8 9 10))", "0/0 0/1 0/2 0 1/0 1/1 1/2 1/3 1/4 1/5"},
		{"(((1) 2 (3)) 4 ((5) 6 (7)))", "0/0/0 0/0 0/1/0 0 1/0/0 1/0 1/1/0"},
		{"(((1) 2 (3) 4 (5)) 6 ((7) 8 (9)) 10 ((11 12) 13 (14)))", "0/0/0 0/0 0/1/0 0/1 0/2/0 0 1/0/0 1/0 1/1/0 1 2/0/0 2/0/1 2/0 2/1/0"},
	} {
		x := parsed(t, c.tree)
		there, _ := cursorsBy(x, impl.FirstCursor, impl.Forward)
		back, _ := cursorsBy(x, impl.LastCursor, impl.Backward)
		slices.Reverse(back)
		if strings.Join(there, " ") != c.cursors || strings.Join(back, " ") != c.cursors {
			t.Errorf("%s: %q forward, %q backward, not %q", c.tree, there, back, c.cursors)
		}
	}
}

func TestSeekCursorByHand(t *testing.T) {
	x := parsed(t, "(((11) 20 (31)) 40 ((50 60) 70 (90)))")
	for _, c := range []struct {
		number int
		text   string
	}{
		{math.MinInt, "0/0/0"}, {-1, "0/0/0"}, {0, "0/0/0"}, {10, "0/0/0"}, {11, "0/0/0"}, {12, "0/0"}, {20, "0/0"}, {21, "0/1/0"}, {31, "0/1/0"},
		{32, "0"}, {39, "0"}, {40, "0"}, {41, "1/0/0"}, {50, "1/0/0"}, {51, "1/0/1"}, {60, "1/0/1"}, {61, "1/0"}, {70, "1/0"}, {71, "1/1/0"}, {90, "1/1/0"},
	} {
		if got, ok := impl.SeekCursor(x, c.number); !ok || impl.FormatCursor(got) != c.text {
			t.Errorf("SeekCursor of %d = %s, %v, not %s", c.number, impl.FormatCursor(got), ok, c.text)
		}
	}
	for _, number := range []int{91, 99, 100, 101, math.MaxInt} {
		if got, ok := impl.SeekCursor(x, number); ok || !sameCursor(got, impl.Cursor{}) {
			t.Errorf("SeekCursor of %d = %v, %v", number, got, ok)
		}
	}
}

func TestCursorsWhoseKeysAreAboveAndBelow(t *testing.T) {
	x := parsed(t, "(((1) 2 (3) 4 (5)) 6 ((7) 8 (9)) 10 ((11 12) 13 (14)))")
	for _, c := range []struct {
		from, forward, backward string
		key                     int
	}{
		{"0/2/0", "0", "0/1", 5},
		{"0", "1/0/0", "0/2/0", 6},
		{"1/0/0", "1/0", "0", 7},
		{"1/1/0", "1", "1/0", 9},
		{"1", "2/0/0", "1/1/0", 10},
		{"0/0", "0/1/0", "0/0/0", 2},
		{"0/1", "0/2/0", "0/1/0", 4},
		{"2/0/0", "2/0/1", "1", 11},
		{"0/0/0", "0/0", "", 1},
		{"2/1/0", "", "2/0", 14},
	} {
		all := cursorsOf(x)
		index := slices.IndexFunc(all, func(d impl.Cursor) bool { return impl.FormatCursor(d) == c.from })
		if index < 0 {
			t.Fatalf("there is no cursor %s", c.from)
		}
		key, ok := impl.CursorKey(x, all[index])
		if key != c.key || !ok || !impl.CursorValid(x, all[index]) {
			t.Errorf("CursorKey of %s = %d, %v", c.from, key, ok)
		}
		next, goesOn := impl.Forward(x, all[index])
		last, goesBack := impl.Backward(x, all[index])
		if goesOn != (c.forward != "") || goesOn && impl.FormatCursor(next) != c.forward {
			t.Errorf("Forward of %s = %s, %v", c.from, impl.FormatCursor(next), goesOn)
		}
		if goesBack != (c.backward != "") || goesBack && impl.FormatCursor(last) != c.backward {
			t.Errorf("Backward of %s = %s, %v", c.from, impl.FormatCursor(last), goesBack)
		}
	}
}

func TestFormatCursorOfAnyCursor(t *testing.T) {
	for _, c := range []struct {
		cursor impl.Cursor
		text   string
	}{
		{impl.Cursor{}, "0"},
		{impl.Cursor{Path: []int{}, At: 7}, "7"},
		{cursor(-1), "-1"},
		{cursor(0, 0), "0/0"},
		{cursor(1, 0), "0/1"},
		{cursor(10, 20, 30), "20/30/10"},
		{cursor(-2, -1, 7), "-1/7/-2"},
		{cursor(math.MinInt64, math.MaxInt64), "9223372036854775807/-9223372036854775808"},
		{cursor(0, 1, 2, 3, 4, 5, 6, 7, 8, 9, 10, 11), "1/2/3/4/5/6/7/8/9/10/11/0"},
		{cursor(5, make([]int, 100000)...), strings.Repeat("0/", 100000) + "5"},
	} {
		if got := impl.FormatCursor(c.cursor); got != c.text {
			t.Errorf("FormatCursor = %.50q, not %.50q", got, c.text)
		}
	}
	for _, c := range cursorsUpTo(3, 12) {
		var parts []string
		for _, number := range append(slices.Clone(c.Path), c.At) {
			parts = append(parts, strconv.Itoa(number))
		}
		if got := impl.FormatCursor(c); got != strings.Join(parts, "/") {
			t.Errorf("FormatCursor(%v) = %q", c, got)
		}
	}
}

// overwritten overwrites the path of a cursor, and its memory beyond its length.
func overwritten(c impl.Cursor) {
	c.Path = c.Path[:cap(c.Path)]
	for i := range c.Path {
		c.Path[i] = 50
	}
}

func TestCursorsShareNoMemory(t *testing.T) {
	x := roomy(parsed(t, "(((1) 2 (3) 4 (5)) 6 ((7) 8 (9)) 10 ((11 12) 13 (14)))"))
	before := withRoom(x)
	for index, c := range cursorsOf(x) {
		room := append(slices.Clone(c.Path), 70, 71, 72)
		want := slices.Clone(room)
		c.Path = room[:len(c.Path)]
		for _, get := range []func() (impl.Cursor, bool){
			func() (impl.Cursor, bool) { return impl.Forward(x, c) },
			func() (impl.Cursor, bool) { return impl.Backward(x, c) },
			func() (impl.Cursor, bool) { return impl.SeekCursor(x, index+1) },
			func() (impl.Cursor, bool) { return impl.FirstCursor(x) },
			func() (impl.Cursor, bool) { return impl.LastCursor(x) },
		} {
			got, _ := get()
			other, _ := get()
			text := impl.FormatCursor(other)
			overwritten(got)
			if again, _ := get(); impl.FormatCursor(other) != text || impl.FormatCursor(again) != text {
				t.Errorf("results share memory: %s", text)
			}
		}
		impl.CursorValid(x, c)
		impl.CursorKey(x, c)
		impl.FormatCursor(c)
		if !slices.Equal(room, want) || !reflect.DeepEqual(withRoom(x), before) {
			t.Errorf("the tree or the cursor %v has changed", want)
		}
	}
}

func TestCursorsOfManyCallsAtOnce(t *testing.T) {
	x, _ := impl.InsertAll(2, scrambled(37, 5)[:70])
	var group sync.WaitGroup
	for range 20 {
		group.Go(func() { checkCursors(t, x) })
	}
	group.Wait()
}
