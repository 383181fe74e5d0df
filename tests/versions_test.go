package tests

import (
	"math"
	"reflect"
	"regexp"
	"slices"
	"strconv"
	"strings"
	"sync"
	"testing"

	"loop.example/fulltrees/impl"
)

// put returns the operation that puts a key into a tree.
func put(key int) impl.Op {
	return impl.Op{Key: key}
}

// out returns the operation that takes a key out of a tree.
func out(key int) impl.Op {
	return impl.Op{Out: true, Key: key}
}

// allPut returns the operations that put keys into a tree.
func allPut(keys []int) []impl.Op {
	var ops []impl.Op
	for _, key := range keys {
		ops = append(ops, put(key))
	}
	return ops
}

// allOut returns the operations that take keys out of a tree.
func allOut(keys []int) []impl.Op {
	var ops []impl.Op
	for _, key := range keys {
		ops = append(ops, out(key))
	}
	return ops
}

// textOfOps says in other words which text operations have that are valid.
func textOfOps(ops []impl.Op) string {
	if len(ops) == 0 {
		return "-"
	}
	text := ""
	for _, op := range ops {
		sign := "+"
		if op.Out {
			sign = "-"
		}
		text += " " + sign + strconv.Itoa(op.Key)
	}
	return text[1:]
}

// someOps returns lists of operations that are valid: few and many, with keys in order and not, with those that change nothing, and with trees that are the same again.
func someOps() [][]impl.Op {
	lists := [][]impl.Op{
		nil, {}, {put(0)}, {out(0)}, {put(99)}, {put(0), put(0), out(0), out(0)}, make([]impl.Op, 60), allOut(make([]int, 60)),
		allPut(from(0, 60)), allPut(from(40, 60)), slices.Concat(allPut(from(10, 30)), allOut(from(10, 30))),
	}
	for _, factor := range []int{3, 7, 23, 37, 59, 99} {
		keys := scrambled(factor, 5)
		var byTurns, again []impl.Op
		for i := range 20 {
			byTurns = append(byTurns, put(keys[2*i]), put(keys[2*i+1]), out(keys[i]))
			again = append(again, put(keys[i]), out(keys[i]), put(keys[i]))
		}
		lists = append(lists, allPut(keys[:60]), slices.Concat(allPut(keys[:30]), allOut(keys[:30])), slices.Concat(allPut(keys[:40]), allOut(keys[20:40])), byTurns, again)
	}
	return lists
}

// versionsBy says in other words which versions a list of operations has.
func versionsBy(wide int, ops []impl.Op) []impl.Tree {
	x := leaf()
	all := []impl.Tree{x}
	for _, op := range ops {
		isThere := slices.Contains(impl.KeysOf(x), op.Key)
		if op.Out && isThere {
			x, _ = withoutKey(x, wide, op.Key)
		}
		if !op.Out && !isThere {
			x, _, _ = withKey(x, wide, op.Key)
		}
		all = append(all, x)
	}
	return all
}

// nodesIn returns a tree, and all nodes that lie below it.
func nodesIn(x impl.Tree) []impl.Tree {
	all := []impl.Tree{x}
	for _, kid := range x.Kids {
		all = append(all, nodesIn(kid)...)
	}
	return all
}

// storedIn says in other words how many different nodes some trees have together.
func storedIn(trees []impl.Tree) int {
	texts := map[string]bool{}
	for _, x := range trees {
		for _, n := range nodesIn(x) {
			texts[impl.FormatTree(n)] = true
		}
	}
	return len(texts)
}

// checkVersions checks all that is told of the versions of operations that are valid.
func checkVersions(t *testing.T, wide int, ops []impl.Op) {
	t.Helper()
	all, name := versionsBy(wide, ops), " of "+textOfOps(ops)+" with the width "+strconv.Itoa(wide)
	var texts []string
	for n, want := range all {
		texts = append(texts, impl.FormatTree(want))
		if x, ok := impl.VersionAt(wide, ops, n); !ok || !impl.SameTree(x, want) || !impl.TreeValid(x, wide) {
			t.Errorf("VersionAt%s at %d = %s, %v, not %s", name, n, impl.FormatTree(x), ok, impl.FormatTree(want))
		}
	}
	for _, n := range []int{-1, len(all), math.MinInt, math.MaxInt} {
		if x, ok := impl.VersionAt(wide, ops, n); ok || !isZero(x) {
			t.Errorf("VersionAt%s at %d = %s, %v", name, n, impl.FormatTree(x), ok)
		}
	}
	if got, ok := impl.VersionsOf(wide, ops); !ok || !slices.Equal(got, texts) {
		t.Errorf("VersionsOf%s = %q, %v, not %q", name, got, ok, texts)
	}
	if got, want := impl.StoredNodes(wide, ops), storedIn(all); got != want {
		t.Errorf("StoredNodes%s = %d, not %d", name, got, want)
	}
}

// checkNoVersions checks that no version is told for a width and operations.
func checkNoVersions(t *testing.T, wide int, ops []impl.Op) {
	t.Helper()
	for _, n := range []int{math.MinInt, -1, 0, 1, len(ops) - 1, len(ops), len(ops) + 1, math.MaxInt} {
		if x, ok := impl.VersionAt(wide, ops, n); ok || !isZero(x) {
			t.Errorf("VersionAt(%d, %v, %d) = %v, %v", wide, ops, n, x, ok)
		}
	}
	if texts, ok := impl.VersionsOf(wide, ops); ok || len(texts) != 0 {
		t.Errorf("VersionsOf(%d, %v) = %v, %v", wide, ops, texts, ok)
	}
	if stored := impl.StoredNodes(wide, ops); stored != -1 {
		t.Errorf("StoredNodes(%d, %v) = %d", wide, ops, stored)
	}
}

// sharedIn says in other words how many nodes of a tree are the same as some node of another one, and how many are not.
func sharedIn(a, b impl.Tree) (int, int) {
	shared, fresh := 0, 0
	for _, n := range nodesIn(a) {
		if slices.ContainsFunc(nodesIn(b), func(m impl.Tree) bool { return impl.SameTree(n, m) }) {
			shared++
		} else {
			fresh++
		}
	}
	return shared, fresh
}

// visitsOfDiff says in other words how many pairs of nodes are looked at.
func visitsOfDiff(a, b impl.Tree) int {
	if impl.FormatTree(a) == impl.FormatTree(b) {
		return 1
	}
	if !slices.Equal(a.Keys, b.Keys) || len(a.Kids) != len(b.Kids) {
		return len(nodesIn(a)) + len(nodesIn(b))
	}
	visits := 1
	for i := range a.Kids {
		visits += visitsOfDiff(a.Kids[i], b.Kids[i])
	}
	return visits
}

// checkDiff checks all that is told of two trees, each of which is valid for some width, from the first one to the second one.
func checkDiff(t *testing.T, a, b impl.Tree) {
	t.Helper()
	name := " from " + impl.FormatTree(a) + " to " + impl.FormatTree(b)
	shared, fresh := sharedIn(a, b)
	if one, two := impl.SharedNodes(a, b), impl.NewNodes(a, b); one != shared || two != fresh {
		t.Errorf("SharedNodes and NewNodes%s = %d and %d, not %d and %d", name, one, two, shared, fresh)
	}
	keysA, keysB := impl.KeysOf(a), impl.KeysOf(b)
	come := slices.DeleteFunc(slices.Clone(keysB), func(key int) bool { return slices.Contains(keysA, key) })
	gone := slices.DeleteFunc(slices.Clone(keysA), func(key int) bool { return slices.Contains(keysB, key) })
	if one, two, ok := impl.TellDiff(a, b); !ok || !slices.Equal(one, come) || !slices.Equal(two, gone) {
		t.Errorf("TellDiff%s = %v, %v, %v, not %v and %v", name, one, two, ok, come, gone)
	}
	if got, want := impl.DiffVisits(a, b), visitsOfDiff(a, b); got != want {
		t.Errorf("DiffVisits%s = %d, not %d", name, got, want)
	}
}

// checkNoDiff checks that nothing is told of two trees, one of which is valid for no width.
func checkNoDiff(t *testing.T, a, b impl.Tree) {
	t.Helper()
	shared, fresh, visits := impl.SharedNodes(a, b), impl.NewNodes(a, b), impl.DiffVisits(a, b)
	come, gone, ok := impl.TellDiff(a, b)
	if shared != -1 || fresh != -1 || visits != -1 || ok || len(come) != 0 || len(gone) != 0 {
		t.Errorf("%d nodes are shared and %d new, %d visited, %v and %v are told, %v", shared, fresh, visits, come, gone, ok)
	}
}

func TestTextsOfOps(t *testing.T) {
	lists := someOps()
	for key := range impl.MaxKey + 1 {
		lists = append(lists, []impl.Op{put(key)}, []impl.Op{out(key)}, []impl.Op{out(key), put(99 - key), put(key)})
	}
	for _, ops := range lists {
		text := textOfOps(ops)
		if got := impl.FormatOps(ops); got != text {
			t.Errorf("FormatOps(%v) = %q, not %q", ops, got, text)
		}
		if got, ok := impl.ParseOps(text); !ok || !slices.Equal(got, ops) {
			t.Errorf("ParseOps(%q) = %v, %v", text, got, ok)
		}
	}
}

func TestTextsOfOpsByHand(t *testing.T) {
	for _, c := range []struct {
		text string
		ops  []impl.Op
	}{
		{"-", nil},
		{"+0", []impl.Op{put(0)}},
		{"-0", []impl.Op{out(0)}},
		{"-99", []impl.Op{out(99)}},
		{"+1 +2 +3 -1", []impl.Op{put(1), put(2), put(3), out(1)}},
		{"-5 -5 +10 +10", []impl.Op{out(5), out(5), put(10), put(10)}},
	} {
		if got, ok := impl.ParseOps(c.text); !ok || !slices.Equal(got, c.ops) || impl.FormatOps(c.ops) != c.text {
			t.Errorf("%q: ParseOps = %v, %v, and FormatOps = %q", c.text, got, ok, impl.FormatOps(c.ops))
		}
	}
}

// checkNoOps checks that a text is none of operations.
func checkNoOps(t *testing.T, text string) {
	t.Helper()
	if ops, ok := impl.ParseOps(text); ok || len(ops) != 0 {
		t.Errorf("ParseOps(%.60q) = %v, %v", text, ops, ok)
	}
}

func TestTextsOfNoOps(t *testing.T) {
	for _, text := range []string{
		"", " ", "+", "1", "+1  +2", "+01", "+00", "+100", "-100", "--1", "+-1", "-+1", "+1 ", " +1", "+1 -", "- +1", "- ", " -", "--", "- -", "-1 -", "+ 1", "+1+2", "+1,+2", "+1\n", "+1\t+2",
		"+1\x00", "\x00", "\xff", "+\xff", "+1 \xff1", "+１", "−1", "+1 2", "+1 +", "+0x1", "+1e1", "+1_0", "+99999999999999999999", "-18446744073709551617", "+4294967297", "+" + strings.Repeat("0", 1000000), "+" + strings.Repeat("9", 1000000),
		strings.Repeat("+1 ", 1000000), strings.Repeat("-", 1000000), strings.Repeat(" ", 1000000),
	} {
		checkNoOps(t, text)
	}
}

func TestTextsOfAllShortOps(t *testing.T) {
	isText := regexp.MustCompile(`^(-|[+-](0|[1-9][0-9]?)( [+-](0|[1-9][0-9]?))*)$`)
	count := 0
	var try func(text string)
	try = func(text string) {
		ops, ok := impl.ParseOps(text)
		if ok != isText.MatchString(text) || ok && impl.FormatOps(ops) != text || !ok && len(ops) != 0 {
			t.Errorf("ParseOps(%q) = %v, %v", text, ops, ok)
		}
		if ok {
			count++
		}
		if len(text) < 6 {
			for _, c := range "+- 019" {
				try(text + string(c))
			}
		}
	}
	try("")
	if count < 100 {
		t.Errorf("only %d of the texts are some of operations", count)
	}
}

func TestTextsOfManyOps(t *testing.T) {
	for count := 58; count <= 63; count++ {
		text := strings.TrimSuffix(strings.Repeat("+10 ", count), " ")
		if count > 60 {
			checkNoOps(t, text)
			continue
		}
		checkNoOps(t, text+" ")
		checkNoOps(t, text+"0")
		if ops, ok := impl.ParseOps(text); !ok || len(ops) != count || impl.FormatOps(ops) != text {
			t.Errorf("ParseOps of %d = %v, %v", count, ops, ok)
		}
	}
}

func TestOpsThatAreNotValid(t *testing.T) {
	lists := [][]impl.Op{make([]impl.Op, 61), make([]impl.Op, 62), make([]impl.Op, 100000), allOut(from(0, 61)), allPut(from(0, 100))}
	for _, number := range []int{math.MinInt, -100, -1, 100, 101, 256, math.MaxInt} {
		lists = append(lists, []impl.Op{put(number)}, []impl.Op{out(number)}, []impl.Op{put(number), put(1)}, []impl.Op{put(1), out(number)}, append(allPut(from(0, 59)), put(number)))
	}
	for _, ops := range lists {
		if text := impl.FormatOps(ops); text != "" {
			t.Errorf("FormatOps(%v) = %q", ops, text)
		}
		for wide := impl.MinWide - 1; wide <= impl.MaxWide+1; wide++ {
			checkNoVersions(t, wide, ops)
		}
	}
}

func TestVersionsOfOtherWidths(t *testing.T) {
	for _, wide := range []int{math.MinInt, -2, -1, 0, 1, 7, 8, 100, math.MaxInt} {
		for _, ops := range [][]impl.Op{nil, {}, {put(1)}, {out(1)}, allPut(from(0, 60)), {put(100)}} {
			checkNoVersions(t, wide, ops)
		}
	}
}

func TestVersionsOfManyOps(t *testing.T) {
	for wide := impl.MinWide; wide <= impl.MaxWide; wide++ {
		for _, ops := range someOps() {
			checkVersions(t, wide, ops)
		}
	}
}

func TestVersionsOfAllListsOfFewOps(t *testing.T) {
	var list []impl.Op
	var try func(wide, most int)
	try = func(wide, most int) {
		checkVersions(t, wide, list)
		if len(list) == most {
			return
		}
		for key := range 3 {
			for _, op := range []impl.Op{put(key), out(key)} {
				list = append(list, op)
				try(wide, most)
				list = list[:len(list)-1]
			}
		}
	}
	try(2, 5)
	for wide := impl.MinWide + 1; wide <= impl.MaxWide; wide++ {
		try(wide, 3)
	}
}

func TestVersionsByHand(t *testing.T) {
	for _, c := range []struct {
		wide     int
		ops      string
		versions string
		stored   int
	}{
		{2, "-", "()", 1},
		{6, "-", "()", 1},
		{2, "-7", "() | ()", 1},
		{2, "+7", "() | (7)", 2},
		{2, "+1 +2 +3 -1", "() | (1) | (1 2) | ((1) 2 (3)) | (2 3)", 6},
		{2, "+1 +2 +3", "() | (1) | (1 2) | ((1) 2 (3))", 5},
		{2, "+3 +2 +1", "() | (3) | (2 3) | ((1) 2 (3))", 5},
		{3, "+1 +2 +3 +4", "() | (1) | (1 2) | (1 2 3) | ((1 2) 3 (4))", 6},
		{3, "+5 +5 -7", "() | (5) | (5) | (5)", 2},
		{2, "+1 -1 +1", "() | (1) | () | (1)", 2},
		{2, "+1 -1 +1 -1", "() | (1) | () | (1) | ()", 2},
		{2, "+1 +2 -1 -2 +2 +1", "() | (1) | (1 2) | (2) | () | (2) | (1 2)", 4},
		{2, "+1 +2 +3 +4 -4 +4", "() | (1) | (1 2) | ((1) 2 (3)) | ((1) 2 (3 4)) | ((1) 2 (3)) | ((1) 2 (3 4))", 7},
		{2, "+1 +2 +3 -2 -3", "() | (1) | (1 2) | ((1) 2 (3)) | (1 3) | (1)", 6},
		{2, "+1 +2 +3 +4 +5 +6 +7", "() | (1) | (1 2) | ((1) 2 (3)) | ((1) 2 (3 4)) | ((1) 2 (3) 4 (5)) | ((1) 2 (3) 4 (5 6)) | (((1) 2 (3)) 4 ((5) 6 (7)))", 14},
	} {
		ops, ok := impl.ParseOps(c.ops)
		versions := strings.Split(c.versions, " | ")
		if got, fits := impl.VersionsOf(c.wide, ops); !ok || !fits || !slices.Equal(got, versions) {
			t.Errorf("VersionsOf(%d, %s) = %q, %v", c.wide, c.ops, got, fits)
		}
		if got := impl.StoredNodes(c.wide, ops); got != c.stored {
			t.Errorf("StoredNodes(%d, %s) = %d, not %d", c.wide, c.ops, got, c.stored)
		}
		for n, text := range versions {
			if x, fits := impl.VersionAt(c.wide, ops, n); !fits || impl.FormatTree(x) != text {
				t.Errorf("VersionAt(%d, %s, %d) = %s, %v", c.wide, c.ops, n, impl.FormatTree(x), fits)
			}
		}
	}
}

func TestOpsThatChangeNothing(t *testing.T) {
	keys := scrambled(37, 5)
	ops := allPut(keys[:40])
	for wide := impl.MinWide; wide <= impl.MaxWide; wide++ {
		texts, _ := impl.VersionsOf(wide, ops)
		stored := impl.StoredNodes(wide, ops)
		for _, same := range [][]impl.Op{{put(5)}, {put(5), put(5), put(5)}, allPut(keys[:20]), allOut(keys[40:60]), {out(keys[40]), put(5), out(keys[99])}} {
			all := slices.Concat(ops, same)
			want := slices.Concat(texts, slices.Repeat(texts[len(ops):], len(same)))
			if got, ok := impl.VersionsOf(wide, all); !ok || !slices.Equal(got, want) {
				t.Errorf("with the width %d %v change the tree: %q", wide, same, got[len(ops):])
			}
			if got := impl.StoredNodes(wide, all); got != stored {
				t.Errorf("with the width %d %v make %d nodes of %d", wide, same, got, stored)
			}
		}
	}
}

func TestDiffsOfAllSmallTrees(t *testing.T) {
	trees := smallTrees(4)
	if len(trees) < 20 {
		t.Fatalf("only %d trees", len(trees))
	}
	for _, a := range trees {
		for _, b := range trees {
			checkDiff(t, a, b)
			checkDiff(t, a, keyed(b, func(i int) int { return 2*i + 3 }))
			checkDiff(t, a, keyed(b, thirds))
		}
	}
}

func TestDiffsOfTreesOfManyShapes(t *testing.T) {
	trees := someTrees(t)
	for i, a := range trees {
		for j, b := range trees {
			if i == j || (i+3*j)%4 == 0 {
				checkDiff(t, a, b)
			}
		}
	}
}

func TestDiffsOfVersions(t *testing.T) {
	for wide := impl.MinWide; wide <= impl.MaxWide; wide++ {
		for _, ops := range someOps() {
			all := versionsBy(wide, ops)
			for i := 1; i < len(all); i++ {
				checkDiff(t, all[i-1], all[i])
				if i%5 == 0 {
					checkDiff(t, all[i], all[i-1])
					checkDiff(t, all[i], all[i/2])
				}
			}
		}
	}
}

func TestDiffsOfTreesOfAllKeys(t *testing.T) {
	var trees []impl.Tree
	for wide := impl.MinWide; wide <= impl.MaxWide; wide++ {
		trees = append(trees, insertedTrees(t, wide, []int{impl.MaxKey + 1})...)
	}
	for _, a := range trees {
		for _, b := range trees {
			checkDiff(t, a, b)
		}
		checkDiff(t, a, leaf())
		checkDiff(t, leaf(), a)
		checkDiff(t, a, leaf(0, 50, 99))
	}
}

func TestDiffsByHand(t *testing.T) {
	for _, c := range []struct {
		a, b                  string
		shared, fresh, visits int
		come, gone            []int
	}{
		{"()", "()", 1, 0, 1, nil, nil},
		{"()", "(0)", 0, 1, 2, []int{0}, nil},
		{"(0)", "()", 0, 1, 2, nil, []int{0}},
		{"(0)", "(0)", 1, 0, 1, nil, nil},
		{"(99)", "(0)", 0, 1, 2, []int{0}, []int{99}},
		{"(1 2)", "(1)", 0, 1, 2, nil, []int{2}},
		{"((1 2) 4 (6) 8 (9))", "((1 2) 4 (6 7) 8 (9))", 2, 2, 5, []int{7}, nil},
		{"((1 2) 4 (6 7) 8 (9))", "((1 2) 4 (6) 8 (9))", 2, 2, 5, nil, []int{7}},
		{"((1 2) 4 (6) 8 (9))", "((1 2) 4 (6) 8 (9))", 4, 0, 1, nil, nil},
		{"((1 2) 4 (6) 8 (9))", "(2 6)", 0, 4, 5, nil, []int{1, 4, 8, 9}},
		{"((1) 2 (3))", "((0) 2 (4))", 0, 3, 5, []int{0, 4}, []int{1, 3}},
		{"((1) 2 (3))", "(2)", 0, 3, 4, nil, []int{1, 3}},
		{"(2)", "((1) 2 (3))", 0, 1, 4, []int{1, 3}, nil},
		{"((1) 2 (3))", "((1) 3 (4))", 1, 2, 6, []int{4}, []int{2}},
		{"(((1) 2 (3)) 4 ((5) 6 (7)))", "(((1) 2 (3)) 4 ((5) 6 (7 8)))", 4, 3, 6, []int{8}, nil},
		{"(((1) 2 (3)) 4 ((5) 6 (7)))", "(((1) 2 (3)) 4 ((5) 7 (8)))", 4, 3, 8, []int{8}, []int{6}},
		{"(((1) 2 (3)) 4 ((5) 6 (7)))", "((1) 4 (7))", 2, 5, 9, nil, []int{2, 3, 5, 6}},
		{"((1 2 3) 4 (5 6 7))", "((1 2 3) 4 (5 6 7 8 9 10))", 1, 2, 4, []int{8, 9, 10}, nil},
	} {
		a, b := parsed(t, c.a), parsed(t, c.b)
		if shared, fresh, visits := impl.SharedNodes(a, b), impl.NewNodes(a, b), impl.DiffVisits(a, b); shared != c.shared || fresh != c.fresh || visits != c.visits {
			t.Errorf("from %s to %s %d nodes are shared and %d new, and %d visited", c.a, c.b, shared, fresh, visits)
		}
		if come, gone, ok := impl.TellDiff(a, b); !ok || !slices.Equal(come, c.come) || !slices.Equal(gone, c.gone) {
			t.Errorf("TellDiff(%s, %s) = %v, %v, %v", c.a, c.b, come, gone, ok)
		}
	}
}

func TestNodesThatStandElsewhere(t *testing.T) {
	whole := "(((1) 2 (3)) 4 ((5) 6 (7)))"
	for _, c := range []struct {
		a, b          string
		shared, fresh int
	}{
		{"((1) 2 (3))", whole, 3, 0},
		{whole, "((1) 2 (3))", 3, 4},
		{"((5) 6 (7))", whole, 3, 0},
		{"(7)", whole, 1, 0},
		{whole, "(7)", 1, 6},
		{"(4)", whole, 0, 1},
		{"((3) 4 (5))", whole, 2, 1},
		{"((0) 1 (2) 4 (5))", whole, 1, 3},
		{"((7) 8 (9))", "((1) 2 (3) 4 (5) 6 (7))", 1, 2},
		{"((3) 4 (5) 6 (7))", "((1) 2 (3) 4 (5))", 2, 2},
		{"(((5) 6 (7)) 8 ((9) 10 (11)))", whole, 3, 4},
		{"(((1) 2 (3)) 5 ((6) 7 (8)))", "(((0) 2 (3)) 5 ((6) 7 (8)))", 4, 3},
	} {
		a, b := parsed(t, c.a), parsed(t, c.b)
		if shared, fresh := impl.SharedNodes(a, b), impl.NewNodes(a, b); shared != c.shared || fresh != c.fresh {
			t.Errorf("%d nodes of %s stand in %s, and %d do not", shared, c.a, c.b, fresh)
		}
		checkDiff(t, a, b)
		checkDiff(t, b, a)
	}
}

func TestDiffsOfTreesOfOtherWidths(t *testing.T) {
	narrow, wide := parsed(t, "((1) 2 (3))"), parsed(t, "((1 2 3) 4 (5 6 7 8 9 10))")
	checkWides(t, narrow, 2, 3)
	checkWides(t, wide, 6)
	checkDiff(t, narrow, wide)
	checkDiff(t, wide, narrow)
}

func TestDiffsOfTreesOfNoWidth(t *testing.T) {
	good := []impl.Tree{leaf(), leaf(1), parsed(t, "((1) 2 (3))"), grown(6, steady(1, 1), plain)}
	for _, x := range noTrees(t) {
		for _, y := range good {
			checkNoDiff(t, x, y)
			checkNoDiff(t, y, x)
		}
		checkNoDiff(t, x, x)
	}
}

// usedUp overwrites all elements of a list, and its memory beyond its length.
func usedUp(list []int) {
	list = list[:cap(list)]
	for i := range list {
		list[i] = 88
	}
}

func TestDiffsShareNoMemory(t *testing.T) {
	x, y := roomy(parsed(t, "(((1) 2 (3)) 4 ((5) 6 (7)))")), roomy(parsed(t, "((1) 4 (5 8) 10 (11))"))
	z := impl.Tree{Keys: x.Keys, Kids: x.Kids}
	beforeX, beforeY := withRoom(x), withRoom(y)
	come, gone, _ := impl.TellDiff(x, y)
	usedUp(come)
	if !slices.Equal(gone, []int{2, 3, 6, 7}) {
		t.Errorf("both lists share memory: %v", gone)
	}
	usedUp(gone)
	checkDiff(t, x, y)
	checkDiff(t, x, z)
	checkDiff(t, x, x.Kids[0])
	checkDiff(t, x.Kids[1], x)
	if !reflect.DeepEqual(withRoom(x), beforeX) || !reflect.DeepEqual(withRoom(y), beforeY) {
		t.Error("the trees have changed")
	}
}

func TestVersionsShareNoMemory(t *testing.T) {
	room := append(allPut(scrambled(37, 5)[:40]), allOut(scrambled(37, 5)[:23])...)
	before := slices.Clone(room)
	ops := room[:57]
	for wide := impl.MinWide; wide <= impl.MaxWide; wide++ {
		for n := 0; n <= len(ops); n += 3 {
			checkOwnMemory(t, func() impl.Tree { x, _ := impl.VersionAt(wide, ops, n); return x })
		}
		texts, _ := impl.VersionsOf(wide, ops)
		clear(texts[:cap(texts)])
		checkVersions(t, wide, ops)
	}
	text := impl.FormatOps(ops)
	one, _ := impl.ParseOps(text)
	two, _ := impl.ParseOps(text)
	clear(one[:cap(one)])
	if !slices.Equal(two, ops) || !slices.Equal(room, before) {
		t.Errorf("operations have become %v and %v", two, room)
	}
}

func TestVersionsOfManyCallsAtOnce(t *testing.T) {
	ops := append(allPut(scrambled(37, 5)[:40]), allOut(scrambled(37, 5)[10:30])...)
	a, _ := impl.InsertAll(2, scrambled(37, 5)[:70])
	b, _ := impl.DeleteAll(a, 2, scrambled(23, 5)[:30])
	var group sync.WaitGroup
	for range 20 {
		group.Go(func() {
			checkVersions(t, 2, ops)
			checkDiff(t, a, b)
		})
	}
	group.Wait()
}
