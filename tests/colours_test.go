package tests

import (
	"math"
	"reflect"
	"regexp"
	"slices"
	"strconv"
	"strings"
	"sync"
	"testing"

	"loop.example/fulltrees/impl"
)

// nothing is a coloured tree without nodes.
var nothing = impl.Bin{}

// blackBin returns a black node with two kids.
func blackBin(first impl.Bin, key int, second impl.Bin) impl.Bin {
	return impl.Bin{Key: key, Kids: []impl.Bin{first, second}}
}

// redBin returns a red node with two kids.
func redBin(first impl.Bin, key int, second impl.Bin) impl.Bin {
	return impl.Bin{Key: key, Red: true, Kids: []impl.Bin{first, second}}
}

// parsedBin returns the coloured tree of a text that has to be one.
func parsedBin(t *testing.T, text string) impl.Bin {
	t.Helper()
	b, ok := impl.ParseBin(text)
	if !ok {
		t.Fatalf("ParseBin(%q) fails", text)
	}
	return b
}

// sameBin reports whether two coloured trees are the same, nil and empty slices being the same.
func sameBin(a, b impl.Bin) bool {
	return a.Key == b.Key && a.Red == b.Red && slices.EqualFunc(a.Kids, b.Kids, sameBin)
}

// copyOfBin returns a copy of a coloured tree that shares no memory with it.
func copyOfBin(b impl.Bin) impl.Bin {
	c := impl.Bin{Key: b.Key, Red: b.Red}
	for _, kid := range b.Kids {
		c.Kids = append(c.Kids, copyOfBin(kid))
	}
	return c
}

// textOfBin says in other words what the text of a coloured tree is.
func textOfBin(b impl.Bin) string {
	if len(b.Kids) != 2 {
		return "-"
	}
	inside := strings.Join([]string{textOfBin(b.Kids[0]), strconv.Itoa(b.Key), textOfBin(b.Kids[1])}, " ")
	if b.Red {
		return "<" + inside + ">"
	}
	return "[" + inside + "]"
}

// keysOfBin says in other words which keys a coloured tree has.
func keysOfBin(b impl.Bin) []int {
	switch len(b.Kids) {
	case 0:
		return nil
	case 1:
		return append(keysOfBin(b.Kids[0]), b.Key)
	}
	return slices.Concat(keysOfBin(b.Kids[0]), []int{b.Key}, keysOfBin(b.Kids[1]))
}

// depthOfBin says in other words how many nodes lie within each other.
func depthOfBin(b impl.Bin) int {
	deep := 0
	for _, kid := range b.Kids {
		deep = max(deep, depthOfBin(kid)+1)
	}
	return max(deep, min(len(b.Kids), 1))
}

// waysOfBin returns the colours on each way down to nothing, as texts.
func waysOfBin(b impl.Bin) []string {
	if len(b.Kids) == 0 {
		return []string{""}
	}
	colour := "b"
	if b.Red {
		colour = "r"
	}
	var ways []string
	for _, kid := range b.Kids {
		for _, way := range waysOfBin(kid) {
			ways = append(ways, colour+way)
		}
	}
	return ways
}

// isEven reports whether each node has two kids, and nothing has neither a key nor a colour.
func isEven(b impl.Bin) bool {
	if len(b.Kids) == 0 {
		return b.Key == 0 && !b.Red
	}
	return len(b.Kids) == 2 && isEven(b.Kids[0]) && isEven(b.Kids[1])
}

// blacksByRules says in other words how many black nodes lie on each way down; -1 if the document does not allow such a coloured tree.
func blacksByRules(b impl.Bin) int {
	keys := keysOfBin(b)
	for i, key := range keys {
		if key < 0 || key > 99 || i > 0 && keys[i-1] >= key {
			return -1
		}
	}
	ways := waysOfBin(b)
	blacks := strings.Count(ways[0], "b")
	for _, way := range ways {
		if strings.HasPrefix(way, "r") || strings.Contains(way, "rr") || strings.Count(way, "b") != blacks {
			return -1
		}
	}
	if b.Red || !isEven(b) {
		return -1
	}
	return blacks
}

// checkBin checks all that is told of any coloured tree that has an end, and of one that is not valid that nothing is made of it.
func checkBin(t *testing.T, b impl.Bin) {
	t.Helper()
	text, blacks := textOfBin(b), blacksByRules(b)
	if got := impl.FormatBin(b); got != text {
		t.Errorf("FormatBin = %s, not %s", got, text)
	}
	if got, want := impl.BinKeys(b), keysOfBin(b); !slices.Equal(got, want) {
		t.Errorf("BinKeys(%s) = %v, not %v", text, got, want)
	}
	if got, want := impl.BinDepth(b), depthOfBin(b); got != want {
		t.Errorf("BinDepth(%s) = %d, not %d", text, got, want)
	}
	if got := impl.BinValid(b); got != (blacks >= 0) {
		t.Errorf("BinValid(%v) = %v", b, got)
	}
	if got := impl.BlackDepth(b); got != blacks {
		t.Errorf("BlackDepth(%v) = %d, not %d", b, got, blacks)
	}
	if blacks < 0 {
		checkNothingMade(t, b)
		return
	}
	if got, ok := impl.FromColours(b); !ok || !impl.SameTree(got, treeOfBin(b)) {
		t.Errorf("FromColours(%s) = %s, %v", text, impl.FormatTree(got), ok)
	}
}

// checkNothingMade checks that no tree is made of a coloured tree, and no key is inserted.
func checkNothingMade(t *testing.T, b impl.Bin) {
	t.Helper()
	if x, ok := impl.FromColours(b); ok || !isZero(x) {
		t.Errorf("FromColours = %s, %v", impl.FormatTree(x), ok)
	}
	for _, key := range []int{-1, 0, 1, 2, 3, 50, 99, 100} {
		checkNoKeyPut(t, b, key)
	}
}

// checkNoKeyPut checks that a key is not inserted.
func checkNoKeyPut(t *testing.T, b impl.Bin, key int) {
	t.Helper()
	if c, ok := impl.InsertBin(b, key); ok || !sameBin(c, nothing) {
		t.Errorf("InsertBin of %d = %s, %v", key, impl.FormatBin(c), ok)
	}
}

// treeOfBin says in other words which tree a valid coloured tree is.
func treeOfBin(b impl.Bin) impl.Tree {
	var x impl.Tree
	var look func(b impl.Bin)
	look = func(b impl.Bin) {
		for i, kid := range b.Kids {
			if i == 1 {
				x.Keys = append(x.Keys, b.Key)
			}
			if kid.Red {
				look(kid)
			} else if len(kid.Kids) > 0 {
				x.Kids = append(x.Kids, treeOfBin(kid))
			}
		}
	}
	look(b)
	return x
}

// binOfTree says in other words which coloured tree a valid tree of width 3 is.
func binOfTree(x impl.Tree) impl.Bin {
	if len(x.Keys) == 0 {
		return nothing
	}
	below := []impl.Bin{nothing, nothing, nothing, nothing}
	for i, kid := range x.Kids {
		below[i] = binOfTree(kid)
	}
	keys := x.Keys
	if len(keys) == 1 {
		return blackBin(below[0], keys[0], below[1])
	}
	first := redBin(below[0], keys[0], below[1])
	if len(keys) == 2 {
		return blackBin(first, keys[1], below[2])
	}
	return blackBin(first, keys[1], redBin(below[2], keys[2], below[3]))
}

// evenBins returns all valid coloured trees of a number of black nodes on each way, without keys, which may be red themselves or not.
func evenBins(blacks int) (blackOnes, all []impl.Bin) {
	if blacks == 0 {
		blackOnes = []impl.Bin{nothing}
	} else {
		_, below := evenBins(blacks - 1)
		for _, first := range below {
			for _, second := range below {
				blackOnes = append(blackOnes, blackBin(first, 0, second))
			}
		}
	}
	all = slices.Clone(blackOnes)
	for _, first := range blackOnes {
		for _, second := range blackOnes {
			all = append(all, redBin(first, 0, second))
		}
	}
	return blackOnes, all
}

// keyedBin returns a copy of a coloured tree whose keys in order are those that key tells for 0, 1 and so on.
func keyedBin(b impl.Bin, key func(int) int) impl.Bin {
	c, next := copyOfBin(b), 0
	var label func(b *impl.Bin)
	label = func(b *impl.Bin) {
		for i := range b.Kids {
			label(&b.Kids[i])
			if i == 0 {
				b.Key = key(next)
				next++
			}
		}
	}
	label(&c)
	return c
}

// binsOfFewBlacks returns all valid coloured trees with two black nodes on each way at most, with odd keys.
func binsOfFewBlacks() []impl.Bin {
	var bins []impl.Bin
	for blacks := range 3 {
		blackOnes, _ := evenBins(blacks)
		for _, b := range blackOnes {
			bins = append(bins, keyedBin(b, odd))
		}
	}
	return bins
}

// grownBins returns the coloured trees that some lists of keys lead to, as far as each of them.
func grownBins(t *testing.T) []impl.Bin {
	t.Helper()
	var bins []impl.Bin
	for i, keys := range someLists() {
		b := nothing
		for at, key := range keys {
			if c, ok := impl.InsertBin(b, key); ok {
				b = c
			} else if !slices.Contains(impl.BinKeys(b), key) {
				t.Fatalf("InsertBin(%s, %d) fails", impl.FormatBin(b), key)
			}
			if (at+i)%13 == 0 || at == len(keys)-1 {
				bins = append(bins, b)
			}
		}
	}
	return bins
}

func TestAllColouredTreesOfFewBlackNodes(t *testing.T) {
	bins := binsOfFewBlacks()
	if len(bins) != 1+4+400 {
		t.Fatalf("%d trees", len(bins))
	}
	for _, b := range bins {
		checkBin(t, b)
		if !impl.BinValid(b) {
			t.Errorf("%s is not valid", impl.FormatBin(b))
		}
		if c := parsedBin(t, impl.FormatBin(b)); !sameBin(b, c) {
			t.Errorf("ParseBin(%s) = %v", impl.FormatBin(b), c)
		}
	}
}

// binShapes returns all coloured trees of so many nodes, without keys, whose nodes have one to three kids, and those that are nothing in between.
func binShapes(nodes int) []impl.Bin {
	if nodes == 0 {
		return []impl.Bin{nothing}
	}
	var all []impl.Bin
	for kids := 1; kids <= 3; kids++ {
		for _, list := range binLists(nodes-1, kids) {
			all = append(all, impl.Bin{Kids: list}, impl.Bin{Red: true, Kids: list})
		}
	}
	return all
}

// binLists returns all lists of count shapes that have so many nodes together.
func binLists(nodes, count int) [][]impl.Bin {
	if count == 0 {
		if nodes == 0 {
			return [][]impl.Bin{nil}
		}
		return nil
	}
	var all [][]impl.Bin
	for first := 0; first <= nodes; first++ {
		rest := binLists(nodes-first, count-1)
		for _, b := range binShapes(first) {
			for _, list := range rest {
				all = append(all, append([]impl.Bin{b}, list...))
			}
		}
	}
	return all
}

func TestAllSmallColouredTrees(t *testing.T) {
	seen, valid := 0, 0
	for nodes := range 5 {
		for i, shape := range binShapes(nodes) {
			if nodes == 4 && i%7 != 0 {
				continue
			}
			b := keyedBin(shape, thirds)
			checkBin(t, b)
			seen++
			if impl.BinValid(b) {
				valid++
			}
		}
	}
	if seen < 3000 || valid < 5 {
		t.Errorf("%d trees, and %d are valid", seen, valid)
	}
}

// twoKidShapes returns all coloured trees of so many nodes, without keys, whose nodes have two kids.
func twoKidShapes(nodes int) []impl.Bin {
	if nodes == 0 {
		return []impl.Bin{nothing}
	}
	var all []impl.Bin
	for first := range nodes {
		for _, a := range twoKidShapes(first) {
			for _, b := range twoKidShapes(nodes - 1 - first) {
				all = append(all, blackBin(a, 0, b), redBin(a, 0, b))
			}
		}
	}
	return all
}

func TestAllColouredTreesWithTwoKidsEach(t *testing.T) {
	for nodes := range 6 {
		valid := 0
		for _, shape := range twoKidShapes(nodes) {
			b := keyedBin(shape, late)
			checkBin(t, b)
			if impl.BinValid(b) {
				valid++
			}
			if c, ok := impl.ParseBin(impl.FormatBin(b)); !ok || !sameBin(b, c) {
				t.Errorf("ParseBin(%s) = %v, %v", impl.FormatBin(b), c, ok)
			}
		}
		if want := []int{1, 1, 2, 2, 4, 8}[nodes]; valid != want {
			t.Errorf("%d trees of %d nodes are valid, not %d", valid, nodes, want)
		}
	}
}

// changedBins returns copies of a coloured tree of which one part each is not as it was: another key, another colour, another number of kids, or nothing with a key or a colour.
func changedBins(b impl.Bin) []impl.Bin {
	var all []impl.Bin
	for _, part := range partsOfBin(&b) {
		was := *part
		for _, key := range []int{-1, 0, was.Key - 2, was.Key - 1, was.Key + 1, was.Key + 2, 99, 100, math.MinInt, math.MaxInt} {
			part.Key = key
			all = append(all, copyOfBin(b))
		}
		*part = was
		part.Red = !was.Red
		all = append(all, copyOfBin(b))
		*part = was
		for _, kids := range [][]impl.Bin{nil, {nothing}, {nothing, nothing}, {nothing, nothing, nothing}, slices.Repeat(was.Kids, 2)} {
			part.Kids = kids
			all = append(all, copyOfBin(b))
		}
		*part = was
		if len(was.Kids) == 2 {
			part.Kids = []impl.Bin{was.Kids[1], was.Kids[0]}
			all = append(all, copyOfBin(b))
		}
		*part = was
	}
	return all
}

// partsOfBin returns all nodes of a coloured tree, and all that are nothing.
func partsOfBin(b *impl.Bin) []*impl.Bin {
	all := []*impl.Bin{b}
	for i := range b.Kids {
		all = append(all, partsOfBin(&b.Kids[i])...)
	}
	return all
}

func TestColouredTreesWithOneChange(t *testing.T) {
	for i, b := range binsOfFewBlacks() {
		if i > 30 && i%20 != 0 {
			continue
		}
		for _, c := range changedBins(copyOfBin(b)) {
			checkBin(t, c)
		}
	}
}

// fullBin returns a coloured tree of black nodes alone, so many on each way.
func fullBin(blacks int) impl.Bin {
	if blacks == 0 {
		return nothing
	}
	return blackBin(fullBin(blacks-1), 0, fullBin(blacks-1))
}

// steepBin returns a coloured tree in which twice as many nodes lie within each other as black nodes lie on each way.
func steepBin(blacks int) impl.Bin {
	if blacks == 0 {
		return nothing
	}
	return blackBin(redBin(steepBin(blacks-1), 0, fullBin(blacks-1)), 0, fullBin(blacks-1))
}

func TestDeepestColouredTrees(t *testing.T) {
	for _, c := range []struct {
		b                   impl.Bin
		keys, blacks, depth int
	}{
		{fullBin(6), 63, 6, 6},
		{steepBin(5), 62, 5, 10},
		{blackBin(steepBin(5), 0, fullBin(5)), 94, 6, 11},
		{blackBin(fullBin(5), 0, steepBin(5)), 94, 6, 11},
		{steepBin(6), 126, -1, 12},
		{fullBin(7), 127, -1, 7},
		{fullBin(8), 255, -1, 8},
		{blackBin(steepBin(6), 0, fullBin(6)), 190, -1, 13},
	} {
		b := keyedBin(c.b, plain)
		if impl.BlackDepth(b) != c.blacks || impl.BinDepth(b) != c.depth || len(impl.BinKeys(b)) != c.keys {
			t.Errorf("%s has %d black nodes on each way, %d within each other and %d keys", impl.FormatBin(b), impl.BlackDepth(b), impl.BinDepth(b), len(impl.BinKeys(b)))
		}
		checkBin(t, b)
		checkBin(t, c.b)
		if c.blacks >= 0 {
			checkBin(t, keyedBin(b, func(i int) int { return 99 - i }))
			checkKeyPut(t, keyedBin(b, func(i int) int { return i + 1 }), 0)
			checkKeyPut(t, b, 99)
		}
	}
}

func TestLargeColouredTreesWithOneChange(t *testing.T) {
	for _, b := range []impl.Bin{binOfTree(grown(5, steady(1, 1), odd)), binOfTree(grown(3, steady(3, 3), plain)), keyedBin(blackBin(steepBin(5), 0, fullBin(5)), plain)} {
		if !impl.BinValid(b) {
			t.Fatalf("%s is not valid", impl.FormatBin(b))
		}
		for _, c := range changedBins(copyOfBin(b)) {
			blacks := blacksByRules(c)
			if impl.BinValid(c) != (blacks >= 0) || impl.BlackDepth(c) != blacks {
				t.Errorf("BinValid(%s)", impl.FormatBin(c))
			}
			if blacks < 0 {
				checkNothingMade(t, c)
			}
		}
	}
}

func TestColouredTreesByHand(t *testing.T) {
	for _, c := range []struct {
		text          string
		keys          []int
		blacks, depth int
		tree          string
	}{
		{"-", nil, 0, 0, "()"},
		{"[- 0 -]", []int{0}, 1, 1, "(0)"},
		{"[- 99 -]", []int{99}, 1, 1, "(99)"},
		{"[<- 3 -> 5 -]", []int{3, 5}, 1, 2, "(3 5)"},
		{"[- 3 <- 5 ->]", []int{3, 5}, 1, 2, "(3 5)"},
		{"[<- 1 -> 3 <- 5 ->]", []int{1, 3, 5}, 1, 2, "(1 3 5)"},
		{"[[- 1 -] 2 [- 3 -]]", []int{1, 2, 3}, 2, 2, "((1) 2 (3))"},
		{"[[- 1 -] 2 [- 3 <- 4 ->]]", []int{1, 2, 3, 4}, 2, 3, "((1) 2 (3 4))"},
		{"[[- 1 -] 2 [<- 3 -> 4 -]]", []int{1, 2, 3, 4}, 2, 3, "((1) 2 (3 4))"},
		{"[[- 1 -] 2 <[- 3 -] 4 [- 5 -]>]", []int{1, 2, 3, 4, 5}, 2, 3, "((1) 2 (3) 4 (5))"},
		{"[<[- 1 -] 2 [- 3 -]> 4 [- 5 -]]", []int{1, 2, 3, 4, 5}, 2, 3, "((1) 2 (3) 4 (5))"},
		{"[<[- 1 -] 2 [- 3 <- 4 ->]> 5 <[- 6 -] 7 [<- 8 -> 9 <- 10 ->]>]", from(1, 10), 2, 4, "((1) 2 (3 4) 5 (6) 7 (8 9 10))"},
		{"<- 5 ->", []int{5}, -1, 1, ""},
		{"<[- 1 -] 2 [- 3 -]>", []int{1, 2, 3}, -1, 2, ""},
		{"[<<- 1 -> 2 -> 3 -]", []int{1, 2, 3}, -1, 3, ""},
		{"[- 1 <- 2 <- 3 ->>]", []int{1, 2, 3}, -1, 3, ""},
		{"[[- 1 -] 2 -]", []int{1, 2}, -1, 2, ""},
		{"[- 1 [- 2 -]]", []int{1, 2}, -1, 2, ""},
		{"[[- 1 -] 2 <- 3 ->]", []int{1, 2, 3}, -1, 2, ""},
		{"[- 5 <- 3 ->]", []int{5, 3}, -1, 2, ""},
		{"[- 5 <- 5 ->]", []int{5, 5}, -1, 2, ""},
		{"[<- 5 -> 5 -]", []int{5, 5}, -1, 2, ""},
		{"[[- 1 <- 6 ->] 5 [- 7 -]]", []int{1, 6, 5, 7}, -1, 3, ""},
		{"[[- 1 -] 5 [<- 4 -> 7 -]]", []int{1, 5, 4, 7}, -1, 3, ""},
	} {
		b := parsedBin(t, c.text)
		if impl.FormatBin(b) != c.text || !slices.Equal(impl.BinKeys(b), c.keys) || impl.BinDepth(b) != c.depth {
			t.Errorf("%s has the text %s, the keys %v and %d nodes within each other", c.text, impl.FormatBin(b), impl.BinKeys(b), impl.BinDepth(b))
		}
		if impl.BinValid(b) != (c.blacks >= 0) || impl.BlackDepth(b) != c.blacks {
			t.Errorf("BinValid(%s) = %v, and BlackDepth = %d", c.text, impl.BinValid(b), impl.BlackDepth(b))
		}
		if x, ok := impl.FromColours(b); ok != (c.blacks >= 0) || ok && impl.FormatTree(x) != c.tree || !ok && !isZero(x) {
			t.Errorf("FromColours(%s) = %s, %v", c.text, impl.FormatTree(x), ok)
		}
	}
}

func TestNothingWithAKeyOrAColour(t *testing.T) {
	for _, bad := range []impl.Bin{{Key: 5}, {Key: -1}, {Key: 100}, {Red: true}, {Key: 5, Red: true}, {Key: 5, Kids: []impl.Bin{}}} {
		for _, b := range []impl.Bin{
			bad, blackBin(bad, 7, nothing), blackBin(nothing, 3, bad), blackBin(redBin(nothing, 6, bad), 7, nothing), blackBin(nothing, 1, redBin(bad, 7, nothing)),
			blackBin(blackBin(nothing, 1, nothing), 2, blackBin(nothing, 3, bad)),
		} {
			if impl.BinValid(b) || impl.BlackDepth(b) != -1 {
				t.Errorf("BinValid(%v)", b)
			}
			checkBin(t, b)
		}
	}
	if empty := (impl.Bin{Kids: []impl.Bin{}}); !impl.BinValid(empty) || impl.BlackDepth(empty) != 0 || impl.FormatBin(empty) != "-" {
		t.Error("nothing with an empty slice is not valid")
	}
}

func TestNodesWithOtherNumbersOfKids(t *testing.T) {
	three := blackBin(nothing, 3, nothing)
	for _, c := range []struct {
		b     impl.Bin
		text  string
		keys  []int
		depth int
	}{
		{impl.Bin{Key: 7, Kids: []impl.Bin{three}}, "-", []int{3, 7}, 2},
		{impl.Bin{Key: 7, Red: true, Kids: []impl.Bin{nothing}}, "-", []int{7}, 1},
		{impl.Bin{Key: 7, Kids: []impl.Bin{nothing, nothing, three}}, "-", []int{7}, 2},
		{impl.Bin{Key: 7, Kids: []impl.Bin{three, three, three, three}}, "-", []int{3, 7, 3}, 2},
		{impl.Bin{Key: 7, Kids: []impl.Bin{nothing, nothing, {Key: 8, Kids: []impl.Bin{three}}}}, "-", []int{7}, 3},
		{blackBin(impl.Bin{Key: -7, Kids: []impl.Bin{three}}, math.MinInt64, three), "[- -9223372036854775808 [- 3 -]]", []int{3, -7, math.MinInt64, 3}, 3},
		{redBin(three, math.MaxInt64, impl.Bin{Key: 9, Red: true, Kids: make([]impl.Bin, 9)}), "<[- 3 -] 9223372036854775807 ->", []int{3, math.MaxInt64, 9}, 2},
		{impl.Bin{Key: 1, Kids: []impl.Bin{{Key: 2, Kids: []impl.Bin{{Key: 3, Kids: []impl.Bin{{Key: 4}}}}}}}, "-", []int{3, 2, 1}, 3},
	} {
		if impl.FormatBin(c.b) != c.text || !slices.Equal(impl.BinKeys(c.b), c.keys) || impl.BinDepth(c.b) != c.depth {
			t.Errorf("%v has the text %s, the keys %v and %d nodes within each other", c.b, impl.FormatBin(c.b), impl.BinKeys(c.b), impl.BinDepth(c.b))
		}
		checkBin(t, c.b)
		if impl.BinValid(c.b) {
			t.Errorf("BinValid(%v)", c.b)
		}
	}
}

// checkNoBin checks that a text is that of no coloured tree.
func checkNoBin(t *testing.T, text string) {
	t.Helper()
	if b, ok := impl.ParseBin(text); ok || !sameBin(b, nothing) {
		t.Errorf("ParseBin(%.60q) = %s, %v", text, impl.FormatBin(b), ok)
	}
}

func TestTextsOfNoColouredTree(t *testing.T) {
	for _, text := range []string{
		"", " ", "--", "- ", " -", "-\n", "\n-", "- -", "5", "-5", "[", "]", "<", ">", "[]", "<>", "[-]", "<->", "[- -]", "[- 5]", "[5 -]", "[5]", "[- 5 -", "- 5 -]", "[- 5 - ]", "[ - 5 -]", "[-  5 -]", "[- 5  -]",
		"[- 5 ->", "<- 5 -]", "(- 5 -)", "{- 5 -}", "[-5-]", "[-5 -]", "[- 5-]", "[- 5 -] ", " [- 5 -]", "[- 5 -]-", "[- 5 -][- 5 -]", "[- 5 -]]", "[[- 5 -]", "[- 5 -]\n", "[-\t5 -]", "[- 5\n-]",
		"[- 05 -]", "[- 00 -]", "[- -0 -]", "[- -1 -]", "[- +5 -]", "[- 100 -]", "[- 999 -]", "[- 1_0 -]", "[- 0x1 -]", "[- 1e1 -]", "[- 1.0 -]", "[- a -]", "[- ５ -]", "[- 4294967301 -]", "[- 18446744073709551621 -]", "[- " + strings.Repeat("9", 100) + " -]",
		"[- 5 - -]", "[- 5 - 6 -]", "[- - -]", "[5 5 5]", "[- 5 6]", "[4 5 -]", "[() 5 ()]", "[- 5 [- 6 -]", "[- 5 <- 6 -]]", "[- 5 <- 6 ->>", "[<- 4 -] 5 -]", "[- 5 -\x00]", "\x00", "\xff", "[- 5 -]\xff", "−", "[− 5 −]",
	} {
		checkNoBin(t, text)
	}
}

// shortBinTexts returns all texts of coloured trees of so many bytes that are made of the keys 0, 5, 50 and 55.
func shortBinTexts(size int) []string {
	if size == 1 {
		return []string{"-"}
	}
	var all []string
	for _, key := range []string{"0", "5", "50", "55"} {
		left := size - 4 - len(key)
		for first := 1; first < left; first++ {
			for _, a := range shortBinTexts(first) {
				for _, b := range shortBinTexts(left - first) {
					all = append(all, "["+a+" "+key+" "+b+"]", "<"+a+" "+key+" "+b+">")
				}
			}
		}
	}
	return all
}

func TestAllShortTextsOfColouredTrees(t *testing.T) {
	good := 0
	for size := range 8 {
		texts := shortBinTexts(size)
		everyText("[]<>- 05", size, func(text string) {
			b, ok := impl.ParseBin(text)
			if ok != slices.Contains(texts, text) || ok && textOfBin(b) != text || !ok && !sameBin(b, nothing) {
				t.Fatalf("ParseBin(%q) = %v, %v", text, b, ok)
			}
			if ok {
				good++
			}
		})
	}
	if good != 5 {
		t.Errorf("%d texts are some of coloured trees", good)
	}
}

func TestTextsOfColouredTreesWithOneChange(t *testing.T) {
	isNode := regexp.MustCompile(`\[- (0|[1-9][0-9]?) -\]|<- (0|[1-9][0-9]?) ->`)
	isText := func(text string) bool {
		for isNode.MatchString(text) {
			text = isNode.ReplaceAllString(text, "-")
		}
		return text == "-"
	}
	for size := 11; size <= 13; size++ {
		for _, text := range shortBinTexts(size) {
			if !isText(text) {
				t.Fatalf("%s is no text", text)
			}
			for at := range text {
				for _, with := range []string{"", "-", "[", "]", "<", ">", " ", "0", "1", "10", "--", "  "} {
					changed := text[:at] + with + text[at+1:]
					if b, ok := impl.ParseBin(changed); ok != isText(changed) || ok && textOfBin(b) != changed || !ok && !sameBin(b, nothing) {
						t.Errorf("ParseBin(%q) = %v, %v", changed, b, ok)
					}
				}
			}
		}
	}
}

// chainText returns the text of a coloured tree in which so many nodes lie within each other, each the first kid of the one above, and the last one has the key last.
func chainText(nodes int, last string) string {
	return strings.Repeat("[", nodes) + "- " + last + " -]" + strings.Repeat(" 7 -]", nodes-1)
}

func TestLongTextsOfColouredTrees(t *testing.T) {
	for _, c := range []struct {
		text string
		size int
		good bool
	}{
		{chainText(332, "5"), 1993, true},
		{chainText(333, "5"), 1999, true},
		{chainText(333, "55"), 2000, true},
		{strings.Replace(chainText(333, "55"), " 7 ", " 77 ", 1), 2001, false},
		{chainText(334, "5"), 2005, false},
		{strings.Repeat("[", 2000), 2000, false},
		{strings.Repeat("<", 1000000), 1000000, false},
		{strings.Repeat("-", 1000000), 1000000, false},
		{"[- " + strings.Repeat("0", 1000000) + " -]", 1000006, false},
	} {
		b, ok := impl.ParseBin(c.text)
		if len(c.text) != c.size || ok != c.good || ok && impl.FormatBin(b) != c.text || !ok && !sameBin(b, nothing) {
			t.Errorf("a text of %d bytes: %v", len(c.text), ok)
		}
	}
}

// checkColours checks what a tree becomes that is valid for the width 3, and what becomes of that.
func checkColours(t *testing.T, x impl.Tree) {
	t.Helper()
	b, ok := impl.ToColours(x)
	if !ok || !sameBin(b, binOfTree(x)) {
		t.Errorf("ToColours(%s) = %s, %v", impl.FormatTree(x), impl.FormatBin(b), ok)
	}
	checkBin(t, b)
	blacks := impl.DepthOf(x)
	if len(x.Keys) == 0 {
		blacks = 0
	}
	if !impl.BinValid(b) || impl.BlackDepth(b) != blacks || !slices.Equal(impl.BinKeys(b), impl.KeysOf(x)) {
		t.Errorf("ToColours(%s) = %s, which is no such tree", impl.FormatTree(x), impl.FormatBin(b))
	}
	if y, ok := impl.FromColours(b); !ok || !impl.SameTree(x, y) {
		t.Errorf("FromColours(%s) = %s, %v, not %s", impl.FormatBin(b), impl.FormatTree(y), ok, impl.FormatTree(x))
	}
}

// checkNoColours checks that a tree becomes no coloured tree.
func checkNoColours(t *testing.T, x impl.Tree) {
	t.Helper()
	if b, ok := impl.ToColours(x); ok || !sameBin(b, nothing) {
		t.Errorf("ToColours = %s, %v", impl.FormatBin(b), ok)
	}
}

func TestColoursOfTrees(t *testing.T) {
	trees := append(smallTrees(5), someTrees(t)...)
	for wide := impl.MinWide; wide <= impl.MaxWide; wide++ {
		trees = append(trees, insertedTrees(t, wide, []int{1, 7, 30, 64, 100})...)
		trees = append(trees, thinnedTrees(t, wide)...)
	}
	others := 0
	for _, x := range trees {
		if impl.TreeValid(x, 3) {
			checkColours(t, x)
		} else {
			checkNoColours(t, x)
			others++
		}
	}
	if others < 100 || len(trees)-others < 100 {
		t.Errorf("%d trees are valid for the width 3, and %d are not", len(trees)-others, others)
	}
}

func TestColoursOfTreesByHand(t *testing.T) {
	for tree, text := range map[string]string{
		"()":                                "-",
		"(0)":                               "[- 0 -]",
		"(0 99)":                            "[<- 0 -> 99 -]",
		"(1 2 3)":                           "[<- 1 -> 2 <- 3 ->]",
		"((1) 2 (3 4))":                     "[[- 1 -] 2 [<- 3 -> 4 -]]",
		"((1) 2 (3) 4 (5))":                 "[<[- 1 -] 2 [- 3 -]> 4 [- 5 -]]",
		"((1) 2 (3) 4 (5) 6 (7))":           "[<[- 1 -] 2 [- 3 -]> 4 <[- 5 -] 6 [- 7 -]>]",
		"((1 2) 3 (4 5 6) 7 (8))":           "[<[<- 1 -> 2 -] 3 [<- 4 -> 5 <- 6 ->]> 7 [- 8 -]]",
		"(((0) 1 (2)) 3 ((4) 5 (6 7)))":     "[[[- 0 -] 1 [- 2 -]] 3 [[- 4 -] 5 [<- 6 -> 7 -]]]",
		"(((0) 1 (2)) 3 ((4) 5 (6) 7 (8)))": "[[[- 0 -] 1 [- 2 -]] 3 [<[- 4 -] 5 [- 6 -]> 7 [- 8 -]]]",
	} {
		x := parsed(t, tree)
		if b, ok := impl.ToColours(x); !ok || impl.FormatBin(b) != text || !sameBin(b, parsedBin(t, text)) {
			t.Errorf("ToColours(%s) = %s, %v", tree, impl.FormatBin(b), ok)
		}
		checkColours(t, x)
	}
}

func TestColoursOfTreesThatAreNotValid(t *testing.T) {
	for _, x := range noTrees(t) {
		checkNoColours(t, x)
	}
	for _, text := range []string{"(1 2 3 4)", "((1 2 3 4) 5 (6 7))", "((1 2 3) 4 (5 6 7 8))", "((1) 2 (3) 4 (5) 6 (7) 8 (9))", "((1) 2 ())", "((1))"} {
		checkNoColours(t, parsed(t, text))
	}
}

func TestTreesOfAllColoursAreOfWidthThree(t *testing.T) {
	var trees []impl.Tree
	for _, b := range append(binsOfFewBlacks(), grownBins(t)...) {
		x, ok := impl.FromColours(b)
		if !ok || !impl.TreeValid(x, 3) || !slices.Equal(impl.KeysOf(x), impl.BinKeys(b)) {
			t.Errorf("FromColours(%s) = %s, %v", impl.FormatBin(b), impl.FormatTree(x), ok)
		}
		c, _ := impl.ToColours(x)
		if impl.BlackDepth(b) != impl.BlackDepth(c) || impl.BlackDepth(b) > 0 && impl.DepthOf(x) != impl.BlackDepth(b) {
			t.Errorf("%s and %s have other numbers of black nodes", impl.FormatBin(b), impl.FormatBin(c))
		}
		trees = append(trees, x)
	}
	for _, x := range trees {
		checkColours(t, x)
	}
}

// mendedBin says in other words what a node becomes that may be a black one with a red kid that has a red kid.
func mendedBin(b impl.Bin) impl.Bin {
	for _, kid := range b.Kids {
		for _, low := range kid.Kids {
			if !b.Red && kid.Red && low.Red {
				keys := []int{b.Key, kid.Key, low.Key}
				four := besides(b, keys)
				slices.Sort(keys)
				return redBin(blackBin(four[0], keys[0], four[1]), keys[1], blackBin(four[2], keys[2], four[3]))
			}
		}
	}
	return b
}

// besides returns what lies below the nodes with some keys, in order.
func besides(b impl.Bin, keys []int) []impl.Bin {
	if len(b.Kids) == 0 || !slices.Contains(keys, b.Key) {
		return []impl.Bin{b}
	}
	return append(besides(b.Kids[0], keys), besides(b.Kids[1], keys)...)
}

// binWithKey says in other words what a coloured tree becomes by a key, but for its own colour.
func binWithKey(b impl.Bin, key int) impl.Bin {
	switch {
	case len(b.Kids) == 0:
		return redBin(nothing, key, nothing)
	case key < b.Key:
		return mendedBin(impl.Bin{Key: b.Key, Red: b.Red, Kids: []impl.Bin{binWithKey(b.Kids[0], key), b.Kids[1]}})
	}
	return mendedBin(impl.Bin{Key: b.Key, Red: b.Red, Kids: []impl.Bin{b.Kids[0], binWithKey(b.Kids[1], key)}})
}

// checkKeyPut checks what a valid coloured tree becomes by a number: one with a key more, or none if it has it or it is no key. It returns what it becomes.
func checkKeyPut(t *testing.T, b impl.Bin, key int) impl.Bin {
	t.Helper()
	before := keysOfBin(b)
	at, has := slices.BinarySearch(before, key)
	if has || key < 0 || key > 99 {
		checkNoKeyPut(t, b, key)
		return b
	}
	want := binWithKey(b, key)
	want.Red = false
	got, ok := impl.InsertBin(b, key)
	if !ok || !sameBin(got, want) {
		t.Errorf("InsertBin(%s, %d) = %s, %v, not %s", impl.FormatBin(b), key, impl.FormatBin(got), ok, textOfBin(want))
	}
	if !impl.BinValid(got) || blacksByRules(got) < 0 || !slices.Equal(impl.BinKeys(got), slices.Insert(before, at, key)) {
		t.Errorf("InsertBin(%s, %d) = %s, which is no such tree", impl.FormatBin(b), key, impl.FormatBin(got))
	}
	return got
}

func TestInsertingIntoColouredTreesOfFewBlackNodes(t *testing.T) {
	for _, b := range binsOfFewBlacks() {
		for key := -1; key <= 2*len(impl.BinKeys(b))+1; key++ {
			checkKeyPut(t, b, key)
		}
	}
}

func TestInsertingIntoColouredTreesOfThreeBlackNodes(t *testing.T) {
	_, below := evenBins(2)
	seen := 0
	for i := 0; i < len(below); i += 9973 {
		for j := 0; j < len(below); j += 6007 {
			b := keyedBin(blackBin(below[(i+j)%len(below)], 0, below[j]), odd)
			if len(impl.BinKeys(b)) > 49 {
				continue
			}
			seen++
			checkBin(t, b)
			for key := 0; key <= 2*len(impl.BinKeys(b)); key += 2 {
				checkKeyPut(t, b, key)
			}
		}
	}
	if seen < 200 {
		t.Errorf("only %d trees", seen)
	}
}

func TestInsertingAllOrdersOfKeys(t *testing.T) {
	texts := map[string]bool{}
	var try func(b impl.Bin, left []int)
	try = func(b impl.Bin, left []int) {
		texts[impl.FormatBin(b)] = true
		for i, key := range left {
			try(checkKeyPut(t, b, key), slices.Delete(slices.Clone(left), i, i+1))
		}
	}
	try(nothing, from(0, 7))
	if len(texts) < 200 {
		t.Errorf("only %d trees", len(texts))
	}
}

func TestInsertingListsIntoColouredTrees(t *testing.T) {
	for _, keys := range someLists() {
		b := nothing
		for i, key := range keys {
			c := checkKeyPut(t, b, key)
			if i%20 == 19 {
				for _, other := range numbers() {
					checkKeyPut(t, c, other)
				}
			}
			b = c
		}
		checkBin(t, b)
		distinct, _ := impl.SortKeys(keys)
		if !slices.Equal(impl.BinKeys(b), distinct) || impl.BinDepth(b) > 2*impl.BlackDepth(b) {
			t.Errorf("%v lead to %s", keys, impl.FormatBin(b))
		}
	}
}

func TestInsertingIntoColouredTreesByHand(t *testing.T) {
	for _, c := range []struct {
		bin  string
		key  int
		want string
	}{
		{"-", 0, "[- 0 -]"},
		{"-", 99, "[- 99 -]"},
		{"[- 5 -]", 3, "[<- 3 -> 5 -]"},
		{"[- 5 -]", 7, "[- 5 <- 7 ->]"},
		{"[<- 3 -> 5 -]", 7, "[<- 3 -> 5 <- 7 ->]"},
		{"[- 3 <- 5 ->]", 1, "[<- 1 -> 3 <- 5 ->]"},
		{"[<- 3 -> 5 -]", 1, "[[- 1 -] 3 [- 5 -]]"},
		{"[<- 3 -> 5 -]", 4, "[[- 3 -] 4 [- 5 -]]"},
		{"[- 3 <- 5 ->]", 4, "[[- 3 -] 4 [- 5 -]]"},
		{"[- 3 <- 5 ->]", 9, "[[- 3 -] 5 [- 9 -]]"},
		{"[<- 1 -> 3 <- 5 ->]", 0, "[[- 0 -] 1 [- 3 <- 5 ->]]"},
		{"[<- 1 -> 3 <- 5 ->]", 2, "[[- 1 -] 2 [- 3 <- 5 ->]]"},
		{"[<- 1 -> 3 <- 5 ->]", 4, "[[<- 1 -> 3 -] 4 [- 5 -]]"},
		{"[<- 1 -> 3 <- 5 ->]", 6, "[[<- 1 -> 3 -] 5 [- 6 -]]"},
		{"[[<- 1 -> 2 -] 3 [- 4 -]]", 0, "[<[- 0 -] 1 [- 2 -]> 3 [- 4 -]]"},
		{"[[- 1 -] 2 [- 3 <- 4 ->]]", 5, "[[- 1 -] 2 <[- 3 -] 4 [- 5 -]>]"},
		{"[[- 1 -] 2 <[- 3 -] 4 [- 5 -]>]", 6, "[[- 1 -] 2 <[- 3 -] 4 [- 5 <- 6 ->]>]"},
		{"[[- 1 -] 2 <[- 3 -] 4 [- 5 <- 6 ->]>]", 7, "[[[- 1 -] 2 [- 3 -]] 4 [[- 5 -] 6 [- 7 -]]]"},
		{"[[- 1 -] 2 <[- 3 <- 4 ->] 6 [- 7 -]>]", 5, "[[[- 1 -] 2 [- 3 -]] 4 [[- 5 -] 6 [- 7 -]]]"},
		{"[<[- 1 -] 3 [- 4 <- 5 ->]> 7 [- 8 -]]", 6, "[[[- 1 -] 3 [- 4 -]] 5 [[- 6 -] 7 [- 8 -]]]"},
		{"[<[<- 1 -> 2 -] 3 [- 4 -]> 5 [- 6 -]]", 0, "[[[- 0 -] 1 [- 2 -]] 3 [[- 4 -] 5 [- 6 -]]]"},
		{"[<[- 1 -] 2 [- 3 -]> 4 <[- 5 -] 6 [- 7 <- 8 ->]>]", 9, "[[<[- 1 -] 2 [- 3 -]> 4 [- 5 -]] 6 [[- 7 -] 8 [- 9 -]]]"},
	} {
		b := parsedBin(t, c.bin)
		if got, ok := impl.InsertBin(b, c.key); !ok || impl.FormatBin(got) != c.want {
			t.Errorf("InsertBin(%s, %d) = %s, %v", c.bin, c.key, impl.FormatBin(got), ok)
		}
		checkKeyPut(t, b, c.key)
	}
}

func TestColouredTreesThatBecomeBlackAgain(t *testing.T) {
	for _, downward := range []bool{false, true} {
		keys, grew := from(0, 100), []int{}
		if downward {
			slices.Reverse(keys)
		}
		b := nothing
		for i, key := range keys {
			c := checkKeyPut(t, b, key)
			if c.Red {
				t.Errorf("%s is red", impl.FormatBin(c))
			}
			if impl.BlackDepth(c) > impl.BlackDepth(b) {
				grew = append(grew, i+1)
			}
			b = c
		}
		if !slices.Equal(grew, []int{1, 3, 7, 15, 31, 63}) {
			t.Errorf("there is one black node more on each way with %v keys", grew)
		}
	}
}

func TestKeysThatAreNotPut(t *testing.T) {
	bins := []impl.Bin{nothing, blackBin(nothing, 5, nothing), parsedBin(t, "[[- 0 -] 2 <[- 3 -] 4 [- 5 <- 99 ->]>]")}
	for _, b := range append(bins, grownBins(t)...) {
		for _, key := range append(slices.Clone(noKeys), impl.BinKeys(b)...) {
			checkNoKeyPut(t, b, key)
		}
	}
}

// endlessBins returns coloured trees whose Kids hold themselves in such a way that one comes there by all of their kids.
func endlessBins() []impl.Bin {
	var all []impl.Bin
	for _, isRed := range []bool{false, true} {
		for at := range 2 {
			b := impl.Bin{Key: 5, Red: isRed, Kids: make([]impl.Bin, 2)}
			b.Kids[at] = b
			c := blackBin(nothing, 1, nothing)
			c.Kids[at] = redBin(c, 2, nothing)
			d := blackBin(nothing, 1, nothing)
			d.Kids[at] = blackBin(d, 2, d)
			all = append(all, b, c, d, blackBin(fullBin(3), 50, b), redBin(c, 50, fullBin(2)), blackBin(d, 7, d))
		}
		b := impl.Bin{Red: isRed, Kids: make([]impl.Bin, 2)}
		b.Kids[0], b.Kids[1] = b, b
		all = append(all, b)
	}
	for round := 1; round <= 20; round++ {
		last := blackBin(nothing, 1, nothing)
		b := last
		for i := range round {
			b = impl.Bin{Key: i, Red: i%2 == 0, Kids: []impl.Bin{nothing, b}}
		}
		last.Kids[1] = b
		all = append(all, b)
	}
	return all
}

func TestColouredTreesThatHoldThemselves(t *testing.T) {
	for i, b := range endlessBins() {
		if impl.FormatBin(b) != "" || len(impl.BinKeys(b)) != 0 || impl.BinDepth(b) != 0 || impl.BinValid(b) || impl.BlackDepth(b) != -1 {
			t.Errorf("%d is told", i)
		}
		checkNothingMade(t, b)
	}
}

func TestColouredTreesThatHoldThemselvesWhereTheyArePassedOver(t *testing.T) {
	endless := blackBin(nothing, 1, nothing)
	endless.Kids[0] = endless
	single := impl.Bin{Key: 8, Kids: make([]impl.Bin, 1)}
	single.Kids[0] = single
	many := impl.Bin{Key: 9, Kids: make([]impl.Bin, 4)}
	many.Kids[3] = many
	for _, c := range []struct {
		b    impl.Bin
		text string
		keys []int
	}{
		{impl.Bin{Key: 7, Kids: []impl.Bin{fullBin(1), nothing, endless}}, "-", []int{0, 7}},
		{blackBin(fullBin(1), 4, impl.Bin{Key: 7, Kids: []impl.Bin{fullBin(1), nothing, endless}}), "[[- 0 -] 4 -]", []int{0, 4, 0, 7}},
		{impl.Bin{Key: 7, Kids: []impl.Bin{endless}}, "-", nil},
		{single, "-", nil},
		{redBin(single, 3, blackBin(nothing, 4, nothing)), "<- 3 [- 4 -]>", nil},
		{many, "-", []int{9}},
		{blackBin(many, 3, many), "[- 3 -]", []int{9, 3, 9}},
	} {
		if impl.FormatBin(c.b) != c.text || !slices.Equal(impl.BinKeys(c.b), c.keys) || impl.BinDepth(c.b) != 0 {
			t.Errorf("it has the text %q, the keys %v and %d nodes within each other, not the text %q", impl.FormatBin(c.b), impl.BinKeys(c.b), impl.BinDepth(c.b), c.text)
		}
		if impl.BinValid(c.b) || impl.BlackDepth(c.b) != -1 {
			t.Errorf("%q is valid", c.text)
		}
		checkNothingMade(t, c.b)
	}
}

func TestDeepColouredTrees(t *testing.T) {
	const depth = 200000
	one, first, second, third := nothing, nothing, nothing, nothing
	for range depth {
		one = impl.Bin{Key: 3, Kids: []impl.Bin{one}}
		first = blackBin(first, 5, nothing)
		second = redBin(nothing, 7, second)
		third = impl.Bin{Key: 9, Kids: []impl.Bin{nothing, nothing, third}}
	}
	for _, c := range []struct {
		b         impl.Bin
		text      string
		key, keys int
	}{
		{one, "-", 3, depth},
		{first, strings.Repeat("[", depth) + "-" + strings.Repeat(" 5 -]", depth), 5, depth},
		{second, strings.Repeat("<- 7 ", depth) + "-" + strings.Repeat(">", depth), 7, depth},
		{third, "-", 9, 1},
	} {
		keys := impl.BinKeys(c.b)
		if len(keys) != c.keys || slices.ContainsFunc(keys, func(key int) bool { return key != c.key }) {
			t.Errorf("%d: %d keys", c.key, len(keys))
		}
		if impl.FormatBin(c.b) != c.text || impl.BinDepth(c.b) != depth || impl.BinValid(c.b) || impl.BlackDepth(c.b) != -1 {
			t.Errorf("%d: a text of %d bytes, and %d nodes within each other", c.key, len(impl.FormatBin(c.b)), impl.BinDepth(c.b))
		}
		checkNothingMade(t, c.b)
	}
}

func TestColouredTreesWithSharedKids(t *testing.T) {
	b, far := fullBin(1), fullBin(1)
	for range 4 {
		b = blackBin(b, 3, b)
		checkBin(t, b)
	}
	for range 60 {
		far = blackBin(far, 3, far)
	}
	if impl.BinDepth(far) != 61 || impl.BinValid(far) || impl.BlackDepth(far) != -1 {
		t.Errorf("%d nodes lie within each other", impl.BinDepth(far))
	}
	checkNothingMade(t, far)
}

// roomyBin returns a copy of a coloured tree whose slices have room, with other values there.
func roomyBin(b impl.Bin) impl.Bin {
	c := impl.Bin{Key: b.Key, Red: b.Red}
	for _, kid := range b.Kids {
		c.Kids = append(c.Kids, roomyBin(kid))
	}
	c.Kids = append(c.Kids, redBin(nothing, 74, nothing), impl.Bin{Key: 75})[:len(b.Kids)]
	return c
}

// binWithRoom returns a copy of a coloured tree with what lies beyond the length of its slices.
func binWithRoom(b impl.Bin) impl.Bin {
	c := impl.Bin{Key: b.Key, Red: b.Red}
	for _, kid := range b.Kids[:cap(b.Kids)] {
		c.Kids = append(c.Kids, binWithRoom(kid))
	}
	return c
}

// checkOwnBin checks that a function returns coloured trees that share no memory with each other, nor slices with others in them.
func checkOwnBin(t *testing.T, of func() (impl.Bin, bool)) {
	t.Helper()
	b, _ := of()
	c, _ := of()
	text := textOfBin(b)
	for _, part := range partsOfBin(&b) {
		for i := len(part.Kids); i < cap(part.Kids); i++ {
			part.Kids[:cap(part.Kids)][i] = redBin(nothing, 77, nothing)
		}
	}
	if got := textOfBin(b); got != text {
		t.Errorf("with other values beyond its slices %s is %s", text, got)
	}
	for _, part := range partsOfBin(&b) {
		clear(part.Kids)
	}
	d, _ := of()
	if textOfBin(c) != text || textOfBin(d) != text {
		t.Errorf("another result, %s, has become %s, and a third one is %s", text, textOfBin(c), textOfBin(d))
	}
}

func TestColouredTreesShareNoMemory(t *testing.T) {
	for _, c := range []string{"-", "[<- 3 -> 5 -]", "[- 3 <- 5 ->]", "[[- 1 -] 2 <[- 3 -] 4 [- 5 <- 7 ->]>]", "[<[<- 1 -> 2 -] 3 [- 4 -]> 5 [- 7 -]]", "[[[- 1 -] 2 [- 3 -]] 4 [[- 5 -] 7 [- 8 -]]]"} {
		b := roomyBin(parsedBin(t, c))
		before := binWithRoom(b)
		checkOwnBin(t, func() (impl.Bin, bool) { return impl.ParseBin(c) })
		for _, key := range []int{0, 2, 6, 9} {
			checkOwnBin(t, func() (impl.Bin, bool) { return impl.InsertBin(b, key) })
		}
		checkOwnMemory(t, func() impl.Tree { x, _ := impl.FromColours(b); return x })
		x, _ := impl.FromColours(b)
		y := roomy(x)
		checkOwnBin(t, func() (impl.Bin, bool) { return impl.ToColours(y) })
		if !reflect.DeepEqual(withRoom(y), withRoom(roomy(x))) {
			t.Errorf("%s has changed", impl.FormatTree(x))
		}
		usedUp(impl.BinKeys(b))
		checkBin(t, b)
		if !reflect.DeepEqual(binWithRoom(b), before) {
			t.Errorf("%s has changed", c)
		}
	}
}

func TestColouredTreesOfManyCallsAtOnce(t *testing.T) {
	b := binOfTree(grown(3, steady(3, 1), odd))
	x := grown(3, steady(2, 3), plain)
	var group sync.WaitGroup
	for range 20 {
		group.Go(func() {
			for key := range 20 {
				checkKeyPut(t, b, key)
			}
			checkColours(t, x)
			checkBin(t, b)
		})
	}
	group.Wait()
}
