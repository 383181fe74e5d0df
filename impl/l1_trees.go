package impl

import (
	"iter"
	"slices"
	"strconv"
)

// Limits of trees.
const (
	MinWide = 2
	MaxWide = 6
	MaxKey  = 99
	MaxText = 2000
)

// deepest is how deep a valid tree can be. Each inner node has two kids at
// least, so that one level more takes 127 keys, and there are only 100.
const deepest = 6

// What one comes by on the way through a tree.
const (
	nodeBegins = iota
	keyStands
	nodeEnds
)

// misfit is what a reader panics with.
const misfit = "the text of no tree"

// A Tree has keys and, if it is no leaf, one kid more.
type Tree struct {
	Keys []int
	Kids []Tree
}

// TreeValid reports whether a tree is valid, with so many keys in a node at most.
func TreeValid(t Tree, wide int) bool {
	if !isWide(wide) {
		return false
	}
	least := min(len(t.Kids), 1)
	return evenDepth(&t, least, wide, deepest) > 0 && ascend(plant(t).inOrder)
}

// FormatTree returns the text of a tree.
func FormatTree(t Tree) string {
	var text []byte
	for s := range t.steps {
		if s.what == nodeEnds {
			text = append(text, ')')
			continue
		}
		if last := len(text) - 1; last >= 0 && text[last] != '(' {
			text = append(text, ' ')
		}
		if s.what == nodeBegins {
			text = append(text, '(')
		} else {
			text = strconv.AppendInt(text, int64(s.key), 10)
		}
	}
	return string(text)
}

// ParseTree parses the text of a tree.
func ParseTree(text string) (Tree, bool) {
	var root *node
	if len(text) > MaxText || !fits(text, func(r *reader) { root = r.node() }) {
		return Tree{}, false
	}
	return root.tree(), true
}

// KeysOf returns all keys of a tree, in order.
func KeysOf(t Tree) []int {
	var keys []int
	for s := range t.steps {
		if s.what == keyStands {
			keys = append(keys, s.key)
		}
	}
	return keys
}

// DepthOf returns how many nodes lie within each other.
func DepthOf(t Tree) int {
	return nesting(&t, kidsOf)
}

// CountNodes returns how many nodes a tree has.
func CountNodes(t Tree) int {
	count := 0
	for s := range t.steps {
		if s.what == nodeBegins {
			count++
		}
	}
	return count
}

// SameTree reports whether two trees are the same.
func SameTree(a Tree, b Tree) bool {
	if nesting(&a, kidsOf) == 0 {
		return false
	}
	left := []pair{{&a, &b}}
	for len(left) > 0 {
		next := left[len(left)-1]
		left = left[:len(left)-1]
		if !slices.Equal(next.a.Keys, next.b.Keys) || len(next.a.Kids) != len(next.b.Kids) {
			return false
		}
		for i := range next.a.Kids {
			left = append(left, pair{&next.a.Kids[i], &next.b.Kids[i]})
		}
	}
	return true
}

// LevelOf returns the keys of all nodes at a depth.
func LevelOf(t Tree, depth int) []int {
	var level []int
	for at, n := range t.byLevel {
		if at > depth {
			break
		}
		if at == depth {
			level = append(level, n.Keys...)
		}
	}
	return level
}

// FullNodes returns how many nodes have as many keys as they may have.
func FullNodes(t Tree, wide int) int {
	full := 0
	for s := range t.steps {
		if s.what == nodeBegins && len(s.Keys) == wide {
			full++
		}
	}
	return full
}

// isWide reports whether a number is a width.
func isWide(wide int) bool {
	return MinWide <= wide && wide <= MaxWide
}

// isKey reports whether a number is a key.
func isKey(key int) bool {
	return 0 <= key && key <= MaxKey
}

// evenDepth returns how deep a tree is if each of its nodes has neither too
// few nor too many Keys, and Kids to match, and all leaves lie at the same
// depth; 0 if not, or if the tree is deeper than limit. It goes no deeper, so
// that it ends for a tree whose Kids hold themselves.
func evenDepth(t *Tree, least int, wide int, limit int) int {
	keys, kids := len(t.Keys), len(t.Kids)
	if limit == 0 || keys < least || keys > wide {
		return 0
	}
	if kids == 0 {
		return 1
	}
	if kids != keys+1 {
		return 0
	}
	depth := 0
	for i := range t.Kids {
		below := evenDepth(&t.Kids[i], wide/2, wide, limit-1)
		if below == 0 || i > 0 && below != depth {
			return 0
		}
		depth = below
	}
	return depth + 1
}

// A pair is two nodes that stand at the same place of two trees.
type pair struct {
	a, b *Tree
}

// A step is what one comes by on the way through a tree, the node, and the key
// if it is one.
type step struct {
	*Tree
	what int
	key  int
}

// A spot is a node on the way down to where one stands, and how many of its kids
// lie behind.
type spot[T any] struct {
	node   *T
	passed int
}

// nesting returns how many nodes lie within each other at most, or 0 for a tree
// whose Kids hold themselves: it has no end, and so no text and no depth. It goes
// but once through Kids that several nodes share. The way down is a slice, as Go
// ends the whole program if calls lie too deep within each other, and nothing
// recovers from it.
func nesting[T any](root *T, kidsOf func(*T) []T) int {
	depths := map[*T]int{root: 0}
	way := []spot[T]{{node: root}}
	for len(way) > 0 {
		last := &way[len(way)-1]
		kids := kidsOf(last.node)
		if last.passed == len(kids) {
			below := 0
			for i := range kids {
				below = max(below, depths[&kids[i]])
			}
			depths[last.node] = below + 1
			way = way[:len(way)-1]
			continue
		}
		kid := &kids[last.passed]
		last.passed++
		depth, isKnown := depths[kid]
		if isKnown && depth == 0 {
			return 0
		}
		if !isKnown {
			depths[kid] = 0
			way = append(way, spot[T]{node: kid})
		}
	}
	return depths[root]
}

// turns yields each node of a tree as often as one stands at it on the way
// through, and how many of its kids lie behind then: first none, and in the end
// all. It yields nothing if the tree has no end.
func turns[T any](root *T, kidsOf func(*T) []T) iter.Seq2[*T, int] {
	return func(yield func(*T, int) bool) {
		if nesting(root, kidsOf) == 0 {
			return
		}
		way := []spot[T]{{node: root}}
		for len(way) > 0 {
			last := &way[len(way)-1]
			n, passed := last.node, last.passed
			if !yield(n, passed) {
				return
			}
			last.passed++
			if kids := kidsOf(n); passed < len(kids) {
				way = append(way, spot[T]{node: &kids[passed]})
			} else {
				way = way[:len(way)-1]
			}
		}
	}
}

// kidsOf returns the kids of a tree.
func kidsOf(t *Tree) []Tree {
	return t.Kids
}

// steps yields what one comes by if one goes through a tree in order; nothing
// if it has no end.
func (t *Tree) steps(yield func(step) bool) {
	for n, passed := range turns(t, kidsOf) {
		if passed == 0 && !yield(step{n, nodeBegins, 0}) {
			return
		}
		for _, key := range n.keysBehind(passed) {
			if !yield(step{n, keyStands, key}) {
				return
			}
		}
		if passed == len(n.Kids) && !yield(step{n, nodeEnds, 0}) {
			return
		}
	}
}

// keysBehind returns the Keys that stand between as many kids of a tree and the
// next one: one or none, but all that are left if there is no next one.
func (t *Tree) keysBehind(passed int) []int {
	start, end := min(max(passed-1, 0), len(t.Keys)), min(passed, len(t.Keys))
	if passed == len(t.Kids) {
		end = len(t.Keys)
	}
	return t.Keys[start:end:end]
}

// byLevel yields all nodes and their depths, from the tree itself on, level by
// level; none if it has no end. Each queue has room for a whole level, so that
// no send has to wait.
func (t *Tree) byLevel(yield func(int, *Tree) bool) {
	if nesting(t, kidsOf) == 0 {
		return
	}
	level, below := make(chan *Tree, 1), len(t.Kids)
	level <- t
	for depth := 1; len(level) > 0; depth++ {
		next := make(chan *Tree, below)
		below = 0
		for range len(level) {
			n := <-level
			if !yield(depth, n) {
				return
			}
			for i := range n.Kids {
				next <- &n.Kids[i]
				below += len(n.Kids[i].Kids)
			}
		}
		level = next
	}
}

// A row is the keys of one node.
type row struct {
	keys []int
}

// A node is a copy of a tree, with which it shares no memory.
type node struct {
	row
	kids []*node
}

// plant returns the node that is a copy of a tree, which must not be too deep
// for calls within each other.
func plant(t Tree) *node {
	n := &node{row: row{keys: slices.Clone(t.Keys)}}
	for _, kid := range t.Kids {
		n.kids = append(n.kids, plant(kid))
	}
	return n
}

// tree returns the tree that is a copy of a node.
func (n *node) tree() Tree {
	t := Tree{Keys: slices.Clone(n.keys)}
	for _, kid := range n.kids {
		t.Kids = append(t.Kids, kid.tree())
	}
	return t
}

// parts yields the kids and keys of a node by turns, as far as there are some:
// either a kid, or nil and a key.
func (n *node) parts(yield func(*node, int) bool) {
	for i := range max(len(n.kids), len(n.keys)) {
		if i < len(n.kids) && !yield(n.kids[i], 0) {
			return
		}
		if i < len(n.keys) && !yield(nil, n.keys[i]) {
			return
		}
	}
}

// inOrder yields all keys in order.
func (n *node) inOrder(yield func(int) bool) {
	n.yieldKeys(yield)
}

// yieldKeys yields all keys in order, and reports whether it got to the end.
func (n *node) yieldKeys(yield func(int) bool) bool {
	for kid, key := range n.parts {
		if kid != nil && !kid.yieldKeys(yield) {
			return false
		}
		if kid == nil && !yield(key) {
			return false
		}
	}
	return true
}

// ascend reports whether numbers are keys, and ascend.
func ascend(numbers iter.Seq[int]) bool {
	last := -1
	for number := range numbers {
		if number <= last || !isKey(number) {
			return false
		}
		last = number
	}
	return true
}

// A reader stands at a place of a text and panics where nothing fits.
type reader struct {
	text string
	at   int
}

// fits reports whether a function can read a text, and nothing is left then.
func fits(text string, read func(*reader)) (ok bool) {
	defer func() {
		if recover() != nil {
			ok = false
		}
	}()
	r := &reader{text: text}
	read(r)
	r.end()
	return true
}

// sees reports whether a byte is the next one.
func (r *reader) sees(c byte) bool {
	return r.at < len(r.text) && r.text[r.at] == c
}

// take goes past a byte that has to be the next one.
func (r *reader) take(c byte) {
	if !r.sees(c) {
		panic(misfit)
	}
	r.at++
}

// end makes sure that nothing is left.
func (r *reader) end() {
	if r.at < len(r.text) {
		panic(misfit)
	}
}

// key reads a key. Its text has to be that which the key is written as.
func (r *reader) key() int {
	start := r.at
	for r.at < len(r.text) && '0' <= r.text[r.at] && r.text[r.at] <= '9' {
		r.at++
	}
	digits := r.text[start:r.at]
	key, err := strconv.Atoi(digits)
	if err != nil || !isKey(key) || strconv.Itoa(key) != digits {
		panic(misfit)
	}
	return key
}

// node reads a node: a leaf if it does not start with a kid.
func (r *reader) node() *node {
	n := &node{}
	r.take('(')
	if r.sees('(') {
		r.kidsOf(n)
	} else if !r.sees(')') {
		r.keysOf(n)
	}
	r.take(')')
	return n
}

// kidsOf reads the kids of a node and the keys between them.
func (r *reader) kidsOf(n *node) {
	n.kids = append(n.kids, r.node())
	for r.sees(' ') {
		r.take(' ')
		n.keys = append(n.keys, r.key())
		r.take(' ')
		n.kids = append(n.kids, r.node())
	}
}

// keysOf reads the keys of a leaf.
func (r *reader) keysOf(n *node) {
	n.keys = append(n.keys, r.key())
	for r.sees(' ') {
		r.take(' ')
		n.keys = append(n.keys, r.key())
	}
}
