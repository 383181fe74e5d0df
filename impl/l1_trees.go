package impl

import (
	"slices"
	"strconv"
)

// Limits of trees.
const (
	MinWide = 2
	MaxWide = 6
	MaxKey  = 99
	MaxText = 2000
)

// deepest is how deep a valid tree can be. Each inner node has two kids at
// least, so that one level more takes 127 keys, and there are only 100.
const deepest = 6

// What one comes by on the way through a tree.
const (
	nodeBegins = iota
	keyStands
	nodeEnds
)

// misfit is what a reader panics with.
const misfit = "the text of no tree"

// A Tree has keys and, if it is no leaf, one kid more.
type Tree struct {
	Keys []int
	Kids []Tree
}

// TreeValid reports whether a tree is valid, with so many keys in a node at most.
func TreeValid(t Tree, wide int) bool {
	if !isWide(wide) {
		return false
	}
	least := min(len(t.Kids), 1)
	return evenDepth(&t, least, wide, deepest) > 0 && plant(t).ascends()
}

// FormatTree returns the text of a tree.
func FormatTree(t Tree) string {
	var text []byte
	for s := range t.steps {
		if s.what == nodeEnds {
			text = append(text, ')')
			continue
		}
		if last := len(text) - 1; last >= 0 && text[last] != '(' {
			text = append(text, ' ')
		}
		if s.what == nodeBegins {
			text = append(text, '(')
		} else {
			text = strconv.AppendInt(text, int64(s.key), 10)
		}
	}
	return string(text)
}

// ParseTree parses the text of a tree.
func ParseTree(text string) (Tree, bool) {
	var root *node
	if len(text) > MaxText || !fits(text, func(r *reader) { root = r.node() }) {
		return Tree{}, false
	}
	return root.tree(), true
}

// KeysOf returns all keys of a tree, in order.
func KeysOf(t Tree) []int {
	var keys []int
	for s := range t.steps {
		if s.what == keyStands {
			keys = append(keys, s.key)
		}
	}
	return keys
}

// DepthOf returns how many nodes lie within each other.
func DepthOf(t Tree) int {
	depth, deep := 0, 0
	for s := range t.steps {
		switch s.what {
		case nodeBegins:
			depth++
			deep = max(deep, depth)
		case nodeEnds:
			depth--
		}
	}
	return deep
}

// CountNodes returns how many nodes a tree has.
func CountNodes(t Tree) int {
	count := 0
	for s := range t.steps {
		if s.what == nodeBegins {
			count++
		}
	}
	return count
}

// SameTree reports whether two trees are the same.
func SameTree(a Tree, b Tree) bool {
	if !a.hasEnd() {
		return false
	}
	left := []pair{{&a, &b}}
	for len(left) > 0 {
		next := left[len(left)-1]
		left = left[:len(left)-1]
		if !slices.Equal(next.a.Keys, next.b.Keys) || len(next.a.Kids) != len(next.b.Kids) {
			return false
		}
		for i := range next.a.Kids {
			left = append(left, pair{&next.a.Kids[i], &next.b.Kids[i]})
		}
	}
	return true
}

// LevelOf returns the keys of all nodes at a depth.
func LevelOf(t Tree, depth int) []int {
	var level []int
	for at, n := range t.byLevel {
		if at > depth {
			break
		}
		if at == depth {
			level = append(level, n.Keys...)
		}
	}
	return level
}

// FullNodes returns how many nodes have as many keys as they may have.
func FullNodes(t Tree, wide int) int {
	full := 0
	for s := range t.steps {
		if s.what == nodeBegins && len(s.Keys) == wide {
			full++
		}
	}
	return full
}

// isWide reports whether a number is a width.
func isWide(wide int) bool {
	return MinWide <= wide && wide <= MaxWide
}

// isKey reports whether a number is a key.
func isKey(key int) bool {
	return 0 <= key && key <= MaxKey
}

// evenDepth returns how deep a tree is if each of its nodes has neither too
// few nor too many Keys, and Kids to match, and all leaves lie at the same
// depth; 0 if not, or if the tree is deeper than limit. It goes no deeper, so
// that it ends for a tree whose Kids hold themselves.
func evenDepth(t *Tree, least int, wide int, limit int) int {
	keys, kids := len(t.Keys), len(t.Kids)
	if limit == 0 || keys < least || keys > wide {
		return 0
	}
	if kids == 0 {
		return 1
	}
	if kids != keys+1 {
		return 0
	}
	depth := 0
	for i := range t.Kids {
		below := evenDepth(&t.Kids[i], wide/2, wide, limit-1)
		if below == 0 || i > 0 && below != depth {
			return 0
		}
		depth = below
	}
	return depth + 1
}

// A pair is two nodes that stand at the same place of two trees.
type pair struct {
	a, b *Tree
}

// A spot is a node on the way down to where one stands, and how many of its
// parts lie behind: of its kids, or of its kids and keys by turns.
type spot struct {
	*Tree
	passed int
}

// A step is what one comes by on the way through a tree, the node, and the key
// if it is one.
type step struct {
	*Tree
	what int
	key  int
}

// hasEnd reports whether a tree is none whose Kids hold themselves: such a tree
// has no text and no depth. It goes but once through Kids that several nodes
// share. The way down is a slice, as Go ends the whole program if calls lie too
// deep within each other, and nothing recovers from it.
func (t *Tree) hasEnd() bool {
	isBehind := map[*Tree]bool{}
	way := []spot{{Tree: t}}
	for len(way) > 0 {
		last := &way[len(way)-1]
		if last.passed == len(last.Kids) {
			isBehind[last.Tree] = true
			way = way[:len(way)-1]
			continue
		}
		kid := &last.Kids[last.passed]
		last.passed++
		behind, isKnown := isBehind[kid]
		if isKnown && !behind {
			return false
		}
		if !isKnown {
			isBehind[kid] = false
			way = append(way, spot{Tree: kid})
		}
	}
	return true
}

// steps yields what one comes by if one goes through a tree in order; nothing
// if it has no end.
func (t *Tree) steps(yield func(step) bool) {
	if !t.hasEnd() || !yield(step{t, nodeBegins, 0}) {
		return
	}
	way := []spot{{Tree: t}}
	for len(way) > 0 {
		last := &way[len(way)-1]
		n, i, isKey := last.Tree, last.passed/2, last.passed%2 == 1
		last.passed++
		goOn := true
		switch {
		case i >= max(len(n.Kids), len(n.Keys)):
			goOn = yield(step{n, nodeEnds, 0})
			way = way[:len(way)-1]
		case isKey && i < len(n.Keys):
			goOn = yield(step{n, keyStands, n.Keys[i]})
		case !isKey && i < len(n.Kids):
			goOn = yield(step{&n.Kids[i], nodeBegins, 0})
			way = append(way, spot{Tree: &n.Kids[i]})
		}
		if !goOn {
			return
		}
	}
}

// byLevel yields all nodes and their depths, from the tree itself on, level by
// level; none if it has no end. Each queue has room for a whole level, so that
// no send has to wait.
func (t *Tree) byLevel(yield func(int, *Tree) bool) {
	if !t.hasEnd() {
		return
	}
	level, below := make(chan *Tree, 1), len(t.Kids)
	level <- t
	for depth := 1; len(level) > 0; depth++ {
		next := make(chan *Tree, below)
		below = 0
		for range len(level) {
			n := <-level
			if !yield(depth, n) {
				return
			}
			for i := range n.Kids {
				next <- &n.Kids[i]
				below += len(n.Kids[i].Kids)
			}
		}
		level = next
	}
}

// A row is the keys of one node.
type row struct {
	keys []int
}

// A node is a copy of a tree, with which it shares no memory.
type node struct {
	row
	kids []*node
}

// plant returns the node that is a copy of a tree, which must not be too deep
// for calls within each other.
func plant(t Tree) *node {
	n := &node{row: row{keys: slices.Clone(t.Keys)}}
	for _, kid := range t.Kids {
		n.kids = append(n.kids, plant(kid))
	}
	return n
}

// tree returns the tree that is a copy of a node.
func (n *node) tree() Tree {
	t := Tree{Keys: slices.Clone(n.keys)}
	for _, kid := range n.kids {
		t.Kids = append(t.Kids, kid.tree())
	}
	return t
}

// parts yields the kids and keys of a node by turns, as far as there are some:
// either a kid, or nil and a key.
func (n *node) parts(yield func(*node, int) bool) {
	for i := range max(len(n.kids), len(n.keys)) {
		if i < len(n.kids) && !yield(n.kids[i], 0) {
			return
		}
		if i < len(n.keys) && !yield(nil, n.keys[i]) {
			return
		}
	}
}

// inOrder yields all keys in order.
func (n *node) inOrder(yield func(int) bool) {
	n.yieldKeys(yield)
}

// yieldKeys yields all keys in order, and reports whether it got to the end.
func (n *node) yieldKeys(yield func(int) bool) bool {
	for kid, key := range n.parts {
		if kid != nil && !kid.yieldKeys(yield) {
			return false
		}
		if kid == nil && !yield(key) {
			return false
		}
	}
	return true
}

// ascends reports whether the keys in order are keys, and ascend.
func (n *node) ascends() bool {
	last := -1
	for key := range n.inOrder {
		if key <= last || !isKey(key) {
			return false
		}
		last = key
	}
	return true
}

// A reader stands at a place of a text and panics where nothing fits.
type reader struct {
	text string
	at   int
}

// fits reports whether a function can read a text, and nothing is left then.
func fits(text string, read func(*reader)) (ok bool) {
	defer func() {
		if recover() != nil {
			ok = false
		}
	}()
	r := &reader{text: text}
	read(r)
	r.end()
	return true
}

// sees reports whether a byte is the next one.
func (r *reader) sees(c byte) bool {
	return r.at < len(r.text) && r.text[r.at] == c
}

// take goes past a byte that has to be the next one.
func (r *reader) take(c byte) {
	if !r.sees(c) {
		panic(misfit)
	}
	r.at++
}

// end makes sure that nothing is left.
func (r *reader) end() {
	if r.at < len(r.text) {
		panic(misfit)
	}
}

// key reads a key. Its text has to be that which the key is written as.
func (r *reader) key() int {
	start := r.at
	for r.at < len(r.text) && '0' <= r.text[r.at] && r.text[r.at] <= '9' {
		r.at++
	}
	digits := r.text[start:r.at]
	key, err := strconv.Atoi(digits)
	if err != nil || !isKey(key) || strconv.Itoa(key) != digits {
		panic(misfit)
	}
	return key
}

// node reads a node: a leaf if it does not start with a kid.
func (r *reader) node() *node {
	n := &node{}
	r.take('(')
	if r.sees('(') {
		r.kidsOf(n)
	} else if !r.sees(')') {
		r.keysOf(n)
	}
	r.take(')')
	return n
}

// kidsOf reads the kids of a node and the keys between them.
func (r *reader) kidsOf(n *node) {
	n.kids = append(n.kids, r.node())
	for r.sees(' ') {
		r.take(' ')
		n.keys = append(n.keys, r.key())
		r.take(' ')
		n.kids = append(n.kids, r.node())
	}
}

// keysOf reads the keys of a leaf.
func (r *reader) keysOf(n *node) {
	n.keys = append(n.keys, r.key())
	for r.sees(' ') {
		r.take(' ')
		n.keys = append(n.keys, r.key())
	}
}
