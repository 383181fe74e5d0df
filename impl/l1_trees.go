package impl

import (
	"slices"
	"strconv"
)

// Limits of trees.
const (
	MinWide = 2
	MaxWide = 6
	MaxKey  = 99
	MaxText = 2000
)

// deepest is how deep a valid tree can be. Each inner node has two kids at
// least, so that one level more takes 127 keys, and there are only 100.
const deepest = 6

// endless is a depth: a deeper tree counts as one without end. Go ends the whole
// program if calls lie too deep within each other, and nothing recovers from it.
const endless = 1 << 20

// misfit is what a reader panics with.
const misfit = "the text of no tree"

// A Tree has keys and, if it is no leaf, one kid more.
type Tree struct {
	Keys []int
	Kids []Tree
}

// TreeValid reports whether a tree is valid, with so many keys in a node at most.
func TreeValid(t Tree, wide int) bool {
	if !isWide(wide) {
		return false
	}
	least := min(len(t.Kids), 1)
	return evenDepth(&t, least, wide, deepest) > 0 && plant(t).ascends()
}

// FormatTree returns the text of a tree.
func FormatTree(t Tree) string {
	root := plant(t)
	if root == nil {
		return ""
	}
	return string(root.appendText(nil))
}

// ParseTree parses the text of a tree.
func ParseTree(text string) (t Tree, ok bool) {
	defer func() {
		if recover() != nil {
			t, ok = Tree{}, false
		}
	}()
	if len(text) > MaxText {
		return Tree{}, false
	}
	r := &reader{text: text}
	root := r.node()
	r.end()
	return root.tree(), true
}

// KeysOf returns all keys of a tree, in order.
func KeysOf(t Tree) []int {
	return slices.Collect(plant(t).inOrder)
}

// DepthOf returns how many nodes lie within each other.
func DepthOf(t Tree) int {
	deep := 0
	for depth := range plant(t).byLevel {
		deep = depth
	}
	return deep
}

// CountNodes returns how many nodes a tree has.
func CountNodes(t Tree) int {
	return plant(t).size()
}

// SameTree reports whether two trees are the same.
func SameTree(a Tree, b Tree) bool {
	x, y := plant(a), plant(b)
	return x != nil && y != nil && x.same(y)
}

// LevelOf returns the keys of all nodes at a depth.
func LevelOf(t Tree, depth int) []int {
	var level []int
	for at, n := range plant(t).byLevel {
		if at > depth {
			break
		}
		if at == depth {
			level = append(level, n.keys...)
		}
	}
	return level
}

// FullNodes returns how many nodes have as many keys as they may have.
func FullNodes(t Tree, wide int) int {
	full := 0
	for _, n := range plant(t).byLevel {
		if len(n.keys) == wide {
			full++
		}
	}
	return full
}

// isWide reports whether a number is a width.
func isWide(wide int) bool {
	return MinWide <= wide && wide <= MaxWide
}

// isKey reports whether a number is a key.
func isKey(key int) bool {
	return 0 <= key && key <= MaxKey
}

// evenDepth returns how deep a tree is if each of its nodes has neither too
// few nor too many Keys, and Kids to match, and all leaves lie at the same
// depth; 0 if not, or if the tree is deeper than limit. It goes no deeper, so
// that it ends for a tree whose Kids hold themselves.
func evenDepth(t *Tree, least int, wide int, limit int) int {
	keys, kids := len(t.Keys), len(t.Kids)
	if limit == 0 || keys < least || keys > wide {
		return 0
	}
	if kids == 0 {
		return 1
	}
	if kids != keys+1 {
		return 0
	}
	depth := 0
	for i := range t.Kids {
		below := evenDepth(&t.Kids[i], wide/2, wide, limit-1)
		if below == 0 || i > 0 && below != depth {
			return 0
		}
		depth = below
	}
	return depth + 1
}

// A row is the keys of one node.
type row struct {
	keys []int
}

// A node is a copy of a tree, with which it shares no memory. Where a tree has
// no end, nil stands for its node.
type node struct {
	row
	kids []*node
}

// plant returns the node that is a copy of a tree, or nil if the tree has no
// end because Kids of it hold themselves: such a tree has no text and no depth.
func plant(t Tree) *node {
	return plantWithin(&t, map[*Tree]bool{})
}

// plantWithin does this for a tree that lies within others.
func plantWithin(t *Tree, within map[*Tree]bool) *node {
	if within[t] || len(within) == endless {
		return nil
	}
	n := &node{row: row{keys: slices.Clone(t.Keys)}}
	if len(t.Kids) == 0 {
		return n
	}
	within[t] = true
	n.kids = make([]*node, len(t.Kids))
	for i := range t.Kids {
		n.kids[i] = plantWithin(&t.Kids[i], within)
		if n.kids[i] == nil {
			return nil
		}
	}
	delete(within, t)
	return n
}

// tree returns the tree that is a copy of a node.
func (n *node) tree() Tree {
	t := Tree{Keys: slices.Clone(n.keys)}
	if len(n.kids) > 0 {
		t.Kids = make([]Tree, len(n.kids))
	}
	for i, kid := range n.kids {
		t.Kids[i] = kid.tree()
	}
	return t
}

// parts yields the kids and keys of a node by turns, as far as there are some:
// either a kid, or nil and a key.
func (n *node) parts(yield func(*node, int) bool) {
	for i := range max(len(n.kids), len(n.keys)) {
		if i < len(n.kids) && !yield(n.kids[i], 0) {
			return
		}
		if i < len(n.keys) && !yield(nil, n.keys[i]) {
			return
		}
	}
}

// inOrder yields all keys in order.
func (n *node) inOrder(yield func(int) bool) {
	if n != nil {
		n.yieldKeys(yield)
	}
}

// yieldKeys yields all keys in order, and reports whether it got to the end.
func (n *node) yieldKeys(yield func(int) bool) bool {
	for kid, key := range n.parts {
		if kid != nil && !kid.yieldKeys(yield) {
			return false
		}
		if kid == nil && !yield(key) {
			return false
		}
	}
	return true
}

// ascends reports whether the keys in order are keys, and ascend.
func (n *node) ascends() bool {
	last := -1
	for key := range n.inOrder {
		if key <= last || !isKey(key) {
			return false
		}
		last = key
	}
	return true
}

// size returns how many nodes there are.
func (n *node) size() int {
	if n == nil {
		return 0
	}
	size := 1
	for _, kid := range n.kids {
		size += kid.size()
	}
	return size
}

// A waiting node is one in a queue, and the depth at which it lies.
type waiting struct {
	*node
	depth int
}

// byLevel yields all nodes and their depths, from the node itself on, level by
// level. The queue has room for all of them, so that no send has to wait.
func (n *node) byLevel(yield func(int, *node) bool) {
	if n == nil {
		return
	}
	queue := make(chan waiting, n.size())
	queue <- waiting{n, 1}
	for left := 1; left > 0; left-- {
		next := <-queue
		if !yield(next.depth, next.node) {
			return
		}
		for _, kid := range next.kids {
			queue <- waiting{kid, next.depth + 1}
		}
		left += len(next.kids)
	}
}

// same reports whether two nodes have the same keys and kids.
func (n *node) same(other *node) bool {
	return slices.Equal(n.keys, other.keys) && slices.EqualFunc(n.kids, other.kids, (*node).same)
}

// appendText appends the text of a node to a text.
func (n *node) appendText(text []byte) []byte {
	text = append(text, '(')
	first := true
	for kid, key := range n.parts {
		if !first {
			text = append(text, ' ')
		}
		first = false
		if kid != nil {
			text = kid.appendText(text)
		} else {
			text = strconv.AppendInt(text, int64(key), 10)
		}
	}
	return append(text, ')')
}

// A reader stands at a place of a text and panics where nothing fits.
type reader struct {
	text string
	at   int
}

// sees reports whether a byte is the next one.
func (r *reader) sees(c byte) bool {
	return r.at < len(r.text) && r.text[r.at] == c
}

// take goes past a byte that has to be the next one.
func (r *reader) take(c byte) {
	if !r.sees(c) {
		panic(misfit)
	}
	r.at++
}

// end makes sure that nothing is left.
func (r *reader) end() {
	if r.at < len(r.text) {
		panic(misfit)
	}
}

// key reads a key. Its text has to be that which the key is written as.
func (r *reader) key() int {
	start := r.at
	for r.at < len(r.text) && '0' <= r.text[r.at] && r.text[r.at] <= '9' {
		r.at++
	}
	digits := r.text[start:r.at]
	key, err := strconv.Atoi(digits)
	if err != nil || !isKey(key) || strconv.Itoa(key) != digits {
		panic(misfit)
	}
	return key
}

// node reads a node: a leaf if it does not start with a kid.
func (r *reader) node() *node {
	n := &node{}
	r.take('(')
	if r.sees('(') {
		r.kidsOf(n)
	} else if !r.sees(')') {
		r.keysOf(n)
	}
	r.take(')')
	return n
}

// kidsOf reads the kids of a node and the keys between them.
func (r *reader) kidsOf(n *node) {
	n.kids = append(n.kids, r.node())
	for r.sees(' ') {
		r.take(' ')
		n.keys = append(n.keys, r.key())
		r.take(' ')
		n.kids = append(n.kids, r.node())
	}
}

// keysOf reads the keys of a leaf.
func (r *reader) keysOf(n *node) {
	n.keys = append(n.keys, r.key())
	for r.sees(' ') {
		r.take(' ')
		n.keys = append(n.keys, r.key())
	}
}
