package rope

import "iter"

// A tree represents a text. It is never changed, so that trees can share their parts; nil is the empty text.
//
// A leaf has depth 1 and a text that is not empty. Any other tree has two parts, and their depths differ by at most
// one: this keeps the depth logarithmic in the number of leaves, which is at most the length of the text.
type tree struct {
	depth       int
	length      int
	leaf        string
	left, right *tree
}

func newLeaf(text string) *tree {
	if text == "" {
		return nil
	}
	return &tree{depth: 1, length: len(text), leaf: text}
}

// pair returns a tree with the two parts, whose depths differ by at most one.
func pair(left, right *tree) *tree {
	return &tree{
		depth:  max(left.depth, right.depth) + 1,
		length: left.length + right.length,
		left:   left,
		right:  right,
	}
}

func depthOf(t *tree) int {
	if t == nil {
		return 0
	}
	return t.depth
}

func lengthOf(t *tree) int {
	if t == nil {
		return 0
	}
	return t.length
}

// join returns the concatenation of a and b. It is at most one deeper than the deeper one of them, which pairLeft
// and pairRight rely on.
func join(a, b *tree) *tree {
	switch {
	case a == nil:
		return b
	case b == nil:
		return a
	case a.depth > b.depth+1:
		return pairRight(a.left, join(a.right, b))
	case b.depth > a.depth+1:
		return pairLeft(join(a, b.left), b.right)
	}
	return pair(a, b)
}

// pairRight pairs the parts, of which the right one may be too deep by one: then it gives some of its text to the left.
func pairRight(left, right *tree) *tree {
	if right.depth <= left.depth+1 {
		return pair(left, right)
	}
	near, far := right.left, right.right
	if near.depth > far.depth {
		return pair(pair(left, near.left), pair(near.right, far))
	}
	return pair(pair(left, near), far)
}

// pairLeft is the mirror image of pairRight.
func pairLeft(left, right *tree) *tree {
	if left.depth <= right.depth+1 {
		return pair(left, right)
	}
	far, near := left.left, left.right
	if near.depth > far.depth {
		return pair(pair(far, near.left), pair(near.right, right))
	}
	return pair(far, pair(near, right))
}

// split returns the first at bytes of t and the rest of it.
func split(t *tree, at int) (head, tail *tree) {
	switch {
	case at <= 0:
		return nil, t
	case at >= lengthOf(t):
		return t, nil
	case t.depth == 1:
		return newLeaf(t.leaf[:at]), newLeaf(t.leaf[at:])
	case at < t.left.length:
		head, tail = split(t.left, at)
		return head, join(tail, t.right)
	}
	head, tail = split(t.right, at-t.left.length)
	return join(t.left, head), tail
}

// leavesOf passes on the texts of the leaves of t, from left to right.
func leavesOf(t *tree) iter.Seq[string] {
	return func(yield func(string) bool) {
		visit(t, yield)
	}
}

// visit reports whether yield wants more leaves than those of t.
func visit(t *tree, yield func(string) bool) bool {
	switch {
	case t == nil:
		return true
	case t.depth == 1:
		return yield(t.leaf)
	}
	return visit(t.left, yield) && visit(t.right, yield)
}
