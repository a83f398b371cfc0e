package rope

import (
	"math/rand"
	"testing"
)

// wellFormed fails the test unless t is as the comment of its type says, and returns the text it represents.
func wellFormed(t *testing.T, part *tree) string {
	t.Helper()
	if part == nil {
		return ""
	}
	text, depth := part.leaf, 1
	if part.left != nil || part.right != nil {
		text = wellFormed(t, part.left) + wellFormed(t, part.right)
		left, right := depthOf(part.left), depthOf(part.right)
		if left == 0 || right == 0 || left > right+1 || right > left+1 || part.leaf != "" {
			t.Fatalf("a tree with the leaf %q has parts of the depths %d and %d", part.leaf, left, right)
		}
		depth = max(left, right) + 1
	}
	if text == "" || part.depth != depth || part.length != len(text) {
		t.Fatalf("depth %d and length %d for %q, want depth %d", part.depth, part.length, text, depth)
	}
	return text
}

// leaves returns a tree of so many leaves of one byte each.
func leaves(count int) *tree {
	var all *tree
	for i := range count {
		all = join(all, newLeaf(string('a'+rune(i%26))))
	}
	return all
}

// P3.2: join and split keep trees balanced, whatever the depths of their parts are.
func TestTreesStayBalanced(t *testing.T) {
	random := rand.New(rand.NewSource(7))
	for range 3000 {
		a, b := leaves(random.Intn(60)), leaves(random.Intn(60))
		if random.Intn(3) == 0 {
			b = leaves(random.Intn(3))
		}
		if random.Intn(2) == 0 {
			a, b = b, a
		}
		first, second := wellFormed(t, a), wellFormed(t, b)
		both := join(a, b)
		text := wellFormed(t, both)
		if text != first+second {
			t.Fatalf("join of %q and %q: %q", first, second, text)
		}
		at := random.Intn(len(text) + 1)
		head, tail := split(both, at)
		if got, rest := wellFormed(t, head), wellFormed(t, tail); got != text[:at] || rest != text[at:] {
			t.Fatalf("split of %q at %d: %q and %q", text, at, got, rest)
		}
		if wellFormed(t, a) != first || wellFormed(t, b) != second || wellFormed(t, both) != text {
			t.Fatal("an earlier tree was changed")
		}
	}
}

// nodes adds the trees that t consists of to all.
func nodes(t *tree, all map[*tree]bool) {
	if t != nil {
		all[t] = true
		nodes(t.left, all)
		nodes(t.right, all)
	}
}

// Texts share memory: a new text has few nodes that its parts do not have.
func TestTreesShareMemory(t *testing.T) {
	large := leaves(500)
	few := 4 * large.depth
	head, tail := split(large, 200)
	results := map[string]*tree{
		"front":  join(newLeaf("x"), large),
		"end":    join(large, newLeaf("x")),
		"head":   head,
		"tail":   tail,
		"copies": repeat(large, 4),
	}
	for name, result := range results {
		old, all := map[*tree]bool{}, map[*tree]bool{}
		nodes(large, old)
		nodes(result, all)
		added := 0
		for node := range all {
			if !old[node] {
				added++
			}
		}
		if added > few {
			t.Errorf("%s: %d new nodes, want at most %d", name, added, few)
		}
	}
}

// leavesOf stops when the loop over it does.
func TestLeavesOf(t *testing.T) {
	text := ""
	for leaf := range leavesOf(leaves(9)) {
		text += leaf
		if len(text) == 5 {
			break
		}
	}
	if text != "abcde" {
		t.Errorf("the first five leaves: %q", text)
	}
	for leaf := range leavesOf(nil) {
		t.Errorf("the empty text has a leaf %q", leaf)
	}
}
