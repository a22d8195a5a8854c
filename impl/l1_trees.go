package impl

import (
	"slices"
	"strings"
)

// LeavesMax is the greatest number of leaves of a tree.
const LeavesMax = 12

// NodesMax is the greatest number of nodes of a tree.
const NodesMax = 16

// arityMax is the greatest number of trees in a node.
const arityMax = 6

// tree is a tree that has been read: a *leaf or a *node.
// It is never changed once it is made, so that several trees may share a part.
type tree interface {
	leaves() int
	nodes() int
	write(out *strings.Builder)
}

type leaf struct{}

type node struct {
	letter string
	kids   []tree
}

func (l *leaf) leaves() int { return 1 }

func (l *leaf) nodes() int { return 0 }

func (l *leaf) write(out *strings.Builder) { out.WriteByte('*') }

func (n *node) leaves() int {
	sum := 0
	for _, kid := range n.kids {
		sum += kid.leaves()
	}
	return sum
}

func (n *node) nodes() int {
	sum := 1
	for _, kid := range n.kids {
		sum += kid.nodes()
	}
	return sum
}

func (n *node) write(out *strings.Builder) {
	out.WriteByte('(')
	out.WriteString(n.letter)
	for _, kid := range n.kids {
		out.WriteByte(' ')
		kid.write(out)
	}
	out.WriteByte(')')
}

// treeText returns the text of a tree.
func treeText(t tree) string {
	var out strings.Builder
	t.write(&out)
	return out.String()
}

// isBounded reports whether a tree that was made of others has not become
// greater than a tree may be.
func isBounded(t tree) bool {
	return t.leaves() <= LeavesMax && t.nodes() <= NodesMax
}

// boundedText returns the text of a tree that was made of others, or false if
// it has become greater than a tree may be.
func boundedText(t tree) (string, bool) {
	if !isBounded(t) {
		return "", false
	}
	return treeText(t), true
}

// isLetter reports whether a text is a letter that a node may have.
func isLetter(s string) bool {
	return len(s) == 1 && s[0] >= 'a' && s[0] <= 'h'
}

// treeReader reads a tree from the left to the right. It counts on the way, so
// that it gives up at the first leaf or node too many: the nodes that it may
// be in at one time, and so its recursion, are bounded for every text.
type treeReader struct {
	text   string
	at     int
	leaves int
	nodes  int
}

// readTree returns the tree of a text, or false if the text is none.
func readTree(s string) (tree, bool) {
	r := &treeReader{text: s}
	t, ok := r.tree()
	if !ok || r.at != len(s) {
		return nil, false
	}
	return t, true
}

// take reads one byte if it is the next one.
func (r *treeReader) take(c byte) bool {
	if r.at == len(r.text) || r.text[r.at] != c {
		return false
	}
	r.at++
	return true
}

func (r *treeReader) tree() (tree, bool) {
	switch {
	case r.leaves < LeavesMax && r.take('*'):
		r.leaves++
		return &leaf{}, true
	case r.nodes < NodesMax && r.take('('):
		r.nodes++
		return r.node()
	}
	return nil, false
}

// node reads a node behind its opening parenthesis.
func (r *treeReader) node() (tree, bool) {
	letter, ok := r.letter()
	if !ok {
		return nil, false
	}
	kids := []tree{}
	for r.take(' ') {
		kid, ok := r.tree()
		if !ok || len(kids) == arityMax {
			return nil, false
		}
		kids = append(kids, kid)
	}
	if len(kids) == 0 || !r.take(')') {
		return nil, false
	}
	return &node{letter, kids}, true
}

func (r *treeReader) letter() (string, bool) {
	if r.at == len(r.text) || !isLetter(r.text[r.at:r.at+1]) {
		return "", false
	}
	r.at++
	return r.text[r.at-1 : r.at], true
}

// graftAll returns a tree with the trees of a list in the places of its
// leaves; the list must have as many.
func graftAll(t tree, list []tree) tree {
	switch x := t.(type) {
	case *node:
		kids := make([]tree, len(x.kids))
		for i, kid := range x.kids {
			n := kid.leaves()
			kids[i] = graftAll(kid, list[:n])
			list = list[n:]
		}
		return &node{x.letter, kids}
	default:
		return list[0]
	}
}

// graftAt returns a tree with another one in the place of the leaf k, which
// must be there.
func graftAt(t tree, k int, u tree) tree {
	list := make([]tree, t.leaves())
	for i := range list {
		list[i] = &leaf{}
	}
	list[k] = u
	return graftAll(t, list)
}

// mirrorTree returns a tree with the trees of each node in the opposite order.
func mirrorTree(t tree) tree {
	switch x := t.(type) {
	case *node:
		kids := make([]tree, len(x.kids))
		for i, kid := range x.kids {
			kids[len(kids)-1-i] = mirrorTree(kid)
		}
		return &node{x.letter, kids}
	default:
		return t
	}
}

// cutTree returns a tree with a leaf in the place of the part that begins with
// the node k, this part, and the index of this leaf, or false if there is no
// such node.
func cutTree(t tree, k int) (tree, tree, int, bool) {
	switch x := t.(type) {
	case *node:
		if k == 0 {
			return &leaf{}, x, 0, true
		}
		k--
		ahead := 0
		for i, kid := range x.kids {
			if rest, part, at, ok := cutTree(kid, k); ok {
				kids := slices.Clone(x.kids)
				kids[i] = rest
				return &node{x.letter, kids}, part, ahead + at, true
			}
			k -= kid.nodes()
			ahead += kid.leaves()
		}
	}
	return nil, nil, 0, false
}

// treePaths returns, for each leaf, the letters on the way to it, behind those
// of the way to the tree itself.
func treePaths(t tree, way string) []string {
	switch x := t.(type) {
	case *node:
		list := []string{}
		for _, kid := range x.kids {
			list = append(list, treePaths(kid, way+x.letter)...)
		}
		return list
	default:
		return []string{way}
	}
}

// TreeValid reports whether a text is a tree.
func TreeValid(s string) bool {
	_, ok := readTree(s)
	return ok
}

// TreeLeaves returns the number of leaves of a tree, or -1 if the text is none.
func TreeLeaves(s string) int {
	t, ok := readTree(s)
	if !ok {
		return -1
	}
	return t.leaves()
}

// TreeNodes returns the number of nodes of a tree, or -1 if the text is none.
func TreeNodes(s string) int {
	t, ok := readTree(s)
	if !ok {
		return -1
	}
	return t.nodes()
}

// TreeGraft returns the first tree with the second one grafted at the leaf with an index, and true.
func TreeGraft(a string, k int, b string) (string, bool) {
	t, ok := readTree(a)
	if !ok || k < 0 || k >= t.leaves() {
		return "", false
	}
	u, ok := readTree(b)
	if !ok {
		return "", false
	}
	return boundedText(graftAt(t, k, u))
}

// TreeWhole returns a tree with a tree of a list grafted at each leaf, in order, and true.
func TreeWhole(a string, list []string) (string, bool) {
	t, ok := readTree(a)
	if !ok || len(list) != t.leaves() {
		return "", false
	}
	trees := make([]tree, len(list))
	for i, s := range list {
		u, ok := readTree(s)
		if !ok {
			return "", false
		}
		trees[i] = u
	}
	return boundedText(graftAll(t, trees))
}

// TreeMirror returns the tree with the trees of each node in the opposite order, and true.
func TreeMirror(s string) (string, bool) {
	t, ok := readTree(s)
	if !ok {
		return "", false
	}
	return treeText(mirrorTree(t)), true
}

// TreeDepth returns the greatest number of nodes between the outside and a leaf, 0 for a leaf, or -1 if the text is none.
func TreeDepth(s string) int {
	t, ok := readTree(s)
	if !ok {
		return -1
	}
	depth := 0
	for _, way := range treePaths(t, "") {
		depth = max(depth, len(way))
	}
	return depth
}

// TreePart returns the part of a tree that begins with the node with an index, and true.
func TreePart(s string, k int) (string, bool) {
	_, part, _, ok := TreeCut(s, k)
	return part, ok
}

// TreeCut returns the tree with a leaf in the place of the part that begins with the node with an index, this part, and the index of this leaf, and true.
func TreeCut(s string, k int) (string, string, int, bool) {
	t, ok := readTree(s)
	if !ok || k < 0 {
		return "", "", 0, false
	}
	rest, part, at, ok := cutTree(t, k)
	if !ok {
		return "", "", 0, false
	}
	return treeText(rest), treeText(part), at, true
}

// TreePaths returns, for each leaf in order, the letters of the nodes from the outside to it, and true.
func TreePaths(s string) ([]string, bool) {
	t, ok := readTree(s)
	if !ok {
		return nil, false
	}
	return treePaths(t, ""), true
}
