package tests

import (
	"slices"
	"testing"

	"loop.example/operadtrees/impl"
)

// The promises 1 to 12 of the document, one test each, on trees for which the
// conditions of the promises must hold. What the functions return for texts
// that are no tree, and for indexes that are not there, is in trees_test.go.

// mustGraft returns what TreeGraft returns where it must not fail.
func mustGraft(t *testing.T, a string, k int, b string) string {
	t.Helper()
	s, ok := impl.TreeGraft(a, k, b)
	if !ok {
		t.Fatalf("TreeGraft(%q, %d, %q) fails", a, k, b)
	}
	return s
}

func mustMirror(t *testing.T, s string) string {
	t.Helper()
	u, ok := impl.TreeMirror(s)
	if !ok {
		t.Fatalf("TreeMirror(%q) fails", s)
	}
	return u
}

func mustPaths(t *testing.T, s string) []string {
	t.Helper()
	list, ok := impl.TreePaths(s)
	if !ok {
		t.Fatalf("TreePaths(%q) fails", s)
	}
	return list
}

// graftsOf calls a function with all grafts of two trees, at all leaves of the
// first one, that are a tree.
func graftsOf(t *testing.T, trees []string, check func(a string, k int, b, s string)) {
	t.Helper()
	grafts := 0
	for _, a := range trees {
		for _, b := range trees {
			for k := range leafCount(a) {
				if s, ok := impl.TreeGraft(a, k, b); ok {
					check(a, k, b, s)
					grafts++
				} else if isTree(graftText(a, k, b)) {
					t.Errorf("TreeGraft(%q, %d, %q) fails", a, k, b)
				}
			}
		}
	}
	if grafts < len(trees) {
		t.Errorf("there are only %d grafts", grafts)
	}
}

func TestPromise1GraftsWithALeaf(t *testing.T) {
	for _, s := range treesUpTo(3) {
		if u := mustGraft(t, "*", 0, s); u != s {
			t.Errorf("%q at the leaf alone is %q", s, u)
		}
		for k := range leafCount(s) {
			if u := mustGraft(t, s, k, "*"); u != s {
				t.Errorf("a leaf at the leaf %d of %q makes %q", k, s, u)
			}
		}
	}
	for _, s := range noTrees() {
		if u, ok := impl.TreeGraft("*", 0, s); ok {
			t.Errorf("%q at the leaf alone is %q", short(s), u)
		}
	}
}

func TestPromise2Leaves(t *testing.T) {
	for _, s := range treesUpTo(3) {
		n := impl.TreeLeaves(s)
		if n < 1 || n > impl.LeavesMax || n != leafCount(s) {
			t.Errorf("TreeLeaves(%q) is %d", s, n)
		}
		if ways := len(mustPaths(t, s)); ways != n {
			t.Errorf("%q has %d leaves and %d ways", s, n, ways)
		}
	}
}

func TestPromise3Nodes(t *testing.T) {
	for _, s := range treesUpTo(3) {
		n := impl.TreeNodes(s)
		if n < 0 || n > impl.NodesMax || n != nodeCount(s) {
			t.Errorf("TreeNodes(%q) is %d", s, n)
		}
		for k := range n {
			if _, ok := impl.TreePart(s, k); !ok {
				t.Errorf("TreePart(%q, %d) fails", s, k)
			}
		}
		if part, ok := impl.TreePart(s, n); ok {
			t.Errorf("TreePart(%q, %d) is %q", s, n, part)
		}
	}
}

func TestPromise4GraftCounts(t *testing.T) {
	graftsOf(t, treesUpTo(2), func(a string, k int, b, s string) {
		if n := impl.TreeLeaves(s); n != impl.TreeLeaves(a)+impl.TreeLeaves(b)-1 {
			t.Errorf("%q at the leaf %d of %q has %d leaves", b, k, a, n)
		}
		if n := impl.TreeNodes(s); n != impl.TreeNodes(a)+impl.TreeNodes(b) {
			t.Errorf("%q at the leaf %d of %q has %d nodes", b, k, a, n)
		}
	})
}

func TestPromise5GraftsInside(t *testing.T) {
	both := 0
	graftsOf(t, treesUpTo(2), func(a string, k int, b, s string) {
		c := mustMirror(t, b)
		for i := range impl.TreeLeaves(b) {
			there, ok := impl.TreeGraft(s, k+i, c)
			inner, okInner := impl.TreeGraft(b, i, c)
			if !ok || !okInner {
				continue
			}
			both++
			if first := mustGraft(t, a, k, inner); first != there {
				t.Errorf("%q at the leaf %d of %q and its mirror at the leaf %d there: %q and %q", b, k, a, i, there, first)
			}
		}
	})
	if both < 1000 {
		t.Errorf("both are told for %d only", both)
	}
}

func TestPromise6GraftsBeside(t *testing.T) {
	both := 0
	graftsOf(t, treesUpTo(2), func(a string, k int, b, s string) {
		c := mustMirror(t, b)
		for later := k + 1; later < impl.TreeLeaves(a); later++ {
			one, ok := impl.TreeGraft(s, later+impl.TreeLeaves(b)-1, c)
			behind, okBehind := impl.TreeGraft(a, later, c)
			if !ok || !okBehind {
				continue
			}
			both++
			if other := mustGraft(t, behind, k, b); other != one {
				t.Errorf("%q at the leaf %d of %q and its mirror at the leaf %d: %q and %q", b, k, a, later, one, other)
			}
		}
	})
	if both < 1000 {
		t.Errorf("both are told for %d only", both)
	}
}

func TestPromise7Whole(t *testing.T) {
	trees := treesUpTo(2)
	told := 0
	for _, a := range trees {
		n := leafCount(a)
		if s, ok := impl.TreeWhole(a, slices.Repeat([]string{"*"}, n)); !ok || s != a {
			t.Errorf("with leaves alone %q becomes %q and %v", a, s, ok)
		}
		for first := range trees {
			list := []string{}
			for i := range n {
				list = append(list, trees[(first+i*7)%len(trees)])
			}
			grafted, fits := a, true
			for k := n - 1; k >= 0 && fits; k-- {
				grafted, fits = impl.TreeGraft(grafted, k, list[k])
			}
			s, ok := impl.TreeWhole(a, list)
			if ok != fits || s != grafted {
				t.Errorf("TreeWhole(%q, %q) returned %q and %v, and TreeGraft %q and %v", a, list, s, ok, grafted, fits)
			}
			if ok {
				told++
			}
		}
	}
	if told < 100 {
		t.Errorf("it is told for %d only", told)
	}
}

func TestPromise8Mirror(t *testing.T) {
	for _, s := range treesUpTo(3) {
		u := mustMirror(t, s)
		if back := mustMirror(t, u); back != s {
			t.Errorf("%q mirrored twice is %q", s, back)
		}
		if impl.TreeLeaves(u) != impl.TreeLeaves(s) || impl.TreeNodes(u) != impl.TreeNodes(s) || impl.TreeDepth(u) != impl.TreeDepth(s) {
			t.Errorf("%q and the mirrored %q have other numbers", s, u)
		}
	}
}

func TestPromise9Depth(t *testing.T) {
	for _, s := range treesUpTo(3) {
		longest := -1
		for _, way := range mustPaths(t, s) {
			longest = max(longest, len(way))
		}
		if n := impl.TreeDepth(s); n != longest {
			t.Errorf("TreeDepth(%q) is %d, and the longest way has %d", s, n, longest)
		}
	}
}

func TestPromise10Part(t *testing.T) {
	for _, s := range treesUpTo(3) {
		for k := range nodeCount(s) {
			part, ok := impl.TreePart(s, k)
			nodes, leaves := impl.TreeNodes(part), impl.TreeLeaves(part)
			if !ok || !impl.TreeValid(part) || nodes < 1 || nodes > impl.TreeNodes(s) || leaves > impl.TreeLeaves(s) {
				t.Errorf("TreePart(%q, %d) is %q and %v", s, k, part, ok)
			}
		}
		if n := nodeCount(s); n > 0 {
			if part, ok := impl.TreePart(s, 0); !ok || part != s {
				t.Errorf("TreePart(%q, 0) is %q and %v", s, part, ok)
			}
		}
	}
}

func TestPromise11Cut(t *testing.T) {
	for _, s := range treesUpTo(3) {
		for k := range nodeCount(s) {
			rest, part, leaf, ok := impl.TreeCut(s, k)
			if !ok {
				t.Fatalf("TreeCut(%q, %d) fails", s, k)
			}
			if back := mustGraft(t, rest, leaf, part); back != s {
				t.Errorf("TreeCut(%q, %d) is grafted to %q", s, k, back)
			}
			if same, ok := impl.TreePart(s, k); !ok || same != part {
				t.Errorf("TreePart(%q, %d) is %q and %v, not %q", s, k, same, ok, part)
			}
		}
	}
}

func TestPromise12Paths(t *testing.T) {
	for _, s := range treesUpTo(3) {
		ways := mustPaths(t, s)
		mirrored := mustPaths(t, mustMirror(t, s))
		slices.Reverse(mirrored)
		if !slices.Equal(ways, mirrored) {
			t.Errorf("the ways of %q are %q, and mirrored %q", s, ways, mirrored)
		}
	}
}
