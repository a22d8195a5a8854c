package tests

import (
	"slices"
	"strings"
	"testing"

	"loop.example/operadtrees/impl"
)

// What the functions of chapter 1 return, for each kind of argument.

func TestTreeLimits(t *testing.T) {
	if impl.LeavesMax != 12 || impl.NodesMax != 16 {
		t.Errorf("LeavesMax is %d and NodesMax is %d", impl.LeavesMax, impl.NodesMax)
	}
}

func TestTreeValidHolds(t *testing.T) {
	for _, s := range treesUpTo(3) {
		if !isTree(s) {
			t.Fatalf("the corpus has %q", s)
		}
		if !impl.TreeValid(s) {
			t.Errorf("TreeValid(%q) does not hold", s)
		}
	}
}

func TestTreeValidDoesNotHold(t *testing.T) {
	for _, s := range noTrees() {
		if len(s) < 1000 && isTree(s) {
			t.Fatalf("the corpus of texts that are no tree has %q", s)
		}
		if impl.TreeValid(s) {
			t.Errorf("TreeValid(%q) holds", short(s))
		}
	}
}

func TestTreeValidOfAllShortTexts(t *testing.T) {
	texts := []string{""}
	for len(texts[0]) < 7 {
		next := []string{}
		for _, s := range texts {
			for _, c := range []string{"(", "a", " ", "*", ")"} {
				next = append(next, s+c)
			}
		}
		texts = next
		for _, s := range texts {
			if holds := s == "*" || s == "(a *)" || s == "(a * *)"; impl.TreeValid(s) != holds {
				t.Errorf("TreeValid(%q) is %v", s, !holds)
			}
		}
	}
}

func TestTreeValidWithOneByteChanged(t *testing.T) {
	for _, s := range edgeTrees() {
		for i := range len(s) + 1 {
			changed := []string{}
			for c := range 256 {
				changed = append(changed, s[:i]+string([]byte{byte(c)})+s[i:])
				if i < len(s) {
					changed = append(changed, s[:i]+string([]byte{byte(c)})+s[i+1:])
				}
			}
			if i < len(s) {
				changed = append(changed, s[:i]+s[i+1:])
			}
			for _, u := range changed {
				if impl.TreeValid(u) != isTree(u) {
					t.Fatalf("TreeValid(%q) is %v", u, !isTree(u))
				}
			}
		}
	}
}

func TestTreeNumbers(t *testing.T) {
	for _, x := range []struct {
		s                    string
		leaves, nodes, depth int
	}{
		{"*", 1, 0, 0},
		{"(a *)", 1, 1, 1},
		{"(a * *)", 2, 1, 1},
		{"(a (b *) *)", 2, 2, 2},
		{"(a * (b (c * *) *))", 4, 3, 3},
		{"(a (b (c * *) *) *)", 4, 3, 3},
		{"(a (b *) (c (d *)) *)", 3, 4, 3},
		{sixLeaves, 6, 1, 1},
		{twelveLeaves, 12, 3, 2},
		{comb(11), 12, 11, 11},
		{chain(16, "*"), 1, 16, 16},
		{chain(13, twelveLeaves), 12, 16, 15},
		{comb(12), -1, -1, -1},
		{chain(17, "*"), -1, -1, -1},
	} {
		if n := impl.TreeLeaves(x.s); n != x.leaves {
			t.Errorf("TreeLeaves(%q) is %d, not %d", x.s, n, x.leaves)
		}
		if n := impl.TreeNodes(x.s); n != x.nodes {
			t.Errorf("TreeNodes(%q) is %d, not %d", x.s, n, x.nodes)
		}
		if n := impl.TreeDepth(x.s); n != x.depth {
			t.Errorf("TreeDepth(%q) is %d, not %d", x.s, n, x.depth)
		}
	}
}

func TestTreeGraftTold(t *testing.T) {
	for _, x := range []struct {
		a    string
		k    int
		b, s string
	}{
		{"*", 0, "*", "*"},
		{"*", 0, "(a *)", "(a *)"},
		{"(a *)", 0, "*", "(a *)"},
		{"(a *)", 0, "(b *)", "(a (b *))"},
		{"(a * *)", 0, "(b *)", "(a (b *) *)"},
		{"(a * *)", 1, "(b *)", "(a * (b *))"},
		{"(a (b * *) *)", 0, "(c * *)", "(a (b (c * *) *) *)"},
		{"(a (b * *) *)", 1, "(c * *)", "(a (b * (c * *)) *)"},
		{"(a (b * *) *)", 2, "(c * *)", "(a (b * *) (c * *))"},
		{sixLeaves, 0, "(a *)", "(h (a *) * * * * *)"},
		{sixLeaves, 5, "(a *)", "(h * * * * * (a *))"},
		{twelveLeaves, 0, "(d *)", "(a (b (d *) * * * * *) (c * * * * * *))"},
		{twelveLeaves, 11, "(d *)", "(a (b * * * * * *) (c * * * * * (d *)))"},
		{chain(15, "*"), 0, "(a *)", chain(15, "(a *)")},
		{chain(4, comb(11)), 0, "(e *)", graftText(chain(4, comb(11)), 0, "(e *)")},
	} {
		if s, ok := impl.TreeGraft(x.a, x.k, x.b); !ok || s != x.s {
			t.Errorf("TreeGraft(%q, %d, %q) returned %q and %v", x.a, x.k, x.b, s, ok)
		}
	}
}

func TestTreeGraftAgainstTexts(t *testing.T) {
	trees := treesUpTo(2)
	for _, a := range trees {
		for _, b := range trees {
			for k := range leafCount(a) {
				want := graftText(a, k, b)
				fits := isTree(want)
				if !fits {
					want = ""
				}
				if s, ok := impl.TreeGraft(a, k, b); ok != fits || s != want {
					t.Errorf("TreeGraft(%q, %d, %q) returned %q and %v", a, k, b, s, ok)
				}
			}
		}
	}
}

func TestTreeGraftFails(t *testing.T) {
	fails := func(a string, k int, b string) {
		if s, ok := impl.TreeGraft(a, k, b); ok || s != "" {
			t.Errorf("TreeGraft(%q, %d, %q) returned %q and %v", short(a), k, short(b), s, ok)
		}
	}
	for _, s := range noTrees() {
		fails(s, 0, "*")
		fails(s, 0, "(a *)")
		fails("*", 0, s)
		fails("(a * *)", 1, s)
		fails(s, 0, s)
	}
	for _, a := range edgeTrees() {
		for _, k := range noIndexes(leafCount(a)) {
			fails(a, k, "*")
			fails(a, k, "(a *)")
		}
	}
	fails(twelveLeaves, 0, "(a * *)")
	fails(twelveLeaves, 11, "(a * *)")
	fails("(a * *)", 0, twelveLeaves)
	fails("(a * *)", 1, comb(11))
	fails(chain(16, "*"), 0, "(a *)")
	fails("(a *)", 0, chain(16, "*"))
	fails(sixLeaves, 3, graftText(sixLeaves, 0, "(a * *)")+")")
	fails(graftText(sixLeaves, 5, "(a * *)"), 6, sixLeaves+" ")
	fails(graftText(sixLeaves, 5, "(a * *)"), 6, graftText(sixLeaves, 0, "(a * *)"))
}

func TestTreeWholeTold(t *testing.T) {
	for _, x := range []struct {
		a    string
		list []string
		s    string
	}{
		{"*", []string{"*"}, "*"},
		{"*", []string{"(a *)"}, "(a *)"},
		{"(a *)", []string{"(b * *)"}, "(a (b * *))"},
		{"(a * *)", []string{"(b *)", "*"}, "(a (b *) *)"},
		{"(a * *)", []string{"*", "(b *)"}, "(a * (b *))"},
		{"(a * *)", []string{"(b * *)", "(c *)"}, "(a (b * *) (c *))"},
		{"(a (b * *) *)", []string{"(c *)", "(d *)", "(e *)"}, "(a (b (c *) (d *)) (e *))"},
		{sixLeaves, []string{"(a *)", "(b *)", "(c *)", "(d *)", "(e *)", "(f *)"}, "(h (a *) (b *) (c *) (d *) (e *) (f *))"},
		{"(a * *)", []string{"(b * * * * * *)", "(c * * * * * *)"}, twelveLeaves},
		{"(a * *)", []string{chain(8, "*"), chain(7, "*")}, "(a " + chain(8, "*") + " " + chain(7, "*") + ")"},
	} {
		given := slices.Clone(x.list)
		if s, ok := impl.TreeWhole(x.a, x.list); !ok || s != x.s {
			t.Errorf("TreeWhole(%q, %q) returned %q and %v", x.a, x.list, s, ok)
		}
		if !slices.Equal(given, x.list) {
			t.Errorf("TreeWhole(%q, %q) left %q", x.a, given, x.list)
		}
	}
}

func TestTreeWholeFails(t *testing.T) {
	fails := func(a string, list ...string) {
		if s, ok := impl.TreeWhole(a, list); ok || s != "" {
			t.Errorf("TreeWhole(%q, %d trees) returned %q and %v", short(a), len(list), s, ok)
		}
	}
	for _, s := range noTrees() {
		fails(s)
		fails(s, "*")
		fails(s, slices.Repeat([]string{"*"}, leafCount(s))...)
		fails("*", s)
		fails("(a * *)", s, "*")
		fails("(a * *)", "*", s)
	}
	for _, a := range edgeTrees() {
		for _, n := range []int{0, leafCount(a) - 1, leafCount(a) + 1, leafCount(a) + 2, 2 * leafCount(a), 100000} {
			fails(a, slices.Repeat([]string{"*"}, n)...)
			fails(a, slices.Repeat([]string{"(a *)"}, n)...)
		}
	}
	fails("*", "*", "no tree")
	fails("(a * *)", sixLeaves, graftText(sixLeaves, 0, "(a * *)"))
	fails("(a * *)", graftText(sixLeaves, 5, "(a * *)"), sixLeaves)
	fails("(a * *)", chain(8, "*"), chain(8, "*"))
	fails(twelveLeaves, slices.Repeat([]string{twelveLeaves}, 12)...)
	fails(twelveLeaves, slices.Repeat([]string{chain(16, "*")}, 12)...)
}

func TestTreeMirrorTold(t *testing.T) {
	for _, x := range [][2]string{
		{"*", "*"},
		{"(a *)", "(a *)"},
		{"(a (b *) *)", "(a * (b *))"},
		{"(a (b (c *) *) * (d *))", "(a (d *) * (b * (c *)))"},
		{"(h (a *) (b *) (c *) (d *) (e *) (f *))", "(h (f *) (e *) (d *) (c *) (b *) (a *))"},
		{twelveLeaves, "(a (c * * * * * *) (b * * * * * *))"},
	} {
		if s, ok := impl.TreeMirror(x[0]); !ok || s != x[1] {
			t.Errorf("TreeMirror(%q) returned %q and %v", x[0], s, ok)
		}
	}
	for _, s := range treesUpTo(3) {
		if u, ok := impl.TreeMirror(s); !ok || u != mirrorText(s) {
			t.Errorf("TreeMirror(%q) returned %q and %v", s, u, ok)
		}
	}
}

func TestTreePartAndCutTold(t *testing.T) {
	for _, x := range []struct {
		s          string
		k          int
		rest, part string
		leaf       int
	}{
		{"(a *)", 0, "*", "(a *)", 0},
		{"(a (b *) *)", 0, "*", "(a (b *) *)", 0},
		{"(a (b *) *)", 1, "(a * *)", "(b *)", 0},
		{"(a * (b *))", 1, "(a * *)", "(b *)", 1},
		{"(a (b * *) (c * *))", 1, "(a * (c * *))", "(b * *)", 0},
		{"(a (b * *) (c * *))", 2, "(a (b * *) *)", "(c * *)", 2},
		{"(a (b (c *) *) * (d *))", 2, "(a (b * *) * (d *))", "(c *)", 0},
		{"(a (b (c *) *) * (d *))", 3, "(a (b (c *) *) * *)", "(d *)", 3},
		{twelveLeaves, 2, "(a (b * * * * * *) *)", "(c * * * * * *)", 6},
		{chain(16, "*"), 15, strings.Replace(chain(16, "*"), "(a *)", "*", 1), "(a *)", 0},
		{comb(11), 10, strings.Replace(comb(11), "(h * *)", "*", 1), "(h * *)", 10},
	} {
		if part, ok := impl.TreePart(x.s, x.k); !ok || part != x.part {
			t.Errorf("TreePart(%q, %d) returned %q and %v", x.s, x.k, part, ok)
		}
		rest, part, leaf, ok := impl.TreeCut(x.s, x.k)
		if !ok || rest != x.rest || part != x.part || leaf != x.leaf {
			t.Errorf("TreeCut(%q, %d) returned %q, %q, %d and %v", x.s, x.k, rest, part, leaf, ok)
		}
	}
}

func TestTreePartAndCutAgainstTexts(t *testing.T) {
	for _, s := range treesUpTo(3) {
		for k := range nodeCount(s) {
			from, to := partText(s, k)
			if part, ok := impl.TreePart(s, k); !ok || part != s[from:to] {
				t.Errorf("TreePart(%q, %d) returned %q and %v", s, k, part, ok)
			}
			rest, part, leaf, ok := impl.TreeCut(s, k)
			if !ok || rest != s[:from]+"*"+s[to:] || part != s[from:to] || leaf != leafCount(s[:from]) {
				t.Errorf("TreeCut(%q, %d) returned %q, %q, %d and %v", s, k, rest, part, leaf, ok)
			}
		}
	}
}

func TestTreePathsTold(t *testing.T) {
	for _, x := range []struct {
		s    string
		list []string
	}{
		{"*", []string{""}},
		{"(a *)", []string{"a"}},
		{"(a (b *) *)", []string{"ab", "a"}},
		{"(a * (b (c * *) *))", []string{"a", "abc", "abc", "ab"}},
		{"(a (a *) (h (a *) *))", []string{"aa", "aha", "ah"}},
		{sixLeaves, []string{"h", "h", "h", "h", "h", "h"}},
		{twelveLeaves, append(slices.Repeat([]string{"ab"}, 6), slices.Repeat([]string{"ac"}, 6)...)},
		{chain(16, "*"), []string{"hgfedcbahgfedcba"}},
	} {
		if list, ok := impl.TreePaths(x.s); !ok || !slices.Equal(list, x.list) {
			t.Errorf("TreePaths(%q) returned %q and %v", x.s, list, ok)
		}
	}
	for _, s := range treesUpTo(3) {
		if list, ok := impl.TreePaths(s); !ok || !slices.Equal(list, pathTexts(s)) {
			t.Errorf("TreePaths(%q) returned %q and %v", s, list, ok)
		}
	}
}

func TestTreePathsSharesNothing(t *testing.T) {
	first, _ := impl.TreePaths("(a (b *) *)")
	second, _ := impl.TreePaths("(a (b *) *)")
	first = append(first[:1], "x", "y")
	first[0] = "z"
	if third, ok := impl.TreePaths("(a (b *) *)"); !ok || !slices.Equal(third, []string{"ab", "a"}) || !slices.Equal(second, third) {
		t.Errorf("behind a change of one result, TreePaths has returned %q and %q", second, third)
	}
}

// TestTreeOfNoTree asks all functions of one text for texts that are no tree.
func TestTreeOfNoTree(t *testing.T) {
	for _, s := range noTrees() {
		if n := impl.TreeLeaves(s); n != -1 {
			t.Errorf("TreeLeaves(%q) is %d", short(s), n)
		}
		if n := impl.TreeNodes(s); n != -1 {
			t.Errorf("TreeNodes(%q) is %d", short(s), n)
		}
		if n := impl.TreeDepth(s); n != -1 {
			t.Errorf("TreeDepth(%q) is %d", short(s), n)
		}
		if u, ok := impl.TreeMirror(s); ok || u != "" {
			t.Errorf("TreeMirror(%q) returned %q and %v", short(s), u, ok)
		}
		if list, ok := impl.TreePaths(s); ok || len(list) != 0 {
			t.Errorf("TreePaths(%q) returned %q and %v", short(s), list, ok)
		}
		for _, k := range []int{-1, 0, 1} {
			failsPartAndCut(t, s, k)
		}
	}
}

func TestTreePartAndCutOfNoNode(t *testing.T) {
	for _, s := range treesUpTo(2) {
		for _, k := range noIndexes(nodeCount(s)) {
			failsPartAndCut(t, s, k)
		}
	}
}

func failsPartAndCut(t *testing.T, s string, k int) {
	t.Helper()
	if part, ok := impl.TreePart(s, k); ok || part != "" {
		t.Errorf("TreePart(%q, %d) returned %q and %v", short(s), k, part, ok)
	}
	if rest, part, leaf, ok := impl.TreeCut(s, k); ok || rest != "" || part != "" || leaf != 0 {
		t.Errorf("TreeCut(%q, %d) returned %q, %q, %d and %v", short(s), k, rest, part, leaf, ok)
	}
}
