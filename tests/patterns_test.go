package tests

import (
	"slices"
	"testing"

	"loop.example/operadtrees/impl"
)

// What the functions of chapter 4 return, for each kind of argument. They are
// compared with what the ways to the nodes tell in patterns_promises_test.go.

// placeAt returns a place, with what is at the leaves of the pattern there.
func placeAt(node int, parts ...string) impl.Place {
	return impl.Place{Node: node, Parts: parts}
}

func TestPatternPlacesTold(t *testing.T) {
	sixteen, twelve := chainOf("a", 16, "*"), slices.Repeat([]string{"*"}, 12)
	for _, x := range []struct {
		pattern, s string
		places     []impl.Place
	}{
		// The pattern is the whole tree, or greater, or its parts are leaves.
		{"(a *)", "(a *)", []impl.Place{placeAt(0, "*")}},
		{"(a * *)", "(a * *)", []impl.Place{placeAt(0, "*", "*")}},
		{"(a (b *) (c *))", "(a (b *) (c *))", []impl.Place{placeAt(0, "*", "*")}},
		{"(a (b *) (c *))", "(a (b *) *)", nil},
		{"(a (b *) *)", "(a (b *) (c *))", []impl.Place{placeAt(0, "*", "(c *)")}},
		{twelveLeaves, twelveLeaves, []impl.Place{placeAt(0, twelve...)}},
		{sixteen, sixteen, []impl.Place{placeAt(0, "*")}},
		{chainOf("a", 15, "*"), sixteen, []impl.Place{placeAt(0, "(a *)"), placeAt(1, "*")}},
		// No pattern stands in a leaf.
		{"(a *)", "*", nil},
		{"(a * *)", "*", nil},
		// Letters and arities tell nodes apart.
		{"(a *)", "(b *)", nil},
		{"(a *)", "(a * *)", nil},
		{"(a * *)", "(a *)", nil},
		{"(a * *)", "(b (a *) (b * *))", nil},
		{"(a * *)", "(a * * *)", nil},
		{"(a * * *)", "(a * *)", nil},
		{"(a (a * *) *)", "(a * (a * *))", nil},
		// Places are in the order of the nodes, also within each other.
		{"(a * *)", "(a (a * *) *)", []impl.Place{placeAt(0, "(a * *)", "*"), placeAt(1, "*", "*")}},
		{"(a *)", "(a (a (a *)))", []impl.Place{placeAt(0, "(a (a *))"), placeAt(1, "(a *)"), placeAt(2, "*")}},
		{"(a (a *))", "(a (a (a *)))", []impl.Place{placeAt(0, "(a *)"), placeAt(1, "*")}},
		{"(b *)", "(a (b *) (c (b (b *)) *) *)", []impl.Place{placeAt(1, "*"), placeAt(3, "(b *)"), placeAt(4, "*")}},
		{"(c * *)", "(a (b *) (c (b (b *)) *) *)", []impl.Place{placeAt(2, "(b (b *))", "*")}},
		{"(a * (b *) *)", "(a (a * (b *) *) (b (c * *)) (d *))", []impl.Place{placeAt(0, "(a * (b *) *)", "(c * *)", "(d *)"), placeAt(1, "*", "*", "*")}},
		{"(g * * * * *)", "(d (a * * * * *) * (b (c * * * * * *)))", nil},
	} {
		places, ok := impl.PatternPlaces(x.pattern, x.s)
		if !ok || !slices.EqualFunc(places, x.places, samePlace) {
			t.Errorf("PatternPlaces(%q, %q) returned %v and %v", x.pattern, x.s, places, ok)
		}
		if in := impl.PatternIn(x.pattern, x.s); in != (len(x.places) > 0) {
			t.Errorf("PatternIn(%q, %q) is %v", x.pattern, x.s, in)
		}
		if free := impl.PatternFree([]string{"(h (h *) (h *))", x.pattern}, x.s); free != (len(x.places) == 0) {
			t.Errorf("PatternFree of %q is %v for %q", x.pattern, free, x.s)
		}
	}
}

func TestPatternPlacesFail(t *testing.T) {
	fails := func(pattern, s string) {
		t.Helper()
		if places, ok := impl.PatternPlaces(pattern, s); ok || len(places) != 0 {
			t.Errorf("PatternPlaces(%q, %q) returned %v and %v", short(pattern), short(s), places, ok)
		}
		if impl.PatternIn(pattern, s) {
			t.Errorf("PatternIn(%q, %q) holds", short(pattern), short(s))
		}
	}
	for _, p := range noPatterns() {
		for _, s := range []string{"*", "(a *)", "(a * *)", twelveLeaves, p} {
			fails(p, s)
		}
	}
	for _, s := range noTrees() {
		for _, p := range []string{"(a *)", "(a * *)", "(h * * *)", sixLeaves, "*"} {
			fails(p, s)
		}
	}
}

func TestPatternPutTold(t *testing.T) {
	fourteen := chainOf("a", 14, "*")
	for _, x := range []struct {
		pattern, s string
		node       int
		by, result string
	}{
		{"(a *)", "(a *)", 0, "*", "*"},
		{"(a *)", "(a *)", 0, "(b *)", "(b *)"},
		{"(a *)", "(a (b * *))", 0, "*", "(b * *)"},
		{"(a *)", "(b * (a (c * *)))", 1, "*", "(b * (c * *))"},
		{"(a *)", "(b * (a (c * *)))", 1, "(d (e *))", "(b * (d (e (c * *))))"},
		{"(a *)", "(a (a (a *)))", 1, "(b *)", "(a (b (a *)))"},
		{"(a *)", "(a (a (a *)))", 2, "*", "(a (a *))"},
		{"(a (a *))", "(a (a (a *)))", 0, "(b *)", "(b (a *))"},
		{"(a (a *))", "(a (a (a *)))", 1, "(b *)", "(a (b *))"},
		{"(a * *)", "(a (b *) (c *))", 0, "(d * *)", "(d (b *) (c *))"},
		{"(a (a * *) *)", "(a (a (b *) (c *)) (d *))", 0, "(a * (a * *))", "(a (b *) (a (c *) (d *)))"},
		{"(a (a * *) *)", "(e * (a (a (b *) (c *)) (d *)) (f *))", 1, "(a * (a * *))", "(e * (a (b *) (a (c *) (d *))) (f *))"},
		{"(a * * *)", "(b (a * * *) (a * * (c *)))", 2, "(a * (a (a * *)))", "(b (a * * *) (a * (a (a * (c *)))))"},
		{twelveLeaves, twelveLeaves, 0, combOf("a", 11), combOf("a", 11)},
		{"(a *)", fourteen, 13, "(a (b (c *)))", chainOf("a", 13, "(a (b (c *)))")},
		{"(a *)", fourteen, 0, "(a (b (c *)))", "(a (b (c " + chainOf("a", 13, "*") + ")))"},
	} {
		if s, ok := impl.PatternPut(x.pattern, x.s, x.node, x.by); !ok || s != x.result {
			t.Errorf("PatternPut(%q, %q, %d, %q) returned %q and %v", x.pattern, x.s, x.node, x.by, s, ok)
		}
	}
}

func TestPatternPutFails(t *testing.T) {
	fails := func(pattern, s string, node int, by string) {
		t.Helper()
		if u, ok := impl.PatternPut(pattern, s, node, by); ok || u != "" {
			t.Errorf("PatternPut(%q, %q, %d, %q) returned %q and %v", short(pattern), short(s), node, short(by), u, ok)
		}
	}
	for _, u := range noTrees() {
		fails(u, "(a * *)", 0, "(b * *)")
		fails("(a * *)", u, 0, "(b * *)")
		fails("(a * *)", "(a * *)", 0, u)
		fails("(a *)", "(a * *)", 0, u)
		fails(u, u, 0, u)
	}
	// A leaf is no pattern, although it has as many leaves as another leaf.
	fails("*", "*", 0, "*")
	fails("*", "(a *)", 0, "*")
	fails("*", "(a *)", 0, "(b *)")
	fails("*", "(a *)", 1, "(b *)")
	for _, node := range noIndexes(2) {
		fails("(a *)", "(a (a *))", node, "(b *)")
		fails("(a *)", "*", node-2, "(b *)")
		fails("(a * *)", "(a (a * *) *)", node, "(a * *)")
	}
	for _, by := range []string{"*", "(a *)", "(a * * *)", "(a (b * *) *)", "(a * (a *) (a *))", sixLeaves, twelveLeaves} {
		fails("(a * *)", "(a * *)", 0, by)
		fails("(a * *)", "(b (a * *) *)", 1, by)
		fails("(a (b *) *)", "(a (b *) *)", 0, by)
	}
	for _, x := range []string{"(b * *)", "(a *)", "(a * * *)", "(a (b * *) *)", "*"} {
		fails("(a (a * *) *)", x, 0, "(b * * *)")
		fails("(a (a * *) *)", graftText("(b * *)", 1, x), 1, "(b * * *)")
	}
	// The pattern stands elsewhere, and not at this node.
	fails("(a *)", "(b (a *))", 0, "(c *)")
	fails("(a *)", "(a (b *))", 1, "(c *)")
	fails("(b *)", "(a (b *) *)", 0, "*")
}

func TestPatternPutTooLarge(t *testing.T) {
	for nodes := 1; nodes <= 16; nodes++ {
		for _, more := range []int{1, 2, 5, 16} {
			by := chainOf("b", more, "*")
			s := chainOf("a", nodes, "*")
			fits := nodes-1+more <= 16
			for node := range nodes {
				want := ""
				if fits {
					want = chainOf("a", node, chainOf("b", more, chainOf("a", nodes-1-node, "*")))
				}
				if u, ok := impl.PatternPut("(a *)", s, node, by); ok != fits || u != want {
					t.Errorf("PatternPut(%q, %q, %d, %q) returned %q and %v", "(a *)", s, node, by, u, ok)
				}
			}
		}
	}
	great := chainOf("c", 5, combOf("a", 11))
	if u, ok := impl.PatternPut("(a * *)", great, 7, "(b * *)"); !ok || nodeCount(u) != 16 || leafCount(u) != 12 {
		t.Errorf("PatternPut in %q returned %q and %v", great, u, ok)
	}
	if u, ok := impl.PatternPut("(a * *)", great, 7, "(b (b * *))"); ok || u != "" {
		t.Errorf("PatternPut in %q returned %q and %v", great, u, ok)
	}
}

func TestPatternJoinTold(t *testing.T) {
	left, right := "(a (a * *) *)", "(a * (a * *))"
	for _, x := range []struct {
		p, q string
		v    int
		s    string
	}{
		// Joined at the outside, each may be greater than the other one, or both at once.
		{"(a *)", "(a *)", 0, "(a *)"},
		{left, left, 0, left},
		{left, right, 0, "(a (a * *) (a * *))"},
		{right, left, 0, "(a (a * *) (a * *))"},
		{"(a * *)", left, 0, left},
		{left, "(a * *)", 0, left},
		{twelveLeaves, "(a * *)", 0, twelveLeaves},
		{"(a * *)", twelveLeaves, 0, twelveLeaves},
		{"(a (b (c *)))", "(a *)", 0, "(a (b (c *)))"},
		{"(a (b *) * (b (c *)))", "(a (b (d *)) (e * *) (b *))", 0, "(a (b (d *)) (e * *) (b (c *)))"},
		// Joined inside, p may be all within q, or be greater.
		{left, left, 1, "(a (a (a * *) *) *)"},
		{right, right, 1, "(a * (a * (a * *)))"},
		{left, right, 1, "(a * (a (a * *) *))"},
		{right, left, 1, "(a (a * (a * *)) *)"},
		{"(a * *)", left, 1, left},
		{"(a *)", "(a (a (a *)))", 2, "(a (a (a *)))"},
		{"(a (a *))", "(a (a (a *)))", 1, "(a (a (a *)))"},
		{"(a (a *))", "(a (a (a *)))", 2, "(a (a (a (a *))))"},
		{"(a (a (a *)))", "(a (a *))", 0, "(a (a (a *)))"},
		{"(a (a (a *)))", "(a (a *))", 1, "(a (a (a (a *))))"},
		{"(b (c *) *)", "(a * (b * (d *)) (b (c *) *))", 1, "(a * (b (c *) (d *)) (b (c *) *))"},
		{"(b * (d *))", "(a * (b * *) (b (c *) *))", 2, "(a * (b * *) (b (c *) (d *)))"},
		{"(c *)", "(a (b (c *)) (c * *) (c *))", 2, "(a (b (c *)) (c * *) (c *))"},
		{"(c *)", "(a (b (c *)) (c * *) (c *))", 4, "(a (b (c *)) (c * *) (c *))"},
	} {
		if s, ok := impl.PatternJoin(x.p, x.q, x.v); !ok || s != x.s {
			t.Errorf("PatternJoin(%q, %q, %d) returned %q and %v", x.p, x.q, x.v, s, ok)
		}
	}
}

func TestPatternJoinFails(t *testing.T) {
	fails := func(p, q string, v int) {
		t.Helper()
		if s, ok := impl.PatternJoin(p, q, v); ok || s != "" {
			t.Errorf("PatternJoin(%q, %q, %d) returned %q and %v", short(p), short(q), v, s, ok)
		}
	}
	for _, u := range noPatterns() {
		for _, p := range []string{"(a *)", "(a * *)", "(h * * *)", "*"} {
			fails(u, p, 0)
			fails(p, u, 0)
			fails(p, u, 1)
		}
		fails(u, u, 0)
	}
	for _, v := range noIndexes(2) {
		fails("(a *)", "(a (a *))", v)
		fails("(a (a *))", "(a (a *))", v)
	}
	for _, x := range []struct {
		p, q string
		v    int
	}{
		{"(a *)", "(b *)", 0},
		{"(a *)", "(a * *)", 0},
		{"(a * *)", "(a *)", 0},
		{"(a (b *) *)", "(a (c *) *)", 0},
		{"(a (b *) *)", "(a (b * *) *)", 0},
		{"(a * (b *))", "(a (b *) (b * *))", 0},
		{"(a (b (c *)) *)", "(a (b (d *)) *)", 0},
		{"(a *)", "(b (c *))", 1},
		{"(c *)", "(b (c *))", 0},
		{"(c (b *))", "(b (c (c *)))", 1},
		{"(a * *)", "(a (a *) *)", 1},
	} {
		fails(x.p, x.q, x.v)
	}
}

func TestPatternJoinTooLarge(t *testing.T) {
	for n := 1; n <= 16; n++ {
		for m := 1; m <= 16; m++ {
			for v := range m {
				joined := max(m, v+n)
				want := ""
				if joined <= 16 {
					want = chainOf("a", joined, "*")
				}
				p, q := chainOf("a", n, "*"), chainOf("a", m, "*")
				if s, ok := impl.PatternJoin(p, q, v); ok != (joined <= 16) || s != want {
					t.Errorf("PatternJoin(%q, %q, %d) returned %q and %v", p, q, v, s, ok)
				}
				if n > 11 || m > 11 {
					continue
				}
				want = ""
				if joined <= 11 {
					want = combOf("b", joined)
				}
				p, q = combOf("b", n), combOf("b", m)
				if s, ok := impl.PatternJoin(p, q, v); ok != (joined <= 11) || s != want {
					t.Errorf("PatternJoin(%q, %q, %d) returned %q and %v", p, q, v, s, ok)
				}
			}
		}
	}
	// At the outside, both have fewer leaves than they have together.
	for _, x := range []struct {
		p, q, s string
	}{
		{"(a (b * * * * * *) *)", "(a * (c * * * * * *))", twelveLeaves},
		{"(a (b * * * * * *) * *)", "(a * (c * * * * * *) *)", ""},
	} {
		if s, ok := impl.PatternJoin(x.p, x.q, 0); ok != (x.s != "") || s != x.s {
			t.Errorf("PatternJoin(%q, %q, 0) returned %q and %v", x.p, x.q, s, ok)
		}
	}
}

func TestPatternAllTold(t *testing.T) {
	left, right := "(a (a * *) *)", "(a * (a * *))"
	sixteen, comb := chainOf("a", 16, "*"), combOf("a", 11)
	for _, x := range []struct {
		p, q string
		list []string
	}{
		// That at node 0 is left out only if both are the same.
		{"(a *)", "(a *)", nil},
		{left, left, []string{"(a (a (a * *) *) *)"}},
		{right, right, []string{"(a * (a * (a * *)))"}},
		{left, right, []string{"(a (a * *) (a * *))", "(a * (a (a * *) *))"}},
		{right, left, []string{"(a (a * *) (a * *))", "(a (a * (a * *)) *)"}},
		{"(a * *)", left, []string{left, left}},
		{left, "(a * *)", []string{left}},
		{"(a (a (a *)))", "(a (a (a *)))", []string{"(a (a (a (a *))))", "(a (a (a (a (a *)))))"}},
		{"(a (a *))", "(a (a (a *)))", []string{"(a (a (a *)))", "(a (a (a *)))", "(a (a (a (a *))))"}},
		{"(a (b *) *)", "(a (b *) *)", nil},
		{"(a * (a *))", "(a (b *) (a * *))", []string{"(a (b *) (a * (a *)))"}},
		// Nothing fits, or what is joined is too large.
		{"(a *)", "(b *)", nil},
		{"(a *)", "(a * *)", nil},
		{sixteen, sixteen, nil},
		{comb, comb, nil},
		{sixteen, chainOf("a", 15, "*"), []string{sixteen}},
		{chainOf("a", 15, "*"), sixteen, []string{sixteen, sixteen}},
		{"(a * *)", comb, slices.Repeat([]string{comb}, 11)},
		{"(a * (a * *))", comb, slices.Repeat([]string{comb}, 10)},
		{"(a *)", sixteen, slices.Repeat([]string{sixteen}, 16)},
		{twelveLeaves, "(a * *)", []string{twelveLeaves}},
		{"(c * * * * * *)", twelveLeaves, []string{twelveLeaves}},
	} {
		if list, ok := impl.PatternAll(x.p, x.q); !ok || !slices.Equal(list, x.list) {
			t.Errorf("PatternAll(%q, %q) returned %q and %v", x.p, x.q, list, ok)
		}
	}
}

func TestPatternAllFails(t *testing.T) {
	for _, u := range noPatterns() {
		for _, pair := range [][2]string{{u, "(a *)"}, {"(a *)", u}, {u, u}, {u, "*"}, {"*", u}, {u, "(a * *)"}, {twelveLeaves, u}} {
			if list, ok := impl.PatternAll(pair[0], pair[1]); ok || len(list) != 0 {
				t.Errorf("PatternAll(%q, %q) returned %q and %v", short(pair[0]), short(pair[1]), list, ok)
			}
		}
	}
}

// twentyPatterns returns 20 patterns, none of which stands in trees of a alone
// that have no more than two trees in a node.
func twentyPatterns() []string {
	list := []string{"(a * * *)", "(a * * * *)", "(a (b *))", "(a * (b *))"}
	for _, letter := range "bcdefghb" {
		list = append(list, "("+string(letter)+" *)", "("+string(letter)+" * *)")
	}
	return list
}

func TestPatternFreeTold(t *testing.T) {
	many := twentyPatterns()
	for _, s := range []string{"*", "(a *)", "(a * *)", combOf("a", 11), chainOf("a", 16, "*")} {
		if !impl.PatternFree(nil, s) || !impl.PatternFree([]string{}, s) {
			t.Errorf("PatternFree does not hold for no patterns at all and %q", s)
		}
		if !impl.PatternFree(many, s) {
			t.Errorf("PatternFree does not hold for 20 patterns and %q", s)
		}
		for i := range many {
			other := slices.Clone(many)
			other[i] = "(a *)"
			if impl.PatternFree(other, s) == (s == "(a *)" || nodeCount(s) == 16) {
				t.Errorf("PatternFree(%q, %q) is wrong", other, s)
			}
		}
	}
	if !impl.PatternFree([]string{twelveLeaves, chainOf("a", 16, "*")}, combOf("a", 11)) || impl.PatternFree([]string{twelveLeaves}, chain(13, twelveLeaves)) {
		t.Error("PatternFree is wrong for great trees")
	}
}

func TestPatternFreeFails(t *testing.T) {
	many := twentyPatterns()
	for _, s := range []string{"*", "(a *)", combOf("a", 11)} {
		for _, more := range []string{"(b *)", "(a * * *)", many[0], "*", "", twelveLeaves} {
			if impl.PatternFree(append(slices.Clone(many), more), s) {
				t.Errorf("PatternFree holds for 21 patterns, the last one %q, and %q", more, s)
			}
		}
		if impl.PatternFree(slices.Repeat([]string{"(b *)"}, 100000), s) {
			t.Errorf("PatternFree holds for 100000 patterns and %q", s)
		}
	}
	for _, u := range noPatterns() {
		for _, list := range [][]string{{u}, {"(b *)", u}, {u, "(b *)"}, append(slices.Clone(many[:19]), u)} {
			for _, s := range []string{"*", "(a *)", u} {
				if impl.PatternFree(list, s) {
					t.Errorf("PatternFree holds for %d patterns with %q, and %q", len(list), short(u), short(s))
				}
			}
		}
	}
	for _, s := range noTrees() {
		if impl.PatternFree(nil, s) || impl.PatternFree([]string{"(b *)"}, s) || impl.PatternFree(many, s) {
			t.Errorf("PatternFree holds for %q", short(s))
		}
	}
}

func TestPatternListTold(t *testing.T) {
	left, right := "(a (a * *) *)", "(a * (a * *))"
	for _, x := range []struct {
		list          []string
		symbols       string
		leaves, nodes int
		trees         []string
	}{
		{nil, "a2", 3, 2, []string{right, left}},
		{[]string{left}, "a2", 3, 2, []string{right}},
		{[]string{right}, "a2", 3, 2, []string{left}},
		{[]string{left, right}, "a2", 3, 2, nil},
		{[]string{left}, "a2", 5, 4, []string{combOf("a", 4)}},
		{[]string{left}, "a2", 7, 8, []string{combOf("a", 6)}},
		{[]string{"(a * *)"}, "a2", 1, 8, []string{"*"}},
		{[]string{"(a * *)"}, "a2", 2, 8, nil},
		{[]string{"(b * *)"}, "a2", 3, 8, []string{right, left}},
		{[]string{"(a * *)"}, "a2b2", 3, 2, []string{"(b * (b * *))", "(b (b * *) *)"}},
		{[]string{"(a (a *))"}, "a1", 1, 8, []string{"*", "(a *)"}},
		{[]string{"(a (a *))", "(b *)"}, "b1a1", 1, 3, []string{"*", "(a *)"}},
		{[]string{"(a (b *))", "(b (b *))", "(a (a *))"}, "a1b1", 1, 7, []string{"*", "(a *)", "(b *)", "(b (a *))"}},
		{[]string{"(a *)"}, "", 1, 0, []string{"*"}},
		{[]string{"(a *)"}, "", 2, 5, nil},
		{twentyPatterns(), "a2b2", 3, 2, []string{right, left}},
		{twentyPatterns(), "b1c2", 1, 2, []string{"*"}},
	} {
		trees, ok := impl.PatternList(x.list, sign(x.symbols), x.leaves, x.nodes)
		if !ok || !slices.Equal(trees, x.trees) {
			t.Errorf("PatternList(%q, %q, %d, %d) returned %q and %v", x.list, x.symbols, x.leaves, x.nodes, trees, ok)
		}
	}
}

func TestPatternListFails(t *testing.T) {
	fails := func(list []string, symbols []impl.Symbol, leaves, nodes int) {
		t.Helper()
		if trees, ok := impl.PatternList(list, symbols, leaves, nodes); ok || len(trees) != 0 {
			t.Errorf("PatternList of %d patterns, for %d symbols, %d and %d, returned %q and %v", len(list), len(symbols), leaves, nodes, trees, ok)
		}
	}
	many := twentyPatterns()
	for _, more := range []string{"(b *)", many[0], "*", twelveLeaves} {
		fails(append(slices.Clone(many), more), sign("a2"), 3, 2)
	}
	for _, u := range noPatterns() {
		for _, list := range [][]string{{u}, {"(b *)", u}, {u, "(a * *)"}, append(slices.Clone(many[:19]), u)} {
			fails(list, sign("a2"), 3, 2)
			// No tree is there that the text could stand in.
			fails(list, sign("a2"), 2, 0)
			fails(list, nil, 1, 0)
		}
	}
	for _, symbols := range noSigns() {
		fails(nil, symbols, 3, 2)
		fails([]string{"(a * *)"}, symbols, 1, 0)
	}
	for _, n := range append(noIndexes(9), 0) {
		fails(nil, sign("a2"), n, 2)
		fails([]string{"(a * *)"}, sign("a2"), n, 0)
		if n != 0 {
			fails([]string{"(a * *)"}, sign("a2"), 1, n)
			fails(nil, nil, 1, n)
		}
	}
	// TreeList has more than 400 trees, although few of them are free.
	for _, list := range [][]string{nil, {"(a * *)"}, {"(a (a * *) *)"}, many} {
		fails(list, sign("a2"), 8, 7)
		fails(list, sign("a2b2"), 6, 5)
		fails(list, sign("a1b1"), 1, 8)
	}
}

func TestPatternsShareNothing(t *testing.T) {
	list := []string{"(a (a * *) *)", "(b *)", "(c *)"}
	symbols := sign("a2b1")
	trees, _ := impl.PatternList(list[:2:3], symbols, 4, 3)
	want := slices.Clone(trees)
	if len(trees) == 0 {
		t.Fatal("PatternList has no trees")
	}
	trees[0] = "x"
	again, _ := impl.PatternList(list[:2:3], symbols, 4, 3)
	if !slices.Equal(again, want) {
		t.Errorf("PatternList returned %q, and then %q", want, again)
	}
	impl.PatternFree(list[:2:3], "(a * *)")
	if !slices.Equal(list, []string{"(a (a * *) *)", "(b *)", "(c *)"}) || !slices.Equal(symbols, sign("a2b1")) {
		t.Errorf("the arguments have become %q and %v", list, symbols)
	}
	all, _ := impl.PatternAll("(a (a *))", "(a (a (a *)))")
	all[0] = "x"
	if once, _ := impl.PatternAll("(a (a *))", "(a (a (a *)))"); once[0] != "(a (a (a *)))" {
		t.Errorf("PatternAll returned %q", once)
	}
}

func TestPlacesShareNothing(t *testing.T) {
	const pattern, s = "(a * *)", "(a (a (b *) *) (a * *))"
	want := mustPlaces(t, pattern, s)
	places := mustPlaces(t, pattern, s)
	for i := range places {
		places[i].Parts = append(places[i].Parts, "x", "y")
		places[i].Parts[0] = "z"
		for j := range places {
			if j > i && !samePlace(places[j], want[j]) {
				t.Errorf("behind a change of the place %d, the place %d is %v", i, j, places[j])
			}
		}
	}
	for i, x := range places {
		if !slices.Equal(x.Parts, []string{"z", want[i].Parts[1], "x", "y"}) {
			t.Errorf("the place %d has become %v", i, x)
		}
	}
	if again := mustPlaces(t, pattern, s); !slices.EqualFunc(again, want, samePlace) {
		t.Errorf("PatternPlaces returned %v, and then %v", want, again)
	}
}
