package tests

import (
	"slices"
	"strings"
	"testing"

	"loop.example/operadtrees/impl"
)

// What RulesOverlaps, RulesConfluent, RulesBasis and RulesMore return, for each
// kind of argument.

func TestRulesOverlapsTold(t *testing.T) {
	const inner, outer = "(a (a * (a * *)) *)", "(a (a * *) (a * *))"
	const less = "1 " + inner + ", 100 " + outer
	for _, x := range []struct{ rules, list [][]impl.Term }{
		{nil, nil},
		// One rule with itself has none at node 0.
		{rulesOf("1 (a * *)"), nil},
		{rulesOf("1 (a (b *) *)"), nil},
		{rulesOf(swap), nil},
		{rulesOf(deriv), nil},
		{rulesOf(assoc), rulesOf(less)},
		{rulesOf("3 (a (a * *) *), 98 (a * (a * *))"), rulesOf(less)},
		{rulesOf("1 (a (a * *) *), 1 (a * (a * *))"), rulesOf("100 " + inner + ", 1 " + outer)},
		{rulesOf("2 (a (a * *) *), 5 (a * (a * *))"), rulesOf("48 " + inner + ", 53 " + outer)},
		{rulesOf("7 (a (a * *) *)"), rulesOf("")},
		{rulesOf("1 (b (b *)), 100 (a *)"), rulesOf("1 (b (a *)), 100 (a (b *))")},
		{rulesOf("1 (b (b (b *))), 100 (a *)"), rulesOf("1 (b (a *)), 100 (a (b *))", "1 (b (b (a *))), 100 (a (b (b *)))")},
		{rulesOf("2 (b (b *)), 5 *"), rulesOf("")},
		// Two rules have one at node 0, with the later one as p.
		{rulesOf("1 (b *), 100 (a *)", "1 (b *), 99 *"), rulesOf("100 (a *), 2 *")},
		{rulesOf("1 (b *), 99 *", "1 (b *), 100 (a *)"), rulesOf("1 (a *), 99 *")},
		{rulesOf("3 (b *), 98 (a *)", "5 (b *), 91 *"), rulesOf("100 (a *), 2 *")},
		{rulesOf("1 (a (b *) *), 100 (a * *)", "1 (a * (c *)), 93 (a * *)"), rulesOf("8 (a (b *) *), 100 (a * (c *))")},
		{rulesOf("1 (a * (c *)), 93 (a * *)", "1 (a (b *) *), 100 (a * *)"), rulesOf("93 (a (b *) *), 1 (a * (c *))")},
		{rulesOf("1 (b *), 100 *", "1 (b (a *)), 100 (a *)"), rulesOf("")},
		{rulesOf("1 (b *), 100 (a *)", "1 (b (b *)), 100 *"), rulesOf("1 (b (a *)), 100 *", "100 (a (b *)), 1 *", "")},
		{rulesOf("1 (b (b *)), 100 *", "1 (b *), 100 (a *)"), rulesOf("", "1 (a (b *)), 100 *", "1 (b (a *)), 100 *")},
		// All are told in order: first p, then q, then the node; those that are 0, too.
		{rulesOf(assoc, "1 "+leftTree), rulesOf(less, "1 "+inner, "100 "+rightTree, "100 "+outer, "")},
		{rulesOf("1 "+leftTree, assoc), rulesOf("", "100 "+outer, "1 "+rightTree, "1 "+inner, less)},
		{rulesOf(assoc, assoc), rulesOf(less, less, "", less, less)},
		{rulesOf(deriv, "1 (c (c *))"), rulesOf("1 (c (a (c *) *)), 1 (c (a * (c *)))", "")},
		{rulesOf("1 (c (c *))", deriv), rulesOf("", "1 (c (a (c *) *)), 1 (c (a * (c *)))")},
		// A head stands in another one at two nodes.
		{rulesOf("1 (a (b *) (b *)), 100 (a * (c *))", "1 (b *), 100 *"), rulesOf("100 (a * (c *)), 1 (a * (b *))", "1 (a (b *) *), 100 (a * (c *))")},
		// There is none where what is joined is too large.
		{rulesOf("1 "+chainOf("a", 16, "*")+", 100 *", "1 (h *)"), nil},
		{rulesOf("1 "+twelveLeaves, assoc), rulesOf(less)},
	} {
		rules := cloneRules(x.rules)
		if list, ok := impl.RulesOverlaps(rules); !ok || !sameRules(list, x.list) {
			t.Errorf("RulesOverlaps(%v) returned %v and %v, not %v", x.rules, list, ok, x.list)
		}
		if !sameRules(rules, x.rules) {
			t.Errorf("RulesOverlaps(%v) left %v", x.rules, rules)
		}
	}
}

// failsOverlaps checks what is told of rules with an overlap that is no sum.
func failsOverlaps(t *testing.T, rules [][]impl.Term) {
	t.Helper()
	if !impl.RulesValid(rules) {
		t.Errorf("RulesValid of %q does not hold", shortRules(rules))
	}
	if list, ok := impl.RulesOverlaps(rules); ok || len(list) > 0 {
		t.Errorf("RulesOverlaps of %q returned %v and %v", shortRules(rules), list, ok)
	}
	if impl.RulesConfluent(rules) {
		t.Errorf("RulesConfluent of %q holds", shortRules(rules))
	}
	if list, ok := impl.RulesMore(rules); ok || len(list) > 0 {
		t.Errorf("RulesMore of %q returned %v and %v", shortRules(rules), list, ok)
	}
}

func TestRulesOverlapsOfMany(t *testing.T) {
	words := manyWords(118)
	for _, x := range []struct {
		first, second []string
		coef          int
		left          int
	}{
		{words[:30], words[30:60], 1, 60},
		{words[:1], words[1:60], 1, 60},
		{words[:31], words[30:60], 1, 59},
		{words[:31], words[30:60], 2, 60},
		{words[:40], words[20:60], 1, 40},
		{words[:59], words[:59], 1, 0},
		{words[:59], words[:59], 2, 59},
		{words[:30], words[30:61], 1, 61},
		{words[:31], words[30:61], 2, 61},
		{words[:2], words[2:61], 1, 61},
		{words[:59], words[59:118], 1, 118},
	} {
		rules := [][]impl.Term{ruleTo(1, sixteenH, wordSum(1, x.first)), ruleTo(3, sixteenH, wordSum(x.coef, x.second))}
		if x.left > 60 {
			failsOverlaps(t, rules)
			continue
		}
		list, ok := impl.RulesOverlaps(rules)
		if !ok || len(list) != 1 || len(list[0]) != x.left {
			t.Errorf("RulesOverlaps with %d terms returned %v and %v", x.left, list, ok)
		}
		if confluent := impl.RulesConfluent(rules); confluent != (x.left == 0) {
			t.Errorf("RulesConfluent with an overlap of %d terms is %v", x.left, confluent)
		}
		more, ok := impl.RulesMore(rules)
		if x.left == 0 && (!ok || !sameRules(more, rules)) || x.left > 0 && (!ok || !sameRules(more, append(rules, list[0]))) {
			t.Errorf("RulesMore with an overlap of %d terms returned %v and %v", x.left, more, ok)
		}
	}
}

func TestRulesOverlapsTooLarge(t *testing.T) {
	for nodes := 1; nodes <= 14; nodes++ {
		rules := rulesOf(grow, "5 "+chainOf("c", nodes, leftTree))
		if nodes > 11 {
			failsOverlaps(t, rules)
			continue
		}
		// The head of the first rule stands in that of the second one, and is joined to its last node.
		want := rulesOf("1 "+chainOf("c", nodes, "(a * (b (b (a * *))))"), "1 "+chainOf("c", nodes, "(a (a * (b (b (a * *)))) *)"))
		if list, ok := impl.RulesOverlaps(rules); !ok || len(list) != 3 || !sameRules(list[1:], want) {
			t.Errorf("RulesOverlaps(%v) returned %v and %v", rules, list, ok)
		}
	}
	// Both steps lead to the same tree, which is too large from 15 nodes b on, and the difference is 0.
	for nodes := 1; nodes <= 14; nodes++ {
		b := chainOf("b", nodes, "*")
		rules := rulesOf("1 (c (d * *) *), 100 (c (a * "+b+") *)", "1 (d (e *) *), 100 (a (e *) "+b+")")
		if list, ok := impl.RulesOverlaps(rules); !ok || !sameRules(list, rulesOf("")) {
			t.Errorf("RulesOverlaps(%v) returned %v and %v", rules, list, ok)
		}
		if !impl.RulesConfluent(rules) {
			t.Errorf("RulesConfluent(%v) does not hold", rules)
		}
	}
}

func TestRulesOverlapsFail(t *testing.T) {
	for _, rules := range noRules() {
		if list, ok := impl.RulesOverlaps(rules); ok || len(list) > 0 {
			t.Errorf("RulesOverlaps of %d sums, such as %q, returned %v and %v", len(rules), shortRules(rules), list, ok)
		}
	}
}

// stepsRules returns rules with one overlap, which is reduced by putting the
// letters of words in order.
func stepsRules(texts []string) [][]impl.Term {
	return append(rulesOf(swap, "1 "+sixteenH), ruleTo(5, sixteenH, wordSum(3, texts)))
}

func TestRulesConfluentFourHundredSteps(t *testing.T) {
	for _, x := range []struct {
		more  string
		steps int
	}{{"", 400}, {"ba", 401}, {"bba", 402}} {
		texts := fourHundred()
		if x.more != "" {
			texts = append(texts, x.more)
		}
		rules := stepsRules(texts)
		list, ok := impl.RulesOverlaps(rules)
		if !ok || !sameRules(list, [][]impl.Term{wordSum(3, texts)}) {
			t.Fatalf("RulesOverlaps of the words %q returned %v and %v", texts, list, ok)
		}
		sorted := wordSum(3, sortedWords(texts))
		more, ok := impl.RulesMore(rules)
		if ok != (x.steps <= 400) || ok && !sameRules(more, append(slices.Clone(rules), sorted)) || !ok && len(more) > 0 {
			t.Errorf("RulesMore in %d steps returned %v and %v", x.steps, more, ok)
		}
		if impl.RulesConfluent(rules) {
			t.Errorf("RulesConfluent holds for an overlap that is not reduced to 0 in %d steps", x.steps)
		}
		rules[1] = ruleTo(2, sixteenH, sorted)
		if confluent := impl.RulesConfluent(rules); confluent != (x.steps <= 400) {
			t.Errorf("RulesConfluent is %v for an overlap that is reduced to 0 in %d steps", confluent, x.steps)
		}
		more, ok = impl.RulesMore(rules)
		if ok != (x.steps <= 400) || ok && !sameRules(more, rules) || !ok && len(more) > 0 {
			t.Errorf("RulesMore for an overlap that is reduced to 0 in %d steps returned %v and %v", x.steps, more, ok)
		}
	}
}

func TestRulesConfluentTold(t *testing.T) {
	for _, x := range []struct {
		rules     [][]impl.Term
		confluent bool
	}{
		{nil, true},
		{rulesOf("1 (a * *)"), true},
		{rulesOf(assoc), true},
		{rulesOf("3 (a (a * *) *), 98 (a * (a * *))"), true},
		{rulesOf("3 (a (a * *) *), 97 (a * (a * *))"), false},
		{rulesOf("1 (a (a * *) *), 1 (a * (a * *))"), false},
		{rulesOf("1 (a (a * *) *), 1 (a * (a * *))", "1 "+right4), true},
		{rulesOf("2 (b (b *)), 5 *"), true},
		{rulesOf("2 (b (b *)), 5 (a *)"), false},
		{rulesOf("2 (b (b *)), 5 (a *)", swap), true},
		{rulesOf(deriv), true},
		{rulesOf(deriv, "1 (c (c *))"), false},
		{rulesOf("1 (c (c *))", deriv, "1 (a (c *) (c *))"), false},
		{rulesOf(assoc, assoc), true},
		{rulesOf(assoc, "1 "+leftTree), false},
		{rulesOf("1 "+leftTree, assoc), false},
		{rulesOf("1 "+leftTree, assoc, "1 "+rightTree), true},
		{rulesOf("1 (b *), 100 *", "1 (b *)"), false},
		{rulesOf("1 (b *), 100 *", "1 (b *), 99 *"), false},
		{slices.Repeat(rulesOf(assoc), 10), true},
		{slices.Repeat(rulesOf(assoc), 11), false},
		{tenRules(), false},
	} {
		if confluent := impl.RulesConfluent(x.rules); confluent != x.confluent {
			t.Errorf("RulesConfluent(%v) is %v", x.rules, confluent)
		}
	}
	for _, rules := range noRules() {
		if impl.RulesConfluent(rules) {
			t.Errorf("RulesConfluent of %d sums, such as %q, holds", len(rules), shortRules(rules))
		}
	}
}

func TestRulesBasisTold(t *testing.T) {
	for _, x := range []struct {
		rules         [][]impl.Term
		symbols       string
		leaves, nodes int
		trees         []string
	}{
		{nil, "a2", 3, 2, []string{rightTree, leftTree}},
		{nil, "", 1, 0, []string{"*"}},
		{rulesOf(assoc), "a2", 1, 0, []string{"*"}},
		{rulesOf(assoc), "a2", 3, 2, []string{rightTree}},
		{rulesOf(assoc), "a2", 3, 1, nil},
		{rulesOf(assoc), "a2", 7, 8, []string{combOf("a", 6)}},
		{rulesOf(assoc), "a2b2", 3, 1, nil},
		{rulesOf("100 (a * (a * *))"), "a2", 4, 3, []string{mirrorText(combOf("a", 3))}},
		{rulesOf("1 "+leftTree, "1 "+rightTree), "a2", 3, 8, nil},
		{rulesOf(assoc, "1 (b * *), 100 (a * *)"), "b2a2", 3, 2, []string{rightTree}},
		{rulesOf(swap), "a1b1", 1, 2, []string{"*", "(a *)", "(b *)", "(a (a *))", "(a (b *))", "(b (b *))"}},
		{rulesOf(swap), "b1", 1, 2, []string{"*", "(b *)", "(b (b *))"}},
		{rulesOf("1 (b *), 100 *"), "a2b1", 2, 3, []string{"(a * *)"}},
		{tenRules(), "a1b1c1", 1, 2, []string{"*", "(a *)", "(b *)", "(c *)", "(a (a *))", "(a (b *))", "(a (c *))", "(b (b *))", "(b (c *))", "(c (c *))"}},
		// Arities tell heads from other trees with their letters.
		{rulesOf(assoc), "a3", 3, 2, []string{"(a * * *)"}},
	} {
		trees, ok := impl.RulesBasis(x.rules, sign(x.symbols), x.leaves, x.nodes)
		if !ok || !slices.Equal(trees, x.trees) {
			t.Errorf("RulesBasis(%v, %q, %d, %d) returned %q and %v", x.rules, x.symbols, x.leaves, x.nodes, trees, ok)
		}
	}
}

func TestRulesBasisFails(t *testing.T) {
	fails := func(rules [][]impl.Term, symbols []impl.Symbol, leaves, nodes int) {
		t.Helper()
		if trees, ok := impl.RulesBasis(rules, symbols, leaves, nodes); ok || len(trees) > 0 {
			t.Errorf("RulesBasis of %d sums, such as %q, for %d symbols, %d and %d, returned %q and %v", len(rules), shortRules(rules), len(symbols), leaves, nodes, trees, ok)
		}
	}
	for _, rules := range noRules() {
		fails(rules, sign("a2"), 3, 2)
		fails(rules, nil, 1, 0)
	}
	for _, symbols := range noSigns() {
		fails(nil, symbols, 3, 2)
		fails(rulesOf(assoc), symbols, 1, 0)
	}
	for _, n := range append(noIndexes(9), 0) {
		fails(nil, sign("a2"), n, 2)
		fails(rulesOf(assoc), sign("a2"), n, 2)
		if n != 0 {
			fails(nil, sign("a2"), 1, n)
			fails(rulesOf(assoc), nil, 1, n)
		}
	}
	// TreeList has more than 400 trees, although few of them are in the basis.
	for _, rules := range [][][]impl.Term{nil, rulesOf(assoc), rulesOf("1 (a * *)"), rulesOf("1 (a *)")} {
		fails(rules, sign("a2"), 8, 7)
		fails(rules, sign("a1b1"), 1, 8)
	}
}

func TestRulesMoreTold(t *testing.T) {
	for _, x := range []struct {
		rules [][]impl.Term
		more  string
	}{
		{rulesOf("1 (a (a * *) *), 1 (a * (a * *))"), "99 " + right4},
		{rulesOf("2 (a (a * *) *), 2 (a * (a * *))"), "99 " + right4},
		{rulesOf("2 (b (b *)), 5 (a *)"), "48 (b (a *)), 53 (a (b *))"},
		{rulesOf(deriv, "1 (c (c *))"), "2 (a (c *) (c *))"},
		{rulesOf("7 (c (c *))", deriv), "2 (a (c *) (c *))"},
		{rulesOf(assoc, "1 "+leftTree), "1 " + right4},
		{rulesOf("1 "+leftTree, assoc), "1 " + rightTree},
		{rulesOf("1 (b (b *)), 100 *", "1 (b (b (b *)))"), "1 (b *)"},
		{rulesOf("1 (b *), 100 (a *)", "1 (b *), 99 *"), "100 (a *), 2 *"},
		{rulesOf("1 (b *), 99 *", "1 (b *), 100 (a *)"), "1 (a *), 99 *"},
		{append(rulesOf("1 (e (e *)), 100 (d *)"), stepsRules(append(fourHundred(), "ba"))...), "1 (e (d *)), 100 (d (e *))"},
	} {
		rules := cloneRules(x.rules)
		want := append(cloneRules(x.rules), terms(x.more))
		if more, ok := impl.RulesMore(rules); !ok || !sameRules(more, want) {
			t.Errorf("RulesMore(%v) returned %v and %v, not %v", x.rules, more, ok, want)
		}
		if !sameRules(rules, x.rules) {
			t.Errorf("RulesMore(%v) left %v", x.rules, rules)
		}
	}
	for _, x := range confluentSystems() {
		if more, ok := impl.RulesMore(x.rules); !ok || !sameRules(more, x.rules) {
			t.Errorf("RulesMore(%v) returned %v and %v", x.rules, more, ok)
		}
	}
}

func TestRulesMoreOfTen(t *testing.T) {
	open := rulesOf("1 (e (e *)), 100 (d *)")
	for n := range 10 {
		rules := append(cloneRules(open), slices.Repeat(rulesOf("1 (h * * *)"), n)...)
		want := append(cloneRules(rules), terms("1 (e (d *)), 100 (d (e *))"))
		more, ok := impl.RulesMore(rules)
		if ok != (n < 9) || ok && !sameRules(more, want) || !ok && len(more) > 0 {
			t.Errorf("RulesMore of %d rules returned %v and %v", n+1, more, ok)
		}
	}
	ten := slices.Repeat(rulesOf(assoc), 10)
	if more, ok := impl.RulesMore(ten); !ok || !sameRules(more, ten) {
		t.Errorf("RulesMore of 10 confluent rules returned %v and %v", more, ok)
	}
}

func TestRulesMoreFails(t *testing.T) {
	fails := func(rules [][]impl.Term) {
		t.Helper()
		if more, ok := impl.RulesMore(rules); ok || len(more) > 0 {
			t.Errorf("RulesMore of %d sums, such as %q, returned %v and %v", len(rules), shortRules(rules), more, ok)
		}
	}
	for _, rules := range noRules() {
		fails(rules)
	}
	// A leaf is no head.
	fails(rulesOf("1 (b *), 100 *", "1 (b *)"))
	fails(rulesOf("1 (b *), 100 *", "1 (b *), 99 *"))
	fails(rulesOf("1 (b (b *)), 100 *", "1 (b *)"))
	// The overlap ahead of one that is not reduced to 0 takes too many steps.
	fails(append(stepsRules(append(fourHundred(), "ba")), terms("1 (e (e *)), 100 (d *)")))
	// A later overlap is no sum, so the overlaps are not told.
	fails(append(rulesOf("1 (e (e *)), 100 (d *)", grow), terms("1 "+chainOf("c", 13, leftTree))))
	// An overlap is reduced by way of a tree that is too large.
	head := chainOf("h", 14, "(b (b * *) *)")
	for n := range 14 {
		rules := rulesOf("1 "+head, "1 "+head+", 100 "+chainOf("c", n, leftTree), grow)
		list, ok := impl.RulesOverlaps(rules)
		if !ok || !slices.Equal(list[0], terms("1 "+chainOf("c", n, leftTree))) {
			t.Errorf("RulesOverlaps(%v) returned %v and %v", rules, list, ok)
		}
		if n > 12 {
			fails(rules)
		} else if more, ok := impl.RulesMore(rules); !ok || !slices.Equal(more[3], terms("1 "+chainOf("c", n, "(a * (b (b (a * *))))"))) {
			t.Errorf("RulesMore(%v) returned %v and %v", rules, more, ok)
		}
	}
}

func TestRulesShareNothing(t *testing.T) {
	rules := rulesOf(assoc, "1 "+leftTree)
	more, _ := impl.RulesMore(rules[:2:2])
	more[0][0].Coef, more[1][0].Tree, more[2][0].Coef = 5, "x", 7
	for i := range more {
		more[i] = append(more[i], impl.Term{Coef: 1, Tree: "y"})
	}
	if !sameRules(rules, rulesOf(assoc, "1 "+leftTree)) {
		t.Errorf("behind a change of the result of RulesMore, the rules are %v", rules)
	}
	if !sameRules(more, [][]impl.Term{terms("5 (a (a * *) *), 100 (a * (a * *)), 1 y"), terms("1 x, 1 y"), terms("7 " + right4 + ", 1 y")}) {
		t.Errorf("behind a change, the result of RulesMore is %v", more)
	}
	same, _ := impl.RulesMore(rules[:1:2])
	same[0][0].Coef = 5
	if same = append(same, nil); !sameRules(rules, rulesOf(assoc, "1 "+leftTree)) {
		t.Errorf("behind a change of the result of RulesMore, %v, the rules are %v", same, rules)
	}
	a := terms("5 (b * *), 6 (a * *)")
	for _, list := range [][][]impl.Term{nil, rules} {
		sum, _ := impl.RulesNormal(list, a[:1:2])
		sum[0].Coef = 9
		if sum = append(sum, impl.Term{}); !slices.Equal(a, terms("5 (b * *), 6 (a * *)")) {
			t.Errorf("behind a change of the result of RulesNormal, %v, the sum is %v", sum, a)
		}
	}
	list, _ := impl.RulesOverlaps(rules)
	want := cloneRules(list)
	for i := range list {
		list[i] = append(list[i], impl.Term{Coef: i, Tree: "z"})
	}
	for i := range list {
		if !slices.Equal(list[i], append(want[i], impl.Term{Coef: i, Tree: "z"})) {
			t.Errorf("behind a change of the others, the overlap %d is %v", i, list[i])
		}
	}
	again, _ := impl.RulesOverlaps(rules)
	if strings.Contains(again[0][0].Tree, "z") || len(again[0]) != 2 {
		t.Errorf("RulesOverlaps returned %v", again)
	}
}
