package tests

import (
	"slices"
	"strings"
	"testing"

	"loop.example/operadtrees/impl"
)

// What the functions of chapter 5 return, for each kind of argument. They are
// compared with what the ways to the nodes tell in rewriting_promises_test.go.

const (
	leftTree  = "(a (a * *) *)"
	rightTree = "(a * (a * *))"
	right4    = "(a * (a * (a * *)))"
)

var sixteenH = word(strings.Repeat("h", 16))

func TestRulesMaxIsTen(t *testing.T) {
	if impl.RulesMax != 10 {
		t.Errorf("RulesMax is %d", impl.RulesMax)
	}
}

func TestRulesValidTold(t *testing.T) {
	words := wordSum(3, manyWords(60))
	for _, rules := range [][][]impl.Term{
		nil, {}, rulesOf(assoc), rulesOf("5 (h *)"), rulesOf("100 (a *), 100 *"),
		rulesOf(assoc, swap, deriv, grow), slices.Repeat(rulesOf(assoc), 10), tenRules(),
		{words}, slices.Repeat([][]impl.Term{words}, 10),
		rulesOf("1 "+twelveLeaves, "1 "+chain(16, "*"), "1 "+chain(13, twelveLeaves)+", 1 "+twelveLeaves),
	} {
		kept := cloneRules(rules)
		if !impl.RulesValid(rules) {
			t.Errorf("RulesValid(%v) does not hold", rules)
		}
		if !sameRules(rules, kept) {
			t.Errorf("RulesValid(%v) left %v", kept, rules)
		}
	}
	if rules := tenRules(); impl.RulesValid(append(rules, rules[0])) {
		t.Error("RulesValid holds for one rule more than RulesMax")
	}
}

func TestRulesStepTold(t *testing.T) {
	for _, x := range []struct {
		rules  [][]impl.Term
		a, sum string
	}{
		{rulesOf(assoc), "1 " + leftTree, "1 " + rightTree},
		{rulesOf(assoc), "7 " + leftTree, "7 " + rightTree},
		{rulesOf(assoc), "7 (a (a (b *) (c * *)) (d *))", "7 (a (b *) (a (c * *) (d *)))"},
		// The first coefficient is not 1.
		{rulesOf("3 (a (a * *) *), 98 (a * (a * *))"), "7 " + leftTree, "7 " + rightTree},
		{rulesOf("2 (a (a * *) *), 5 (a * (a * *))"), "1 " + leftTree, "48 " + rightTree},
		{rulesOf("2 (a (a * *) *), 5 (a * (a * *))"), "2 " + leftTree, "96 " + rightTree},
		{rulesOf("100 (a (a * *) *), 5 (a * (a * *))"), "1 " + leftTree, "5 " + rightTree},
		{rulesOf("6 (c (a * *)), 95 (a (c *) *), 94 (a * (c *))"), "6 (c (a * *))", "6 (a (c *) *), 7 (a * (c *))"},
		// A rule of one term leaves nothing over.
		{rulesOf("1 " + leftTree), "4 " + leftTree, ""},
		{rulesOf("9 " + leftTree), "4 (h * (a (a * *) *)), 5 (h * (a * (a * *)))", "5 (h * (a * (a * *)))"},
		{rulesOf("9 (b *)"), "4 (b (b *)), 5 (a *), 6 *", "5 (a *), 6 *"},
		// What is left over is a leaf.
		{rulesOf("1 (b *), 100 *"), "4 (b *)", "4 *"},
		{rulesOf("1 (b *), 100 *"), "4 (a (b (c * *)) *)", "4 (a (c * *) *)"},
		// A head that stands in a tree more than once is replaced at the first node alone.
		{rulesOf(swap), "3 " + word("baba"), "3 " + word("abba")},
		{rulesOf(assoc), "1 (a (a (a * *) *) *)", "1 (a (a * *) (a * *))"},
		{rulesOf(assoc), "1 (b (a (a * *) *) (a (a * *) *))", "1 (b (a * (a * *)) (a (a * *) *))"},
		{rulesOf("1 (b *), 100 (a *)"), "1 (c (b *) (b (b *)))", "1 (c (a *) (b (b *)))"},
		// Of several terms, the first one in whose tree a head stands is replaced.
		{rulesOf(swap), "1 " + word("bbbb") + ", 2 " + word("baa") + ", 3 " + word("ba"), "1 " + word("bbbb") + ", 2 " + word("aba") + ", 3 " + word("ba")},
		{rulesOf(swap), "2 " + word("baa") + ", 3 " + word("aba"), "5 " + word("aba")},
		// Of several heads, that at the first node is replaced, and at one node by the first rule.
		{rulesOf(swap, "1 (b (a *)), 100 (a *)"), "1 " + word("bab"), "1 " + word("abb")},
		{rulesOf("1 (b (a *)), 100 (a *)", swap), "1 " + word("bab"), "1 " + word("ab")},
		{rulesOf("1 (c *), 100 *", swap), "1 " + word("bac"), "1 " + word("abc")},
		{rulesOf("1 (c *), 100 *", swap), "1 " + word("cba"), "1 " + word("ba")},
		{rulesOf("1 (b *), 100 *", swap), "1 " + word("ba"), "1 " + word("a")},
		{rulesOf(swap, "1 (b *), 100 *"), "1 " + word("aba"), "1 " + word("aab")},
		{rulesOf("1 (c *)", assoc), "1 (a (a (c *) *) *)", "1 (a (c *) (a * *))"},
		{rulesOf("1 (b (a * *)), 100 (a (b *) *)", "1 (b (a * *)), 100 (a * (b *))"), "1 (b (a * *))", "1 (a (b *) *)"},
		{rulesOf("1 (b (a * *)), 100 (a * (b *))", "1 (b (a * *)), 100 (a (b *) *)"), "1 (b (a * *))", "1 (a * (b *))"},
		// Terms are joined, or come to 0.
		{rulesOf(swap), "1 (b (a *)), 4 (a (b *))", "5 (a (b *))"},
		{rulesOf(swap), "1 (b (a *)), 100 (a (b *))", ""},
		{rulesOf(swap), "1 (b (a *)), 100 (a (b *)), 1 (a (a *)), 9 *", "1 (a (a *)), 9 *"},
		{rulesOf(deriv), "2 (c (a * *)), 99 (a (c *) *)", "2 (a * (c *))"},
		{rulesOf(deriv), "2 (c (a * *)), 99 (a (c *) *), 99 (a * (c *))", ""},
		// What is left over may come ahead of other terms.
		{rulesOf("1 (b *), 100 (a *)"), "1 (c (b *)), 1 (a (b *)), 1 (c *), 1 *", "1 (c (a *)), 1 (a (b *)), 1 (c *), 1 *"},
	} {
		a, rules := terms(x.a), cloneRules(x.rules)
		if sum, ok := impl.RulesStep(rules, a); !ok || !slices.Equal(sum, terms(x.sum)) {
			t.Errorf("RulesStep(%v, %q) returned %v and %v", x.rules, x.a, sum, ok)
		}
		if !slices.Equal(a, terms(x.a)) || !sameRules(rules, x.rules) {
			t.Errorf("RulesStep(%v, %q) left %v and %v", x.rules, x.a, rules, a)
		}
	}
}

func failsStep(t *testing.T, rules [][]impl.Term, a []impl.Term) {
	t.Helper()
	if sum, ok := impl.RulesStep(rules, a); ok || len(sum) > 0 {
		t.Errorf("RulesStep of %d sums, such as %q, and %d terms returned %v and %v", len(rules), shortRules(rules), len(a), sum, ok)
	}
}

func TestRulesStepFails(t *testing.T) {
	for _, a := range allSums() {
		failsStep(t, nil, a)
		failsStep(t, rulesOf("1 (h (h (h *)))"), a)
	}
	for _, text := range []string{"", "1 *", "1 " + rightTree, "1 (b (a * *) (a * *)), 1 (a * (b * *))", "1 " + combOf("a", 11)} {
		failsStep(t, rulesOf(assoc), terms(text))
	}
	for _, rules := range noRules() {
		for _, text := range []string{"", "1 *", "1 (a (a * *) *)", "1 (b (a *))"} {
			failsStep(t, rules, terms(text))
		}
	}
	for _, a := range noSums() {
		failsStep(t, nil, a)
		failsStep(t, rulesOf("1 (a *)", "1 (b *)", "1 (a * *)", "1 (b * *)"), a)
	}
}

// TestRulesStepOfMany has sums of about 60 terms behind a step.
func TestRulesStepOfMany(t *testing.T) {
	words := manyWords(61)
	rules := [][]impl.Term{ruleTo(7, sixteenH, wordSum(1, words[:59]))}
	head := []impl.Term{{Coef: 1, Tree: sixteenH}}
	if sum, ok := impl.RulesStep(rules, head); !ok || !slices.Equal(sum, wordSum(1, words[:59])) {
		t.Errorf("RulesStep to 59 terms returned %v and %v", sum, ok)
	}
	for _, x := range []struct {
		more []string
		coef int
		left int
	}{
		{[]string{"aaaaa"}, 1, 60},
		{words[59:60], 1, 60},
		{words[58:60], 1, 60},
		{words[59:61], 1, 61},
		{[]string{"aaaaa", "baaaa"}, 1, 61},
		{[]string{words[3], "baaaa"}, 1, 60},
		{append([]string{"baaaa", "aaaaa"}, words[3:4]...), 100, 60},
		{append([]string{"baaaa", "aaaaa"}, words[3:4]...), 99, 61},
		{words[:59], 100, 0},
		{words[:59], 50, 59},
	} {
		a := append(slices.Clone(head), wordSum(x.coef, x.more)...)
		sum, ok := impl.RulesStep(rules, a)
		if ok != (x.left <= 60) || ok && len(sum) != x.left || !ok && len(sum) > 0 {
			t.Errorf("RulesStep to %d terms returned %d terms and %v", x.left, len(sum), ok)
		}
		if told, ok := impl.RulesNormal(rules, a); ok != (x.left <= 60) || !slices.Equal(told, sum) {
			t.Errorf("RulesNormal to %d terms returned %d terms and %v", x.left, len(told), ok)
		}
	}
	// One more step would leave 60 terms, but the sum of 61 is on the way.
	less := append(rules, terms("1 "+word("aaaaa")))
	a := append(slices.Clone(head), wordSum(1, []string{"baaaa", "aaaaa"})...)
	if sum, ok := impl.RulesNormal(less, a[:2]); !ok || len(sum) != 60 {
		t.Errorf("RulesNormal returned %v and %v", sum, ok)
	}
	if sum, ok := impl.RulesNormal(less, a); ok || len(sum) > 0 {
		t.Errorf("RulesNormal of a sum with 61 terms on the way returned %v and %v", sum, ok)
	}
}

func TestRulesStepTooLarge(t *testing.T) {
	for nodes := 0; nodes <= 14; nodes++ {
		a := []impl.Term{{Coef: 2, Tree: chainOf("c", nodes, leftTree)}}
		want := []impl.Term{{Coef: 2, Tree: chainOf("c", nodes, "(a * (b (b (a * *))))")}}
		sum, ok := impl.RulesStep(rulesOf(grow), a)
		if nodes > 12 {
			want = nil
		}
		if ok != (nodes <= 12) || !slices.Equal(sum, want) {
			t.Errorf("RulesStep(%q, %v) returned %v and %v", grow, a, sum, ok)
		}
		if told, fine := impl.RulesNormal(rulesOf(grow), a); fine != ok || !slices.Equal(told, sum) {
			t.Errorf("RulesNormal(%q, %v) returned %v and %v", grow, a, told, fine)
		}
		if impl.RulesSame(rulesOf(grow), a, want) != ok {
			t.Errorf("RulesSame(%q, %v, %v) is %v", grow, a, want, !ok)
		}
	}
	// A later step would leave nothing over, but the tree on the way is too large.
	rules := rulesOf(grow, "1 (a * (b *))")
	if sum, ok := impl.RulesNormal(rules, []impl.Term{{Coef: 1, Tree: chainOf("c", 12, leftTree)}}); !ok || len(sum) > 0 {
		t.Errorf("RulesNormal returned %v and %v", sum, ok)
	}
	if sum, ok := impl.RulesNormal(rules, []impl.Term{{Coef: 1, Tree: chainOf("c", 13, leftTree)}}); ok || len(sum) > 0 {
		t.Errorf("RulesNormal with a tree of 17 nodes on the way returned %v and %v", sum, ok)
	}
	// A term as large as a tree may be is replaced by smaller ones.
	if sum, ok := impl.RulesNormal(rulesOf("1 (a *), 100 *"), []impl.Term{{Coef: 3, Tree: chainOf("a", 16, "*")}}); !ok || !slices.Equal(sum, terms("3 *")) {
		t.Errorf("RulesNormal returned %v and %v", sum, ok)
	}
}

func TestRulesNormalTold(t *testing.T) {
	for _, x := range []struct {
		rules  [][]impl.Term
		a, sum string
	}{
		// No rules at all, sums that are 0, and sums that are normal already.
		{nil, "", ""},
		{nil, "5 " + leftTree, "5 " + leftTree},
		{rulesOf(assoc), "", ""},
		{rulesOf(assoc), "5 *", "5 *"},
		{rulesOf(assoc), "5 (b * *), 6 (a * *)", "5 (b * *), 6 (a * *)"},
		{rulesOf("1 (a (b *) *)"), "1 (b (a * *)), 2 (a * (b *))", "1 (b (a * *)), 2 (a * (b *))"},
		{rulesOf(assoc), "3 (a (a (a * *) *) *)", "3 " + right4},
		{rulesOf(assoc), "3 (a (a (a * *) *) *), 4 (a (a * *) (a * *)), 5 " + right4, "12 " + right4},
		{rulesOf(assoc), "3 (a (a (a * *) *) *), 98 (a (a * *) (a * *))", ""},
		{rulesOf(assoc), "1 (a (a (a (a * *) *) (a * *)) *)", "1 " + combOf("a", 5)},
		{rulesOf(assoc), "1 " + mirrorText(combOf("a", 11)), "1 " + combOf("a", 11)},
		// The first coefficient is not 1: 48 times 48 times 48 is 98 modulo 101.
		{rulesOf("3 (a (a * *) *), 98 (a * (a * *))"), "3 (a (a (a * *) *) *)", "3 " + right4},
		{rulesOf("2 (a (a * *) *), 5 (a * (a * *))"), "1 (a (a * *) (a * *))", "48 " + right4},
		{rulesOf("2 (a (a * *) *), 5 (a * (a * *))"), "1 (a (a * (a * *)) *)", "82 " + right4},
		{rulesOf("50 (b (b *)), 3 (b *), 7 *"), "50 (b (b *))", "98 (b *), 94 *"},
		{rulesOf("2 (b (b *)), 5 *"), "1 (b (b (b *)))", "48 (b *)"},
		{rulesOf("2 (b (b *)), 5 *"), "1 (b (b (b (b *))))", "82 *"},
		// Several rules.
		{rulesOf(swap), "1 " + word("bbaa"), "1 " + word("aabb")},
		{rulesOf("1 (b (a *)), 100 (a *)", "1 (a (b *)), 100 (b *)"), "1 " + word("abab"), "1 " + word("b")},
		{rulesOf("1 (c *), 100 (b *), 100 (a *)", "1 (b *), 1 (a *)"), "1 " + chainOf("c", 6, "*"), ""},
		{rulesOf(deriv, "1 (c (c *))"), "1 (c (c (a * *)))", ""},
		{rulesOf(deriv, "1 (c (c *))"), "1 (c (a (c *) *)), 1 (c (a * (c *)))", "2 (a (c *) (c *))"},
		{rulesOf("1 (b * *), 100 (a * *)", assoc), "5 (b (a * *) (b * *))", "5 " + right4},
	} {
		a, rules := terms(x.a), cloneRules(x.rules)
		if sum, ok := impl.RulesNormal(rules, a); !ok || !slices.Equal(sum, terms(x.sum)) {
			t.Errorf("RulesNormal(%v, %q) returned %v and %v", x.rules, x.a, sum, ok)
		}
		if !slices.Equal(a, terms(x.a)) || !sameRules(rules, x.rules) {
			t.Errorf("RulesNormal(%v, %q) left %v and %v", x.rules, x.a, rules, a)
		}
	}
	if sum, ok := impl.RulesNormal(rulesOf("1 (c *), 100 (b *), 100 (a *)"), wordSum(5, []string{"ccccc"})); !ok || len(sum) != 32 {
		t.Errorf("RulesNormal to 32 terms returned %v and %v", sum, ok)
	}
	if sum, ok := impl.RulesNormal(rulesOf("1 (c *), 100 (b *), 100 (a *)"), wordSum(5, []string{"cccccc"})); ok || len(sum) > 0 {
		t.Errorf("RulesNormal to 64 terms returned %v and %v", sum, ok)
	}
}

// sortedWords returns words with their letters in ascending order.
func sortedWords(texts []string) []string {
	list := []string{}
	for _, text := range texts {
		letters := strings.Split(text, "")
		slices.Sort(letters)
		list = append(list, strings.Join(letters, ""))
	}
	return list
}

func TestRulesNormalFourHundredSteps(t *testing.T) {
	rules := rulesOf(swap)
	words := fourHundred()
	for _, x := range []struct {
		texts []string
		steps int
	}{
		{append(words[:7:7], "bbba"), 399},
		{words, 400},
		{append(words[:8:8], "ba"), 401},
		{append(words[:8:8], "bba"), 402},
		{append(words[:8:8], "bbbbbaaaaa"), 425},
	} {
		a := wordSum(3, x.texts)
		made := 0
		for sum, ok := impl.RulesStep(rules, a); ok; sum, ok = impl.RulesStep(rules, sum) {
			made++
		}
		if made != x.steps {
			t.Fatalf("the sum of %q takes %d steps, not %d", x.texts, made, x.steps)
		}
		want := wordSum(3, sortedWords(x.texts))
		if x.steps > 400 {
			want = nil
		}
		sum, ok := impl.RulesNormal(rules, a)
		if ok != (x.steps <= 400) || !slices.Equal(sum, want) {
			t.Errorf("RulesNormal in %d steps returned %v and %v", x.steps, sum, ok)
		}
		sorted := wordSum(3, sortedWords(x.texts))
		if same := impl.RulesSame(rules, a, sorted); same != (x.steps <= 400) {
			t.Errorf("RulesSame in %d steps is %v", x.steps, same)
		}
		if next, ok := impl.RulesStep(rules, a); ok {
			if sum, ok := impl.RulesNormal(rules, next); ok != (x.steps <= 401) {
				t.Errorf("RulesNormal in %d steps less 1 returned %v and %v", x.steps, sum, ok)
			}
		}
	}
}

func TestRulesNormalFails(t *testing.T) {
	fails := func(rules [][]impl.Term, a []impl.Term) {
		t.Helper()
		if sum, ok := impl.RulesNormal(rules, a); ok || len(sum) > 0 {
			t.Errorf("RulesNormal of %d sums, such as %q, and %d terms returned %v and %v", len(rules), shortRules(rules), len(a), sum, ok)
		}
	}
	for _, rules := range noRules() {
		for _, text := range []string{"", "1 *", "1 (h *)", "1 (a (a * *) *)"} {
			fails(rules, terms(text))
		}
	}
	for _, a := range noSums() {
		fails(nil, a)
		fails(rulesOf("1 (a *)", "1 (b *)", "1 (a * *)", "1 (b * *)"), a)
	}
}

func TestRulesSameTold(t *testing.T) {
	letters := rulesOf("1 (a *)", "1 (b *)", "1 (c *)", "1 (d *)", "1 (e *)", "1 (f *)", "1 (g *)", "1 (h *)", "1 (a * *)")
	for _, x := range []struct {
		rules [][]impl.Term
		a, b  string
		same  bool
	}{
		{nil, "", "", true},
		{nil, "1 *", "1 *", true},
		{nil, "1 *", "2 *", false},
		{nil, "1 (a *)", "1 *", false},
		{nil, "1 *", "", false},
		{rulesOf(assoc), "1 " + leftTree, "1 " + rightTree, true},
		{rulesOf(assoc), "1 " + leftTree, "2 " + rightTree, false},
		{rulesOf(assoc), "1 (a (a (a * *) *) *)", "1 (a (a * *) (a * *))", true},
		{rulesOf(assoc), "1 (b * *)", "1 (a * *)", false},
		{rulesOf(assoc), "1 (a * *)", "1 *", false},
		{rulesOf(assoc), "1 " + leftTree, "", false},
		{rulesOf("2 (a (a * *) *), 5 (a * (a * *))"), "1 " + leftTree, "48 " + rightTree, true},
		{rulesOf("2 (a (a * *) *), 5 (a * (a * *))"), "2 " + leftTree, "5 " + rightTree, false},
		{rulesOf("1 " + leftTree), "1 " + leftTree, "", true},
		{rulesOf("1 " + leftTree), "1 " + leftTree, "7 " + leftTree, true},
		{letters, "1 (a (b *)), 5 (c *)", "9 (h *)", true},
		{letters, "1 (a (b *)), 5 (c *), 1 *", "9 (h *), 2 *", false},
		// Both are reduced to 0, but their trees have unlike numbers of leaves.
		{letters, "1 (a *)", "1 (a * *)", false},
		{letters, "1 (a * *)", "", true},
		// These rules are not confluent: what counts is how the difference is reduced.
		{rulesOf("1 (b (a *)), 100 (a *)", "1 (a (b *)), 100 (b *)"), "1 " + word("aba"), "1 " + word("ba"), true},
		{rulesOf("1 (b (a *)), 100 (a *)", "1 (a (b *)), 100 (b *)"), "1 " + word("aba"), "1 " + word("aa"), false},
	} {
		for _, pair := range [][2]string{{x.a, x.b}, {x.b, x.a}} {
			if same := impl.RulesSame(x.rules, terms(pair[0]), terms(pair[1])); same != x.same {
				t.Errorf("RulesSame(%v, %q, %q) is %v", x.rules, pair[0], pair[1], same)
			}
		}
	}
	// The difference of two sums has 60 terms, or one more.
	words := manyWords(61)
	if !impl.RulesSame(letters, wordSum(1, words[:30]), wordSum(1, words[30:60])) {
		t.Error("RulesSame does not hold for a difference of 60 terms")
	}
	if impl.RulesSame(letters, wordSum(1, words[:30]), wordSum(1, words[30:])) {
		t.Error("RulesSame holds for a difference of 61 terms")
	}
	if !impl.RulesSame(letters, wordSum(1, words[:60]), wordSum(1, words[1:])) || !impl.RulesSame(letters, wordSum(1, words[:60]), nil) {
		t.Error("RulesSame does not hold for sums of 60 terms")
	}
}
