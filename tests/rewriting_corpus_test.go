package tests

import (
	"slices"
	"strings"

	"loop.example/operadtrees/impl"
)

// What steps, normal sums and overlaps are, told apart from the program: by the
// ways to the nodes, the texts of trees, and maps from them to coefficients.

// rulesOf returns the rules of texts, each as terms has them.
func rulesOf(texts ...string) [][]impl.Term {
	rules := [][]impl.Term{}
	for _, text := range texts {
		rules = append(rules, terms(text))
	}
	return rules
}

func isRules(rules [][]impl.Term) bool {
	for _, r := range rules {
		if len(r) == 0 || !isSum(r) || nodeCount(r[0].Tree) == 0 {
			return false
		}
	}
	return len(rules) <= 10
}

func headsOf(rules [][]impl.Term) []string {
	heads := []string{}
	for _, r := range rules {
		heads = append(heads, r[0].Tree)
	}
	return heads
}

// over returns the coefficient that times another one is n.
func over(n, coef int) int {
	for x := range 101 {
		if remainder(x*coef-n) == 0 {
			return x
		}
	}
	panic("over 0")
}

// waysKnown keeps the ways to the nodes of trees, as they are asked for again
// and again.
var waysKnown = map[string]map[string]string{}

func knownWays(s string) map[string]string {
	found, known := waysKnown[s]
	if !known {
		found = waysTo(s)
		waysKnown[s] = found
	}
	return found
}

// firstPlace returns the first place of a head in a tree and the first rule
// whose head stands there, or -1 if there is none.
func firstPlace(rules [][]impl.Term, s string) (impl.Place, int) {
	first, by := impl.Place{}, -1
	for i, head := range headsOf(rules) {
		places := placesOf(knownWays(head), knownWays(s))
		if len(places) > 0 && (by < 0 || places[0].Node < first.Node) {
			first, by = places[0], i
		}
	}
	return first, by
}

// addLeft adds what is left over of a tree with a coefficient by a rule.
func addLeft(coefs map[string]int, n int, s string, place impl.Place, rule []impl.Term) {
	for _, x := range rule[1:] {
		coefs[putText(s, place, x.Tree)] += n * over(-x.Coef, rule[0].Coef)
	}
}

// stepOf returns the sum behind a step and whether it is one, and whether the
// sum was normal.
func stepOf(rules [][]impl.Term, a []impl.Term) (next []impl.Term, told, normal bool) {
	for _, x := range a {
		place, by := firstPlace(rules, x.Tree)
		if by < 0 {
			continue
		}
		coefs := coefsOf(a)
		delete(coefs, x.Tree)
		addLeft(coefs, x.Coef, x.Tree, place, rules[by])
		next, told = sumOfCoefs(coefs)
		return next, told, false
	}
	return nil, false, true
}

// normalOf returns the normal sum of a sum, the number of steps to it, and
// whether it is told.
func normalOf(rules [][]impl.Term, a []impl.Term) ([]impl.Term, int, bool) {
	for steps := 0; ; steps++ {
		next, told, normal := stepOf(rules, a)
		switch {
		case normal:
			return a, steps, true
		case !told || steps == 400:
			return nil, steps, false
		}
		a = next
	}
}

// overlapOf returns the overlap of two rules at a node, with what is too much
// or too large for a sum, and whether it is told.
func overlapOf(p, q []impl.Term, v int) (map[string]int, bool) {
	pWays, qWays := knownWays(p[0].Tree), knownWays(q[0].Tree)
	joined, fits := joinOf(pWays, qWays, v)
	if !fits {
		return nil, false
	}
	coefs := map[string]int{}
	for _, x := range placesOf(pWays, knownWays(joined)) {
		if x.Node == v {
			addLeft(coefs, 1, joined, x, p)
		}
	}
	addLeft(coefs, -1, joined, placesOf(qWays, knownWays(joined))[0], q)
	return coefs, true
}

// overlapsOf returns all overlaps, and whether all are sums.
func overlapsOf(rules [][]impl.Term) ([][]impl.Term, bool) {
	list, all := [][]impl.Term{}, true
	for i, p := range rules {
		for j, q := range rules {
			for v := range nodeCount(q[0].Tree) {
				if v == 0 && i <= j {
					continue
				}
				if coefs, fits := overlapOf(p, q, v); fits {
					sum, ok := sumOfCoefs(coefs)
					all = all && ok
					list = append(list, sum)
				}
			}
		}
	}
	return list, all
}

// firstOpenOf returns the first overlap that is not reduced to 0, reduced, or 0
// if there is none, and whether nothing on the way fails.
func firstOpenOf(rules [][]impl.Term) ([]impl.Term, bool) {
	list, ok := overlapsOf(rules)
	if !ok {
		return nil, false
	}
	for _, overlap := range list {
		reduced, _, ok := normalOf(rules, overlap)
		if !ok || len(reduced) > 0 {
			return reduced, ok
		}
	}
	return nil, true
}

// sameRules reports whether two lists have the same sums in the same order.
func sameRules(a, b [][]impl.Term) bool {
	return slices.EqualFunc(a, b, func(x, y []impl.Term) bool { return slices.Equal(x, y) })
}

// cloneRules returns a list that shares nothing with another one.
func cloneRules(rules [][]impl.Term) [][]impl.Term {
	list := [][]impl.Term{}
	for _, r := range rules {
		list = append(list, slices.Clone(r))
	}
	return list
}

// The rules and the sums that the tests go over.

const (
	assoc = "1 (a (a * *) *), 100 (a * (a * *))"
	deriv = "1 (c (a * *)), 100 (a (c *) *), 100 (a * (c *))"
	grow  = "1 (a (a * *) *), 100 (a * (b (b (a * *))))"
	swap  = "1 (b (a *)), 100 (a (b *))"
)

// word returns nodes of one tree each, with the letters of a text, around a
// leaf.
func word(text string) string {
	s := "*"
	for i := len(text) - 1; i >= 0; i-- {
		s = "(" + text[i:i+1] + " " + s + ")"
	}
	return s
}

// wordSum returns the sum of words, all with one coefficient.
func wordSum(coef int, texts []string) []impl.Term {
	list := []impl.Term{}
	for _, text := range texts {
		list = append(list, impl.Term{Coef: coef, Tree: word(text)})
	}
	slices.SortFunc(list, func(x, y impl.Term) int { return orderTexts(y.Tree, x.Tree) })
	return list
}

// ruleTo returns the rule that a tree with one leaf is a sum, over a coefficient.
func ruleTo(coef int, head string, sum []impl.Term) []impl.Term {
	return append([]impl.Term{{Coef: coef, Tree: head}}, scaleTexts(sum, -coef)...)
}

// tenRules returns rules by which the letters of a word change places until
// they ascend, as far as they stand side by side in the alphabet or one apart.
func tenRules() [][]impl.Term {
	rules := [][]impl.Term{}
	for _, pair := range []string{"ba", "ca", "cb", "db", "dc", "ec", "ed", "fd", "fe", "gf"} {
		rules = append(rules, ruleTo(1, word(pair), wordSum(1, []string{pair[1:] + pair[:1]})))
	}
	return rules
}

// system is rules with a signature of their trees.
type system struct {
	rules [][]impl.Term
	sign  string
}

// confluentSystems returns rules all of whose overlaps are reduced to 0.
func confluentSystems() []system {
	return []system{
		{nil, "a2b1"},
		{[][]impl.Term{}, "a1b1"},
		{rulesOf(assoc), "a2"},
		{rulesOf(assoc), "a2b2"},
		{rulesOf(assoc), "a2b1"},
		{rulesOf("3 (a (a * *) *), 98 (a * (a * *))"), "a2"},
		{rulesOf("100 (a (a * *) *), 1 (a * (a * *))"), "a2b1"},
		{rulesOf(assoc, assoc), "a2"},
		{rulesOf(assoc, "3 (a (a * *) *), 98 (a * (a * *))"), "a2"},
		// Rules of one term.
		{rulesOf("1 (a (a * *) *)"), "a2b1"},
		{rulesOf("7 (a * (a * *))"), "a2"},
		{rulesOf("1 (a (a * *) *)", "9 (a * (a * *))"), "a2b2"},
		{rulesOf("1 (a * *)"), "a2b1"},
		{rulesOf("4 (b (b *))"), "a2b1"},
		{rulesOf("1 (c * *)", "1 (b *)", "1 (a * (b *))"), "a2b1c2"},
		// Words.
		{rulesOf("1 (b (b *)), 100 (b *)"), "a2b1"},
		{rulesOf("2 (b (b *)), 5 *"), "a1b1"},
		{rulesOf("50 (b (b *)), 3 (b *), 7 *"), "b1"},
		{rulesOf("1 (b *), 100 *"), "a2b1"},
		{rulesOf(swap), "a1b1"},
		{rulesOf(swap, "1 (c (b *)), 100 (b (c *))", "1 (c (a *)), 100 (a (c *))"), "a1b1c1"},
		{rulesOf("1 (c *), 99 (b *), 3 (a *), 4 *"), "a1b1c1"},
		{rulesOf("1 (c *), 100 (b *), 100 (a *)"), "a1b1c1"},
		// More than one leaf and several rules.
		{rulesOf(deriv), "a2c1"},
		{rulesOf("6 (c (a * *)), 95 (a (c *) *), 95 (a * (c *))"), "a2c1"},
		{rulesOf(assoc, deriv), "a2c1"},
		{rulesOf(deriv, assoc), "a2c1"},
		{rulesOf("1 (b * *), 100 (a * *)", assoc), "a2b2"},
		{rulesOf("1 (b * * *), 100 (a * (a * *))", assoc), "a2b3"},
		// What becomes too large comes to the coefficient 0.
		{rulesOf("1 (c (d * *) *), 100 (c (a * "+chainOf("b", 14, "*")+") *)", "1 (d (e *) *), 100 (a (e *) "+chainOf("b", 14, "*")+")"), "a2c2d2e1"},
	}
}

// openSystems returns rules that are not confluent.
func openSystems() []system {
	return []system{
		{rulesOf("1 (a (a * *) *), 1 (a * (a * *))"), "a2"},
		{rulesOf("2 (a (a * *) *), 5 (a * (a * *))"), "a2"},
		{rulesOf("1 (a (a * *) *), 99 (a * (a * *))"), "a2b1"},
		{rulesOf(assoc, "1 (a (a * *) *)"), "a2"},
		{rulesOf("13 (a (a * *) *)", assoc), "a2"},
		{rulesOf(assoc, "1 (a (a * *) *), 1 (a * (a * *))"), "a2"},
		{rulesOf("1 (b (a *)), 100 (a *)", "1 (a (b *)), 100 (b *)"), "a1b1"},
		{rulesOf("1 (a (b *)), 100 (b *)", "1 (b (a *)), 100 (a *)"), "a1b1"},
		{rulesOf("1 (c (b *)), 100 (a *)", "5 (b (a *)), 96 (c *)", "1 (b (b *)), 3 *"), "a1b1c1"},
		{rulesOf("1 (b (b *)), 100 *", "1 (b (b (b *)))"), "b1"},
		{rulesOf("1 (b (b *)), 100 *", "1 (b *)"), "b1"},
		{rulesOf(deriv, "1 (c (c *))"), "a2c1"},
		{rulesOf("1 (c (c *)), 99 (c *)", deriv), "a2c1"},
		{rulesOf("1 (b (a * *)), 100 (a (b *) *)", "1 (b (a * *)), 100 (a * (b *))"), "a2b1"},
		{rulesOf("1 (b (a * *)), 100 (a * (b *))", "2 (b (a * *)), 99 (a (b *) *)", "1 (a (b *) *)"), "a2b1"},
		{rulesOf("1 (a (b *) (b *)), 7 (a * (b *))", "3 (a (b *) *), 5 (a * *)"), "a2b1"},
		{rulesOf("1 (a (a * *) *), 1 (a * (b * *)), 100 (a * (a * *))", "1 (b (b * *) *)"), "a2b2"},
		{tenRules(), "c1d1e1"},
		{rulesOf(grow), "a2b1"},
		{rulesOf("1 (c (c * *) *), 100 (b * (b * *)), 100 (a * (a * *))"), "a2b2c2"},
	}
}

func systems() []system {
	return append(confluentSystems(), openSystems()...)
}

// treesFor returns trees over the signature of a system, in lists of one number
// of leaves in descending order.
func (x system) treesFor() [][]string {
	lists := [][]string{}
	for leaves := 1; leaves <= 5; leaves++ {
		nodes := 4
		if strings.Contains(x.sign, "1") && leaves > 1 {
			nodes = 3
		}
		trees := listTexts(sign(x.sign), leaves, nodes)
		if len(trees) > 0 {
			slices.Reverse(trees)
			lists = append(lists, trees)
		}
	}
	return lists
}

// sums returns sums over the signature of a system: 0, single trees, several
// ones, the rules themselves, and the joined heads.
func (x system) sums() [][]impl.Term {
	sums := [][]impl.Term{nil}
	for _, trees := range x.treesFor() {
		for i := 0; i < len(trees); i += 1 + len(trees)/12 {
			sums = append(sums, sumFrom(trees, i, 1, 1), sumFrom(trees, i, 1+len(trees)/9, 3))
		}
		sums = append(sums, sumFrom(trees, 0, 1+len(trees)/15, 15), sumFrom(trees, len(trees)/2, 1, 8))
	}
	for _, r := range x.rules {
		sums = append(sums, r)
		for _, q := range x.rules {
			for v := range nodeCount(q[0].Tree) {
				if s, fits := joinOf(knownWays(r[0].Tree), knownWays(q[0].Tree), v); fits {
					sums = append(sums, []impl.Term{{Coef: 1 + v*9, Tree: s}})
				}
			}
		}
	}
	return sums
}

// fourHundred returns words that take just 400 steps together until their
// letters a are ahead of their letters b: each b goes behind each a. No two of
// them have the same letters, so none becomes another one on the way.
func fourHundred() []string {
	texts := []string{}
	for _, pair := range [][2]int{{8, 8}, {9, 7}, {7, 9}, {10, 6}, {6, 10}, {8, 7}, {5, 6}, {4, 1}} {
		texts = append(texts, strings.Repeat("b", pair[0])+strings.Repeat("a", pair[1]))
	}
	return texts
}

// manyWords returns so many words, at most 4096, of four letters from a to h.
func manyWords(count int) []string {
	texts := []string{}
	for n := range count {
		text := ""
		for k := range 4 {
			i := n >> (3 * k) % 8
			text += "abcdefgh"[i : i+1]
		}
		texts = append(texts, text)
	}
	return texts
}

// noRules returns lists that are no rules.
func noRules() [][][]impl.Term {
	lists := [][][]impl.Term{
		{{}}, {nil}, rulesOf(assoc, ""), rulesOf("", assoc), rulesOf(assoc, "", assoc),
		rulesOf("1 *"), rulesOf("100 *"), rulesOf(assoc, "1 *"), rulesOf("7 *", assoc),
		append(tenRules(), terms(assoc)), append(tenRules(), terms("")), append(tenRules()[:9], nil),
		append(tenRules()[:9], terms("1 *")), append(tenRules(), tenRules()...),
		make([][]impl.Term, 1), make([][]impl.Term, 11), make([][]impl.Term, 100000),
		slices.Repeat(rulesOf(assoc), 11), slices.Repeat(rulesOf(assoc), 100000),
	}
	for _, a := range noSums() {
		lists = append(lists, [][]impl.Term{a}, [][]impl.Term{terms(assoc), a}, [][]impl.Term{a, terms(assoc)})
	}
	return lists
}
