package tests

import (
	"slices"
	"strconv"
	"strings"

	"loop.example/operadtrees/impl"
)

// terms returns the terms of a text, each a coefficient and a tree, with commas
// between.
func terms(text string) []impl.Term {
	list := []impl.Term{}
	if text == "" {
		return list
	}
	for _, part := range strings.Split(text, ", ") {
		coef, s, _ := strings.Cut(part, " ")
		n, err := strconv.Atoi(coef)
		if err != nil {
			panic("no coefficient: " + part)
		}
		list = append(list, impl.Term{Coef: n, Tree: s})
	}
	return list
}

// What the functions return, told apart from the program: with a map from the
// texts of trees to their coefficients.

func coefsOf(list []impl.Term) map[string]int {
	coefs := map[string]int{}
	for _, x := range list {
		coefs[x.Tree] += x.Coef
	}
	return coefs
}

// remainder counts up or down to a number from 0 to 100.
func remainder(n int) int {
	n -= n / 101 * 101
	if n < 0 {
		n += 101
	}
	return n
}

// sumOfCoefs returns the sum of trees with coefficients, or false if it is none.
func sumOfCoefs(coefs map[string]int) ([]impl.Term, bool) {
	list := []impl.Term{}
	for s, n := range coefs {
		if remainder(n) != 0 {
			list = append(list, impl.Term{Coef: remainder(n), Tree: s})
		}
	}
	slices.SortFunc(list, func(x, y impl.Term) int { return orderTexts(y.Tree, x.Tree) })
	if !isSum(list) {
		return nil, false
	}
	return list, true
}

func isSum(list []impl.Term) bool {
	if len(list) > 60 {
		return false
	}
	for i, x := range list {
		if x.Coef < 1 || x.Coef > 100 || !isTree(x.Tree) || leafCount(x.Tree) != leafCount(list[0].Tree) {
			return false
		}
		if i > 0 && orderTexts(list[i-1].Tree, x.Tree) <= 0 {
			return false
		}
	}
	return true
}

func addTexts(a, b []impl.Term) ([]impl.Term, bool) {
	if len(a) > 0 && len(b) > 0 && leafCount(a[0].Tree) != leafCount(b[0].Tree) {
		return nil, false
	}
	return sumOfCoefs(coefsOf(append(slices.Clone(a), b...)))
}

func scaleTexts(a []impl.Term, n int) []impl.Term {
	list := []impl.Term{}
	for _, x := range a {
		if remainder(x.Coef*n) != 0 {
			list = append(list, impl.Term{Coef: remainder(x.Coef * n), Tree: x.Tree})
		}
	}
	return list
}

func graftSumTexts(a []impl.Term, k int, b []impl.Term) ([]impl.Term, bool) {
	coefs := map[string]int{}
	for _, x := range a {
		for _, y := range b {
			coefs[graftText(x.Tree, k, y.Tree)] += x.Coef * y.Coef
		}
	}
	return sumOfCoefs(coefs)
}

func mirrorTexts(a []impl.Term) []impl.Term {
	list := []impl.Term{}
	for _, x := range a {
		list = append(list, impl.Term{Coef: x.Coef, Tree: mirrorText(x.Tree)})
	}
	slices.SortFunc(list, func(x, y impl.Term) int { return orderTexts(y.Tree, x.Tree) })
	return list
}

// The sums that the tests go over.

// groups returns lists of trees, each of one number of leaves and in descending
// order.
func groups() [][]string {
	lists := [][]string{
		append(listTexts(sign("a1b1"), 1, 5), chain(15, "*"), chain(16, "*")),
		append(listTexts(sign("a2b1c2"), 2, 3), chain(14, "(a (h *) *)"), chain(15, "(h * *)")),
		append(listTexts(sign("a2b2c3d1"), 3, 2), "(a (b (a *)) (b * *))", "(a (b (a * *)) *)", "(a (b (a *) *) *)"),
		append(listTexts(sign("a2b2c2"), 4, 3), "(a * * * *)", "(a (b *) (b * * *))", "(a (b *) (b * *) *)", "(e (f *) (g *) (h *) *)"),
		{sixLeaves, comb(5), mirrorText(comb(5)), "(a * * * * (b * *))", "(a * (a * *) (b * * *))", chain(15, sixLeaves)},
		{twelveLeaves, comb(11), mirrorText(comb(11)), chain(5, comb(11)), chain(13, twelveLeaves), "(d (a * * * * *) * (b (c * * * * * *)))"},
	}
	for _, list := range lists {
		slices.SortFunc(list, func(a, b string) int { return orderTexts(b, a) })
	}
	return lists
}

// sumFrom returns a sum of at most so many trees of a list in descending order,
// each step-th one, with coefficients in turn.
func sumFrom(trees []string, first, step, count int) []impl.Term {
	coefs := []int{1, 100, 2, 51, 50, 99, 37, 10, 91}
	list := []impl.Term{}
	for i := first; i < len(trees) && len(list) < count; i += step {
		list = append(list, impl.Term{Coef: coefs[(first+i)%len(coefs)], Tree: trees[i]})
	}
	return list
}

// smallSums returns sums of at most 9 terms.
func smallSums() [][]impl.Term {
	sums := [][]impl.Term{{}}
	for _, trees := range groups() {
		last := len(trees) - 1
		sums = append(sums,
			[]impl.Term{{Coef: 1, Tree: trees[last]}},
			[]impl.Term{{Coef: 100, Tree: trees[last]}},
			[]impl.Term{{Coef: 1, Tree: trees[0]}},
			[]impl.Term{{Coef: 50, Tree: trees[last/2]}},
			[]impl.Term{{Coef: 51, Tree: trees[last/2]}, {Coef: 100, Tree: trees[last]}},
			[]impl.Term{{Coef: 50, Tree: trees[last/2]}, {Coef: 100, Tree: trees[last]}},
			[]impl.Term{{Coef: 1, Tree: trees[last-1]}, {Coef: 100, Tree: trees[last]}},
			[]impl.Term{{Coef: 1, Tree: trees[last-1]}, {Coef: 1, Tree: trees[last]}},
			[]impl.Term{{Coef: 100, Tree: trees[0]}, {Coef: 2, Tree: trees[1]}, {Coef: 100, Tree: trees[last]}},
			sumFrom(trees, last-4, 1, 5),
			sumFrom(trees, 1, 2, 7),
			sumFrom(trees, 0, 1, 9),
		)
	}
	return sums
}

// greatSums returns sums of up to 60 terms.
func greatSums() [][]impl.Term {
	sums := [][]impl.Term{}
	for _, trees := range groups() {
		if len(trees) < 60 {
			continue
		}
		for _, count := range []int{30, 31, 59, 60} {
			sums = append(sums, sumFrom(trees, 0, 1, count), sumFrom(trees, len(trees)-count, 1, count))
		}
		sums = append(sums, slices.Concat(sumFrom(trees, 0, 1, 8), sumFrom(trees, len(trees)-7, 1, 7)))
	}
	return sums
}

func allSums() [][]impl.Term {
	return append(smallSums(), greatSums()...)
}

// sixtyOne returns a list that would be a sum if these had 61 terms.
func sixtyOne() []impl.Term {
	return sumFrom(groups()[0], 0, 1, 61)
}

// noTerms returns lists in which a tree is none, or the numbers of leaves
// differ, or which are too long: no coefficients help.
func noTerms() [][]impl.Term {
	lists := [][]impl.Term{}
	for _, s := range noTrees() {
		lists = append(lists,
			[]impl.Term{{Coef: 1, Tree: s}},
			[]impl.Term{{Coef: 3, Tree: "(a *)"}, {Coef: 1, Tree: s}},
			[]impl.Term{{Coef: 1, Tree: s}, {Coef: 1, Tree: "*"}},
		)
	}
	for _, text := range []string{
		"1 (a * *), 1 *", "1 *, 1 (a * *)", "1 (a * *), 1 (a *)", "1 (a *), 1 (a * *)",
		"1 (b * *), 1 (a * *), 1 (a *)", "1 (a * * *), 1 (b * *), 1 (a * *)", "1 (a (a * *) *), 1 (a * (a * *)), 1 (a * *)",
		"1 (a * * *), 1 (a * *), 1 (a * *)", "2 *, 3 (a * *), 4 *",
		"1 " + twelveLeaves + ", 1 " + sixLeaves,
	} {
		lists = append(lists, terms(text))
	}
	return append(lists,
		sixtyOne(),
		slices.Repeat(terms("1 *"), 61),
		slices.Repeat(terms("1 (b *), 1 (a *)"), 50000),
		make([]impl.Term, 1), make([]impl.Term, 60), make([]impl.Term, 61),
	)
}

// noSums returns lists of terms that are no sum.
func noSums() [][]impl.Term {
	lists := noTerms()
	const most = int(^uint(0) >> 1)
	for _, n := range []int{0, 101, 102, 202, 1000000, -1, -100, -101, -1000000, most, -most, -most - 1, 1<<32 + 1, 1 << 32} {
		lists = append(lists,
			[]impl.Term{{Coef: n, Tree: "*"}},
			[]impl.Term{{Coef: n, Tree: "(b * *)"}, {Coef: 1, Tree: "(a * *)"}},
			[]impl.Term{{Coef: 1, Tree: "(b * *)"}, {Coef: n, Tree: "(a * *)"}},
		)
	}
	for _, text := range []string{
		"1 *, 1 *", "1 (a *), 100 (a *)", "1 (a *), 1 (a *), 1 *", "1 (a *), 1 *, 1 *", "1 (b *), 1 (a *), 1 (b *)",
		"1 *, 1 (a *)", "1 (a *), 1 (b *)", "1 (a * *), 1 (b * *)", "1 (a * (a * *)), 1 (a (a * *) *)",
		"1 (a (b * *)), 1 (a (b *) (b *))", "1 (b (b *)), 1 (a *), 1 (b *)", "1 (b *), 1 *, 1 (a *)",
		"1 (a *), 1 (b *), 1 *", "1 (b *), 1 (a (a *)), 1 *",
	} {
		lists = append(lists, terms(text))
	}
	great := sumFrom(groups()[0], 0, 1, 60)
	twice := slices.Clone(great)
	twice[59].Tree = twice[58].Tree
	swapped := slices.Clone(great)
	swapped[30], swapped[31] = swapped[31], swapped[30]
	none := slices.Clone(great)
	none[59].Coef = 0
	up := slices.Clone(great)
	slices.Reverse(up)
	return append(lists, twice, swapped, none, up)
}

// orderedLists returns lists of terms in several orders, with any coefficients,
// of trees that stand once or more often, with what is made of them.
func orderedLists() [][]impl.Term {
	lists := [][]impl.Term{
		{},
		terms("0 *"), terms("101 *"), terms("-101 *"), terms("-1 *"), terms("100 *"), terms("202 (a * *)"),
		terms("1000000 *"), terms("-1000000 *"), terms("1000000 (a * *), -1000000 (a * *)"), terms("1000000 *, 1000000 *, 1000000 *"),
		terms("1 (a * *), 100 (a * *)"), terms("1 (a * *), 1 (b * *), 100 (a * *)"), terms("0 (a * *), 0 (b * *)"),
		terms("0 (b * *), 3 (a * *), 101 (c * *)"), terms("-3 (a * *), 7 (b * *), -4 (a * *), 94 (b * *), 7 (a * *)"),
		slices.Repeat(terms("1000000 *"), 60), slices.Repeat(terms("-1000000 *"), 60),
		slices.Repeat(terms("1000000 (a *), -1000000 (b *)"), 30), slices.Repeat(terms("1 (a * *), 100 (b * *), 0 (c * *)"), 20),
		slices.Concat(slices.Repeat(terms("2 (a *)"), 50), terms("1 (a *)")),
	}
	for _, a := range allSums() {
		lists = append(lists, a)
		mixed := []impl.Term{}
		for i := range a {
			x := a[i*7%len(a)]
			if len(a)%7 > 0 {
				mixed = append(mixed, impl.Term{Coef: x.Coef - 101*(i%5), Tree: x.Tree})
			}
			if len(a) < 30 {
				mixed = append(mixed, impl.Term{Coef: 50 * (i%3 - 1), Tree: a[i].Tree})
			}
		}
		lists = append(lists, mixed)
	}
	return lists
}
