package tests

import (
	"slices"
	"strings"

	"loop.example/operadtrees/impl"
)

// What spans, pairings and duals are, told apart from the program: with maps
// from the texts of trees to coefficients, and by numbers of independent sums.

// lettersOf returns the letters of a text, one by one.
func lettersOf(text string) []string {
	return strings.Split(text, "")
}

// quadTexts returns the quadratic trees for letters.
func quadTexts(letters []string) []string {
	texts := []string{}
	for _, x := range letters {
		for _, y := range letters {
			inner := "(" + y + " * *)"
			texts = append(texts, "("+x+" * "+inner+")", "("+x+" "+inner+" *)")
		}
	}
	slices.SortFunc(texts, func(a, b string) int { return orderTexts(b, a) })
	return texts
}

// isQuadSum reports whether a list of terms is a sum of quadratic trees.
func isQuadSum(letters []string, a []impl.Term) bool {
	texts := quadTexts(letters)
	return isSum(a) && !slices.ContainsFunc(a, func(x impl.Term) bool { return !slices.Contains(texts, x.Tree) })
}

// pairOf returns the pairing of two sums.
func pairOf(a, b []impl.Term) int {
	coefs := coefsOf(b)
	pairing := 0
	for _, x := range a {
		if strings.HasPrefix(x.Tree[2:], " * ") {
			pairing -= x.Coef * coefs[x.Tree]
		} else {
			pairing += x.Coef * coefs[x.Tree]
		}
	}
	return remainder(pairing)
}

// rankOf returns how many sums of a list are independent. The trees are gone
// over in another order than that of the program, as this does not matter.
func rankOf(list [][]impl.Term) int {
	rows := []map[string]int{}
	texts := []string{}
	for _, a := range list {
		rows = append(rows, coefsOf(a))
		for _, x := range a {
			texts = append(texts, x.Tree)
		}
	}
	slices.Sort(texts)
	rank := 0
	for _, s := range slices.Compact(texts) {
		at := slices.IndexFunc(rows, func(row map[string]int) bool { return row[s] != 0 })
		if at < 0 {
			continue
		}
		rank++
		taken := rows[at]
		rows = slices.Delete(rows, at, at+1)
		for _, row := range rows {
			times := over(row[s], taken[s])
			for u, n := range taken {
				row[u] = remainder(row[u] - times*n)
			}
		}
	}
	return rank
}

// inSpan reports whether a sum is in the span of sums.
func inSpan(list [][]impl.Term, a []impl.Term) bool {
	return rankOf(append(slices.Clone(list), a)) == rankOf(list)
}

// sameSpan reports whether two lists have the same span.
func sameSpan(a, b [][]impl.Term) bool {
	both := rankOf(slices.Concat(a, b))
	return rankOf(a) == both && rankOf(b) == both
}

// isBase reports whether a list is the base of its span, which depends on
// nothing but how its sums begin.
func isBase(letters []string, list [][]impl.Term) bool {
	for i, a := range list {
		if len(a) == 0 || !isQuadSum(letters, a) || a[0].Coef != 1 {
			return false
		}
		if i > 0 && orderTexts(list[i-1][0].Tree, a[0].Tree) <= 0 {
			return false
		}
		for j, b := range list {
			if _, there := coefsOf(b)[a[0].Tree]; there && i != j {
				return false
			}
		}
	}
	return true
}

// isBaseOf reports whether a list is the base of the span of sums.
func isBaseOf(letters []string, base, list [][]impl.Term) bool {
	return isBase(letters, base) && sameSpan(base, list)
}

// isDualOf reports whether a list is the base of the dual of the span of sums.
// As many independent sums as are missing make the whole dual.
func isDualOf(letters []string, dual, list [][]impl.Term) bool {
	for _, a := range dual {
		for _, b := range list {
			if pairOf(a, b) != 0 {
				return false
			}
		}
	}
	return isBase(letters, dual) && len(dual)+rankOf(list) == len(quadTexts(letters))
}

// The letters, the sums and the spans that the tests go over.

// someLetters returns one to three letters in several orders.
func someLetters() [][]string {
	lists := [][]string{}
	for _, text := range []string{"a", "d", "h", "ab", "ba", "hc", "fg", "abc", "cab", "heb"} {
		lists = append(lists, lettersOf(text))
	}
	return lists
}

// allLetters returns all lists of one to three different letters.
func allLetters() [][]string {
	lists := [][]string{}
	for _, x := range lettersOf("abcdefgh") {
		lists = append(lists, []string{x})
		for _, y := range lettersOf("abcdefgh") {
			if x == y {
				continue
			}
			lists = append(lists, []string{x, y})
			for _, z := range lettersOf("abcdefgh") {
				if x != z && y != z {
					lists = append(lists, []string{x, y, z})
				}
			}
		}
	}
	return lists
}

// noLetters returns lists for which there are no quadratic trees.
func noLetters() [][]string {
	lists := [][]string{nil, {}}
	for _, text := range []string{
		"abcd", "hgfe", "abcde", "abcdefgh", "aa", "hh", "aab", "aba", "baa", "aaa", "abca", "abcc", "aaaa",
		"i", "A", "H", "z", "`", "1", "*", "(", " ", "\x00", "\x7f", "ai", "ia", "a*", "abi", "iab", "aib",
	} {
		lists = append(lists, lettersOf(text))
	}
	for _, x := range []string{"", "ab", "aa", "a ", " a", "a\x00", "\xff", "a\xff", "\u00e4", "\u0430", "(a", "a,b", strings.Repeat("a", 100000)} {
		lists = append(lists, []string{x}, []string{"a", x}, []string{x, "b"}, []string{"a", "b", x}, []string{x, "a", "b"})
	}
	return append(lists, slices.Repeat([]string{"a"}, 100000), slices.Repeat(lettersOf("abc"), 30000), make([]string, 1), make([]string, 3), make([]string, 4))
}

// mixedSum returns a sum of quadratic trees with the coefficients that follow a
// number, about a third of which are 0.
func mixedSum(trees []string, n int) []impl.Term {
	list := []impl.Term{}
	for _, s := range trees {
		n = (n*1103515245 + 12345) % (1 << 31)
		if coef := n >> 12 % 151; coef > 0 && coef < 101 {
			list = append(list, impl.Term{Coef: coef, Tree: s})
		}
	}
	return list
}

// quadSums returns sums of quadratic trees for letters.
func quadSums(letters []string) [][]impl.Term {
	trees := quadTexts(letters)
	half := len(trees) / 2
	sums := [][]impl.Term{
		nil, sumFrom(trees, 0, 1, 18), sumFrom(trees, 1, 1, 18), sumFrom(trees, 0, 2, 18),
		sumFrom(trees[:half], 0, 1, 9), sumFrom(trees[half:], 0, 1, 9), sumFrom(trees, 0, half, 2), sumFrom(trees, half-1, half, 2),
		// The pairing of this one with itself is 0.
		{{Coef: 1, Tree: trees[0]}, {Coef: 100, Tree: trees[half]}},
		// And that of this one, as 10 times 10 is the opposite of 1.
		{{Coef: 10, Tree: trees[half-1]}, {Coef: 91, Tree: trees[len(trees)-1]}},
		{{Coef: 1, Tree: trees[0]}}, {{Coef: 100, Tree: trees[len(trees)-1]}},
	}
	for n := range 4 {
		sums = append(sums, mixedSum(trees, n*7+1))
	}
	return sums
}

// spanSizes returns how many sums the mixed spans of the tests have.
func spanSizes(letters []string) []int {
	return [][]int{{1, 2, 3}, {1, 2, 3, 4, 5, 7, 8, 9}, {1, 2, 3, 5, 8, 9, 10, 13, 16, 17, 18, 19, 20}}[len(letters)-1]
}

// spans returns lists of at most 20 sums of quadratic trees for letters.
func spans(letters []string) [][][]impl.Term {
	trees := quadTexts(letters)
	all := [][]impl.Term{}
	for i, s := range trees {
		all = append(all, []impl.Term{{Coef: i*i%100 + 1, Tree: s}})
	}
	up := slices.Clone(all)
	slices.Reverse(up)
	a, b, c := mixedSum(trees, 5), mixedSum(trees, 6), mixedSum(trees, 77)
	lists := [][][]impl.Term{
		// Spans of nothing.
		nil, {}, {{}}, {nil, {}}, make([][]impl.Term, 20),
		// Spans of all.
		all, up, append(slices.Clone(all), a, b),
		// Multiples of each other, and 0 among them.
		{a, a}, {a, scaleTexts(a, 2)}, {scaleTexts(a, 50), a, nil, scaleTexts(a, -1)}, slices.Repeat([][]impl.Term{b}, 20),
		{a, b, scaleTexts(a, 7)}, {nil, b, c, scaleTexts(b, -3), nil},
		// The first trees of some stand in others.
		{sumFrom(trees, 0, 1, 18), sumFrom(trees, 1, 1, 18)}, {sumFrom(trees, 1, 1, 18), sumFrom(trees, 0, 1, 18)},
		{all[0], sumFrom(trees, 0, 1, 2), sumFrom(trees, 0, 1, 3)}, {sumFrom(trees, 0, 1, 18), all[len(all)-1]},
		all[:len(all)/2], all[len(all)/2:], all[1:], all[:len(all)-1],
	}
	for i := range trees[1:] {
		lists = append(lists, [][]impl.Term{sumFrom(trees, i, 1, 2)}, [][]impl.Term{sumFrom(trees, i, 1, 18), sumFrom(trees, 0, 1, 2)})
	}
	for _, size := range spanSizes(letters) {
		mixed := [][]impl.Term{}
		for n := range size {
			mixed = append(mixed, mixedSum(trees, size*100+n))
		}
		lists = append(lists, mixed)
	}
	return lists
}

// noQuadSums returns lists of terms that are no sum of quadratic trees for a
// and b.
func noQuadSums() [][]impl.Term {
	lists := noSums()
	for _, text := range []string{
		// Another number of leaves.
		"1 *", "1 (a *)", "1 (a * *)", "1 (a (a *) *)", "1 (a * (a *))", "1 (a (a *))", "1 (b (a * *))", "1 (a (a * * *) *)",
		"1 (a (a (a * *) *) *)", "1 (a (a * *) (b * *))", "1 " + twelveLeaves,
		// Another form.
		"1 (a * * *)", "1 (b * * *)", "1 (a (b * * *))", "1 (a (b *) * *)", "1 (a * (b *) *)", "1 (a * * (b *))", "1 (b (a (a * *) *))",
		"1 (a (b (a * *)) *)", "1 (a (a * *) (b *))", "1 (b (b *) (a * *))", "1 (a (b (a *) *) *)", "1 (a * (a * (b *)))",
		// Another letter.
		"1 (c (c * *) *)", "1 (c (a * *) *)", "1 (a (c * *) *)", "1 (h * (b * *))", "1 (b * (h * *))",
		// Beside quadratic trees.
		"1 (c (a * *) *), 1 (a (a * *) *)", "1 (b (c * *) *), 1 (b (b * *) *)", "1 (a (a * *) *), 2 (a * (c * *))", "1 (b (a * *) *), 2 (b * * *)",
		"1 (b (b * *) *), 2 (b (a * *) *), 3 (a (b * *) *), 4 (a (a * *) *), 5 (b * (b * *)), 6 (b * (a * *)), 7 (a * (b * *)), 8 (a * (a * *)), 9 (a * * *)",
		"1 (a (a (b * *) *)), 3 (a (b * *) *)", "1 (a * (c * *)), 2 (a * (b * *)), 3 (a * (a * *))",
	} {
		lists = append(lists, terms(text))
	}
	for _, trees := range groups()[2:3] {
		lists = append(lists, sumFrom(trees, 0, 1, 60), sumFrom(trees, 0, 1, 61))
	}
	return lists
}

// wholeSpan returns a list the span of which has all sums for letters.
func wholeSpan(letters []string) [][]impl.Term {
	list := [][]impl.Term{}
	for _, s := range quadTexts(letters) {
		list = append(list, []impl.Term{{Coef: 1, Tree: s}})
	}
	return list
}

// noSpans returns lists that are not at most 20 sums of quadratic trees for a
// and b.
func noSpans() [][][]impl.Term {
	good := terms(assoc)
	lists := [][][]impl.Term{
		make([][]impl.Term, 21), make([][]impl.Term, 100000), slices.Repeat([][]impl.Term{good}, 21), slices.Repeat([][]impl.Term{good, nil}, 50000),
		append(make([][]impl.Term, 20), good), slices.Concat(wholeSpan(lettersOf("ab")), wholeSpan(lettersOf("ab")), wholeSpan(lettersOf("a")), [][]impl.Term{good, good, good}),
	}
	for _, a := range noQuadSums() {
		// Behind the whole span, it would change nothing.
		lists = append(lists, [][]impl.Term{a}, [][]impl.Term{nil, good, a}, [][]impl.Term{a, good}, append(wholeSpan(lettersOf("ab")), a))
	}
	return lists
}
