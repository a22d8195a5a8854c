package tests

import (
	"cmp"
	"slices"
	"strings"

	"loop.example/operadtrees/impl"
)

// The signatures that the tests go over.

// sign returns the symbols of a text of letters, each with the digit of its
// arity behind it.
func sign(text string) []impl.Symbol {
	list := []impl.Symbol{}
	for i := 0; i < len(text); i += 2 {
		list = append(list, impl.Symbol{Letter: text[i : i+1], Arity: int(text[i+1] - '0')})
	}
	return list
}

// signTexts returns signatures: the empty one, all of one symbol, and such of
// two to six symbols, also in other orders than that of the letters.
func signTexts() []string {
	list := []string{""}
	for _, letter := range "abcdefgh" {
		for _, arity := range "123456" {
			list = append(list, string(letter)+string(arity))
		}
	}
	return append(list,
		"a1b1", "b1a1", "a2b2", "a1b2", "b2a1", "h6a1", "a2b3", "c3b2",
		"a1b2c3", "c1b2a3", "a2b2c2", "h2d2f2", "e1f1g1",
		"a1b1c2d2", "d4c3b2a1", "a2b3c4d5e6", "e1d1c1b1a1",
		"a1b2c3d4e5f6", "h1g2f3e4d5c6", "a1b1c1d1e1f1", "a2b2c2d2e2f2", "a6b6c6d6e6f6", "h6a1g5b2f4c3",
	)
}

// noSigns returns lists of symbols that are no signature.
func noSigns() [][]impl.Symbol {
	lists := [][]impl.Symbol{}
	for _, text := range []string{
		"a2a2", "a1a2", "a2b1a2", "h3h4", "a1b2c3d4e5e6", "a1b2c3d4e5a1",
		"a1b1c1d1e1f1g1", "a1b2c3d4e5f6g1", "a2b2c2d2e2f2h2", "a1b1c1d1e1f1g1h1", "a1b1c1d1e1f1a1",
		"a0", "h0", "a7", "a8", "a9", "a2b0", "b0a2", "a2b7", "a1b2c3d4e5f7", "f0a1b2c3d4e5",
		"i2", "A2", "H1", "z1", "`2", "12", "*1", "(1", " 1", "a2i2", "i2a2", "a1b2c3d4e5i6",
	} {
		lists = append(lists, sign(text))
	}
	const most = int(^uint(0) >> 1)
	for _, arity := range []int{-1, -2, -6, -most - 1, most, 100, 257, 256 + 2, 1 << 32, 1<<32 + 2} {
		lists = append(lists, []impl.Symbol{{Letter: "a", Arity: arity}}, []impl.Symbol{{Letter: "b", Arity: 2}, {Letter: "a", Arity: arity}})
	}
	for _, letter := range []string{"", "ab", "aa", "a ", " a", "a\x00", "\x00", "\xff", "a\xff", "\u00e4", "\u0430", "(a", "h*", "\n", strings.Repeat("a", 100000)} {
		lists = append(lists, []impl.Symbol{{Letter: letter, Arity: 2}}, []impl.Symbol{{Letter: "b", Arity: 2}, {Letter: letter, Arity: 2}})
	}
	return append(lists, slices.Repeat(sign("a2"), 100000), slices.Repeat(sign("a1b2c3d4e5f6"), 20000), make([]impl.Symbol, 1), make([]impl.Symbol, 6))
}

// What the functions return, told apart from the program.

func isSign(list []impl.Symbol) bool {
	for i, x := range list {
		if len(x.Letter) != 1 || !strings.Contains("abcdefgh", x.Letter) || !slices.Contains([]int{1, 2, 3, 4, 5, 6}, x.Arity) {
			return false
		}
		for _, y := range list[:i] {
			if x.Letter == y.Letter {
				return false
			}
		}
	}
	return len(list) <= 6
}

// symbolsOf returns the symbol of each node of a tree.
func symbolsOf(s string) []impl.Symbol {
	list := []impl.Symbol{}
	for k := range nodeCount(s) {
		from, to := partText(s, k)
		part := s[from:to]
		list = append(list, impl.Symbol{Letter: part[1:2], Arity: len(kidTexts(part))})
	}
	return list
}

func isTreeOver(list []impl.Symbol, s string) bool {
	for _, x := range symbolsOf(s) {
		if !slices.Contains(list, x) {
			return false
		}
	}
	return true
}

// orderTexts compares two trees as the document orders them.
func orderTexts(a, b string) int {
	ways, others := pathTexts(a), pathTexts(b)
	if len(ways) != len(others) {
		return cmp.Compare(len(ways), len(others))
	}
	for i := range ways {
		if len(ways[i]) != len(others[i]) {
			return cmp.Compare(len(ways[i]), len(others[i]))
		}
		if ways[i] != others[i] {
			return cmp.Compare(ways[i], others[i])
		}
	}
	return cmp.Compare(a, b)
}

// listTexts makes the trees over a signature by grafting single nodes, again
// and again, and takes each of those with so many leaves once. It returns nil
// if there are more than 5000 on the way.
func listTexts(list []impl.Symbol, leaves, nodes int) []string {
	known := map[string]bool{"*": true}
	last := []string{"*"}
	for range nodes {
		next := []string{}
		for _, s := range last {
			for _, x := range list {
				corolla := "(" + x.Letter + strings.Repeat(" *", x.Arity) + ")"
				for k := range leafCount(s) {
					u := graftText(s, k, corolla)
					if leafCount(u) <= leaves && !known[u] {
						known[u] = true
						next = append(next, u)
					}
				}
			}
			if len(known) > 5000 {
				return nil
			}
		}
		last = next
	}
	texts := []string{}
	for s := range known {
		if leafCount(s) == leaves {
			texts = append(texts, s)
		}
	}
	slices.SortFunc(texts, orderTexts)
	return texts
}

// countTrees returns the numbers of trees with 1 to most leaves over a
// signature without symbols of arity 1: with these as its coefficients, a
// series is x and its powers by all arities together.
func countTrees(list []impl.Symbol, most int) []int {
	series := make([]int, most+1)
	for n := 1; n <= most; n++ {
		sum := 0
		for _, x := range list {
			power := append([]int{1}, make([]int, most)...)
			for range x.Arity {
				product := make([]int, most+1)
				for i, c := range power {
					for k := 0; i+k <= most; k++ {
						product[i+k] += c * series[k]
					}
				}
				power = product
			}
			sum += power[n]
		}
		series[n] = sum
		if n == 1 {
			series[n]++
		}
	}
	return series[1:]
}

// treesOver returns all trees over a signature with at most 4 leaves and at
// most 2 nodes, or 3 nodes where these are not too many.
func treesOver(list []impl.Symbol) []string {
	trees := []string{}
	for leaves := 1; leaves <= 4; leaves++ {
		texts := listTexts(list, leaves, 3)
		if len(texts) > 200 {
			texts = listTexts(list, leaves, 2)
		}
		trees = append(trees, texts...)
	}
	return trees
}

// severalArities returns trees in which letters stand with more than one arity.
func severalArities() []string {
	return []string{
		"(a (a *) *)", "(a * (a *))", "(a (a * *))", "(a (b *) (c *) (b * *))", "(a (b (c (a *))) *)",
		"(a (b * *) (b * * *))", "(h (h * * * * *) * * * * *)", "(a (b * (c *)) (d * (c * *)))",
		"(a (b (c * *) (d *)) (e (f *) (g (h *) (d * *))))",
	}
}
