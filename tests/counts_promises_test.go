package tests

import (
	"slices"
	"strings"
	"testing"

	"loop.example/operadtrees/impl"
)

// The promises 13 to 19 of the document, one test each, on arguments for which
// the conditions of the promises must hold. What the functions return for
// invalid arguments is in counts_test.go.

func mustList(t *testing.T, list []impl.Symbol, leaves, nodes int) []string {
	t.Helper()
	texts, ok := impl.TreeList(list, leaves, nodes)
	if !ok {
		t.Fatalf("TreeList(%v, %d, %d) fails", list, leaves, nodes)
	}
	return texts
}

func mustOrder(t *testing.T, a, b string) int {
	t.Helper()
	n, ok := impl.TreeOrder(a, b)
	if !ok {
		t.Fatalf("TreeOrder(%q, %q) fails", a, b)
	}
	return n
}

// listsOf calls a function with all lists of trees over the signatures of the
// tests that are told.
func listsOf(t *testing.T, check func(list []impl.Symbol, leaves, nodes int, texts []string)) {
	t.Helper()
	told := 0
	for _, text := range signTexts() {
		list := sign(text)
		for leaves := 1; leaves <= 8; leaves++ {
			for nodes := 0; nodes <= 8; nodes++ {
				if texts, ok := impl.TreeList(list, leaves, nodes); ok {
					check(list, leaves, nodes, texts)
					told++
				}
			}
		}
	}
	if told < 4000 {
		t.Errorf("only %d lists are told", told)
	}
}

func TestPromise13SignWithoutTheLast(t *testing.T) {
	for _, text := range signTexts() {
		for list := sign(text); ; list = list[:len(list)-1] {
			if !impl.SignValid(list) {
				t.Errorf("SignValid(%v) does not hold", list)
			}
			if !impl.SignOver(list, "*") {
				t.Errorf("a leaf is not over %v", list)
			}
			if len(list) == 0 {
				break
			}
		}
	}
	for _, list := range noSigns() {
		if impl.SignOver(list, "*") {
			t.Errorf("a leaf is over %d symbols that are no signature", len(list))
		}
	}
}

func TestPromise14OverMirrorAndParts(t *testing.T) {
	over := 0
	for _, text := range signTexts() {
		list := sign(text)
		for _, s := range append(treesUpTo(2), treesOver(list)...) {
			if holds := isTreeOver(list, s); impl.SignOver(list, s) != holds {
				t.Errorf("SignOver(%v, %q) is %v", list, s, !holds)
			}
			if !impl.SignOver(list, s) {
				continue
			}
			over++
			if u := mustMirror(t, s); !impl.SignOver(list, u) {
				t.Errorf("%q is over %v, and mirrored it is not", s, list)
			}
			for k := range nodeCount(s) {
				part, ok := impl.TreePart(s, k)
				if !ok || !impl.SignOver(list, part) {
					t.Errorf("%q is over %v, and the part %q is not", s, list, part)
				}
			}
		}
	}
	if over < 1500 {
		t.Errorf("only %d trees are over a signature", over)
	}
}

func TestPromise15SymbolsOfATree(t *testing.T) {
	trees := slices.Concat(treesUpTo(3), severalArities(), []string{chain(6, "*"), chain(5, sixLeaves)})
	for _, text := range signTexts() {
		trees = append(trees, treesOver(sign(text))...)
	}
	told := 0
	for _, s := range trees {
		list, ok := impl.SignOf(s)
		if !ok || len(list) > 6 {
			continue
		}
		told++
		if !impl.SignOver(list, s) {
			t.Errorf("%q is not over %v", s, list)
		}
		for i := range list {
			if without := slices.Delete(slices.Clone(list), i, i+1); impl.SignOver(without, s) {
				t.Errorf("%q is over %v too", s, without)
			}
		}
	}
	if told < 1500 {
		t.Errorf("the symbols of only %d trees are told", told)
	}
}

// orderTrees returns trees of which many have as many leaves and like ways:
// with the letter a alone, some have the same ways.
func orderTrees() []string {
	trees := append(edgeTrees(), severalArities()...)
	for n := 1; n <= 3; n++ {
		for i, shape := range shapes(n) {
			if n < 3 || leafCount(shape) <= 3 {
				trees = append(trees, strings.ReplaceAll(shape, "?", "a"), lettered(shape, 0), lettered(shape, i+1))
			}
		}
	}
	return trees
}

func TestPromise16Order(t *testing.T) {
	grafted := 0
	trees := orderTrees()
	for _, a := range trees {
		for _, b := range trees {
			n := mustOrder(t, a, b)
			if back := mustOrder(t, b, a); back != -n {
				t.Errorf("TreeOrder(%q, %q) is %d, and exchanged %d", a, b, n, back)
			}
			if (n == 0) != (a == b) || n < -1 || n > 1 {
				t.Errorf("TreeOrder(%q, %q) is %d", a, b, n)
			}
			if leafCount(a) != leafCount(b) {
				continue
			}
			for _, pair := range graftedPairs(a, b) {
				if !impl.TreeValid(pair[0]) || !impl.TreeValid(pair[1]) {
					continue
				}
				grafted++
				if m := mustOrder(t, pair[0], pair[1]); m != n {
					t.Errorf("TreeOrder(%q, %q) is %d, and TreeOrder(%q, %q) %d", a, b, n, pair[0], pair[1], m)
				}
			}
		}
	}
	if grafted < 10000 {
		t.Errorf("only %d pairs are grafted", grafted)
	}
}

// graftedPairs returns two trees in nodes, and with nodes at their leaf 0.
func graftedPairs(a, b string) [][2]string {
	pairs := [][2]string{}
	for _, x := range []struct {
		node string
		k    int
	}{{"(a *)", 0}, {"(h *)", 0}, {"(b * *)", 0}, {"(b * *)", 1}, {"(c * * *)", 1}} {
		pairs = append(pairs, [2]string{graftText(x.node, x.k, a), graftText(x.node, x.k, b)})
		pairs = append(pairs, [2]string{graftText(a, 0, x.node), graftText(b, 0, x.node)})
	}
	return pairs
}

func TestPromise17Lists(t *testing.T) {
	listsOf(t, func(list []impl.Symbol, leaves, nodes int, texts []string) {
		for i, s := range texts {
			if !impl.SignOver(list, s) || impl.TreeLeaves(s) != leaves || impl.TreeNodes(s) > nodes {
				t.Errorf("TreeList(%v, %d, %d) has %q", list, leaves, nodes, s)
			}
			if i > 0 && mustOrder(t, texts[i-1], s) != -1 {
				t.Errorf("in TreeList(%v, %d, %d), %q is ahead of %q", list, leaves, nodes, texts[i-1], s)
			}
		}
	})
}

func TestPromise18CountsAreThoseOfLists(t *testing.T) {
	both := 0
	for _, text := range signTexts() {
		list := sign(text)
		if slices.ContainsFunc(list, func(x impl.Symbol) bool { return x.Arity == 1 }) {
			continue
		}
		for most := 1; most <= 10; most++ {
			counts, ok := impl.TreeCount(list, most)
			if !ok {
				continue
			}
			if len(counts) != most {
				t.Errorf("TreeCount(%v, %d) has %d numbers", list, most, len(counts))
			}
			for i, n := range counts {
				if texts, ok := impl.TreeList(list, i+1, i); ok {
					both++
					if len(texts) != n {
						t.Errorf("TreeCount(%v, %d) tells %d trees with %d leaves, and TreeList has %d", list, most, n, i+1, len(texts))
					}
				} else if i < 8 && n <= 400 {
					t.Errorf("TreeCount(%v, %d) tells %d trees with %d leaves, and TreeList fails", list, most, n, i+1)
				}
			}
		}
	}
	if both < 1500 {
		t.Errorf("both are told for %d only", both)
	}
}

func TestPromise19Ranks(t *testing.T) {
	ranks := 0
	for _, text := range signTexts() {
		list := sign(text)
		for leaves := 1; leaves <= 8; leaves++ {
			texts, ok := impl.TreeList(list, leaves, 3)
			if !ok {
				texts = mustList(t, list, leaves, 2)
			}
			lists := [4][]string{}
			for nodes := range lists {
				lists[nodes], _ = impl.TreeList(list, leaves, nodes)
			}
			for i, s := range texts {
				if i%3 > 0 {
					continue
				}
				n, ok := impl.TreeRank(list, s)
				same := lists[nodeCount(s)]
				if !ok || n < 0 || n >= len(same) || same[n] != s {
					t.Errorf("TreeRank(%v, %q) is %d and %v", list, s, n, ok)
				}
				ranks++
			}
		}
		for _, s := range slices.Concat(edgeTrees(), severalArities()) {
			if n, ok := impl.TreeRank(list, s); ok {
				same := mustList(t, list, leafCount(s), nodeCount(s))
				if n < 0 || n >= len(same) || same[n] != s {
					t.Errorf("TreeRank(%v, %q) is %d", list, s, n)
				}
			}
		}
	}
	if ranks < 1000 {
		t.Errorf("only %d ranks are told", ranks)
	}
}
