package tests

import (
	"slices"
	"strings"
	"testing"

	"loop.example/operadtrees/impl"
)

// What the functions of chapter 2 return, for each kind of argument.

func TestSignValid(t *testing.T) {
	for _, text := range signTexts() {
		list := sign(text)
		if !isSign(list) {
			t.Fatalf("the corpus has %v", list)
		}
		if !impl.SignValid(list) {
			t.Errorf("SignValid(%v) does not hold", list)
		}
		if !slices.Equal(list, sign(text)) {
			t.Errorf("SignValid(%q) left %v", text, list)
		}
	}
	if !impl.SignValid(nil) {
		t.Error("SignValid(nil) does not hold")
	}
	for _, list := range noSigns() {
		if len(list) < 1000 && isSign(list) {
			t.Fatalf("the corpus of lists that are no signature has %v", list)
		}
		if impl.SignValid(list) {
			t.Errorf("SignValid of %d symbols, %q, holds", len(list), short(list[0].Letter))
		}
	}
}

func TestSignValidOfAllLetters(t *testing.T) {
	for c := range 256 {
		for arity := -1; arity <= 8; arity++ {
			list := []impl.Symbol{{Letter: string([]byte{byte(c)}), Arity: arity}}
			if impl.SignValid(list) != isSign(list) {
				t.Errorf("SignValid(%v) is %v", list, !isSign(list))
			}
		}
	}
}

func TestSignOver(t *testing.T) {
	for _, x := range []struct {
		sign, s string
		over    bool
	}{
		{"", "*", true},
		{"", "(a *)", false},
		{"a1", "*", true},
		{"a1", "(a *)", true},
		{"a1", "(a (a (a *)))", true},
		{"a1", chain(16, "*"), false},
		{"a1", "(b *)", false},
		{"a1", "(a * *)", false},
		{"a2", "(a *)", false},
		{"a2", "(a * *)", true},
		{"a2", "(a * * *)", false},
		{"a2", "(a * (b * *))", false},
		{"a2", "(a (a * *) (a * *))", true},
		{"a2", "(a (a * *) (a * (a *)))", false},
		{"a2b1", "(b (a (b *) *))", true},
		{"b1a2", "(b (a (b *) *))", true},
		{"a1b2", "(b (a (b *) *))", false},
		{"h6", sixLeaves, true},
		{"h5", sixLeaves, false},
		{"a2b6c6", twelveLeaves, true},
		{"a2b6", twelveLeaves, false},
		{"a1b1c1d1e1f1", chain(6, "*"), true},
		{"a1b1c1d1e1f1", chain(7, "*"), false},
		{"g1b1c1d1e1f1", chain(6, "*"), false},
	} {
		if over := impl.SignOver(sign(x.sign), x.s); over != x.over {
			t.Errorf("SignOver(%q, %q) is %v", x.sign, x.s, over)
		}
	}
}

func TestSignOverOfInvalid(t *testing.T) {
	for _, list := range noSigns() {
		for _, s := range []string{"*", "(a *)", "(a * *)", "(b * *)", "no tree"} {
			if impl.SignOver(list, s) {
				t.Errorf("SignOver of %d symbols that are no signature and %q holds", len(list), s)
			}
		}
	}
	for _, s := range noTrees() {
		for _, text := range []string{"", "a1", "a1b1", "a2b2", "a1b2c3d4e5f6"} {
			if impl.SignOver(sign(text), s) {
				t.Errorf("SignOver(%q, %q) holds", text, short(s))
			}
		}
	}
	// A signature of 7 or 8 symbols would have these.
	if impl.SignOver(sign("a1b1c1d1e1f1g1"), chain(7, "*")) || impl.SignOver(sign("a1b1c1d1e1f1g1h1"), chain(16, "*")) {
		t.Error("SignOver of more than 6 symbols holds")
	}
}

func TestSignOfTold(t *testing.T) {
	for _, x := range [][2]string{
		{"*", ""},
		{"(a *)", "a1"},
		{"(a (a *))", "a1"},
		{"(b (a *) *)", "a1b2"},
		{"(a (b *) *)", "a2b1"},
		{"(h * (a (h * *) * *))", "a3h2"},
		{sixLeaves, "h6"},
		{twelveLeaves, "a2b6c6"},
		{"(d (c (b (a *) *) * *) * * *)", "a1b2c3d4"},
		{chain(6, "*"), "a1b1c1d1e1f1"},
		{chain(7, "*"), "a1b1c1d1e1f1g1"},
		{chain(8, "*"), "a1b1c1d1e1f1g1h1"},
		{chain(16, "*"), "a1b1c1d1e1f1g1h1"},
		{comb(11), "a2b2c2d2e2f2g2h2"},
	} {
		list, ok := impl.SignOf(x[0])
		if !ok || !slices.Equal(list, sign(x[1])) {
			t.Errorf("SignOf(%q) returned %v and %v", x[0], list, ok)
		}
	}
}

func TestSignOfAgainstTexts(t *testing.T) {
	told, fails := 0, 0
	for _, s := range append(treesUpTo(3), orderTrees()...) {
		arities := map[string]int{}
		several := false
		want := []impl.Symbol{}
		for _, letter := range "abcdefgh" {
			for _, x := range symbolsOf(s) {
				if x.Letter != string(letter) {
					continue
				}
				if arity, known := arities[x.Letter]; !known {
					want = append(want, x)
					arities[x.Letter] = x.Arity
				} else if arity != x.Arity {
					several = true
				}
			}
		}
		if several {
			want = nil
			fails++
		} else {
			told++
		}
		if list, ok := impl.SignOf(s); ok == several || !slices.Equal(list, want) {
			t.Errorf("SignOf(%q) returned %v and %v", s, list, ok)
		}
	}
	if told < 200 || fails < 15 {
		t.Errorf("the symbols are told for %d trees and not for %d", told, fails)
	}
}

func TestSignOfFails(t *testing.T) {
	for _, s := range append(noTrees(), severalArities()...) {
		if list, ok := impl.SignOf(s); ok || len(list) != 0 {
			t.Errorf("SignOf(%q) returned %v and %v", short(s), list, ok)
		}
	}
}

func TestTreeOrderTold(t *testing.T) {
	// Each tree comes ahead of all behind it.
	trees := []string{
		"*",
		"(a *)",
		"(b *)",
		"(h *)",
		"(a (a *))",
		"(a (h *))",
		"(b (a *))",
		"(h (a *))",
		"(a (a (a *)))",
		chain(15, "*"),
		chain(16, "*"),
		"(a * *)",
		"(a * (b *))",
		"(a * (a (a *)))",
		"(b * *)",
		"(a (a *) *)",
		"(a (a * *))",
		"(a (b *) *)",
		"(a (b *) (a *))",
		"(a (b * *))", // the ways of the next one are the same
		"(a (b *) (b *))",
		"(a (b * (a *)))",
		"(b (a *) *)",
		"(a * * *)",
		"(a * * (a *))",
		"(a * (b * *))",
		"(b * * *)",
		"(a (b * *) *)",
		"(a * * * *)",
		sixLeaves,
		comb(11),
		twelveLeaves,
		chain(5, comb(11)),
		mirrorText(comb(11)),
		chain(13, twelveLeaves),
	}
	for i, a := range trees {
		for k, b := range trees {
			want := 0
			if i < k {
				want = -1
			} else if i > k {
				want = 1
			}
			if n, ok := impl.TreeOrder(a, b); !ok || n != want {
				t.Errorf("TreeOrder(%q, %q) is %d and %v", a, b, n, ok)
			}
		}
	}
}

func TestTreeOrderAgainstTexts(t *testing.T) {
	trees := orderTrees()
	for _, a := range trees {
		for _, b := range trees {
			if n, ok := impl.TreeOrder(a, b); !ok || n != orderTexts(a, b) {
				t.Errorf("TreeOrder(%q, %q) is %d and %v", a, b, n, ok)
			}
		}
	}
}

func TestTreeOrderFails(t *testing.T) {
	for _, s := range noTrees() {
		for _, pair := range [][2]string{{s, "*"}, {"*", s}, {s, s}, {s, "(a * *)"}, {"(a * *)", s}} {
			if n, ok := impl.TreeOrder(pair[0], pair[1]); ok || n != 0 {
				t.Errorf("TreeOrder(%q, %q) is %d and %v", short(pair[0]), short(pair[1]), n, ok)
			}
		}
	}
}

func TestTreeListTold(t *testing.T) {
	for _, x := range []struct {
		sign          string
		leaves, nodes int
		texts         string
	}{
		{"", 1, 0, "*"},
		{"", 1, 8, "*"},
		{"", 2, 8, ""},
		{"", 8, 8, ""},
		{"a2", 1, 0, "*"},
		{"a2", 1, 8, "*"},
		{"a2", 2, 0, ""},
		{"a2", 2, 1, "(a * *)"},
		{"a2", 3, 1, ""},
		{"a2", 3, 8, "(a * (a * *)),(a (a * *) *)"},
		{"a2", 4, 3, "(a * (a * (a * *))),(a * (a (a * *) *)),(a (a * *) (a * *)),(a (a * (a * *)) *),(a (a (a * *) *) *)"},
		{"a1", 1, 0, "*"},
		{"a1", 1, 3, "*,(a *),(a (a *)),(a (a (a *)))"},
		{"a1", 2, 8, ""},
		{"a1", 8, 8, ""},
		{"b1a1", 1, 2, "*,(a *),(b *),(a (a *)),(a (b *)),(b (a *)),(b (b *))"},
		{"a2b1", 2, 2, "(a * *),(a * (b *)),(a (b *) *),(b (a * *))"},
		{"b2a1", 2, 2, "(b * *),(b * (a *)),(a (b * *)),(b (a *) *)"},
		{"a2b1", 2, 3, "(a * *),(a * (b *)),(a * (b (b *))),(a (b *) *),(a (b *) (b *))," +
			"(b (a * *)),(b (a * (b *))),(a (b (b *)) *),(b (a (b *) *)),(b (b (a * *)))"},
		{"a3b2", 3, 2, "(a * * *),(b * (b * *)),(b (b * *) *)"},
		{"h6", 6, 1, sixLeaves},
		{"h6", 7, 8, ""},
		{"h6", 8, 8, ""},
		{"a2h6", 8, 2, ""},
		{"a3h6", 8, 2, "(a * * (h * * * * * *)),(a * (h * * * * * *) *),(h * * * * * (a * * *)),(h * * * * (a * * *) *),(h * * * (a * * *) * *)," +
			"(h * * (a * * *) * * *),(h * (a * * *) * * * *),(a (h * * * * * *) * *),(h (a * * *) * * * * *)"},
	} {
		want := []string{}
		if x.texts != "" {
			want = strings.Split(x.texts, ",")
		}
		if texts, ok := impl.TreeList(sign(x.sign), x.leaves, x.nodes); !ok || !slices.Equal(texts, want) {
			t.Errorf("TreeList(%q, %d, %d) returned %q and %v", x.sign, x.leaves, x.nodes, texts, ok)
		}
	}
	if texts, ok := impl.TreeList(nil, 1, 8); !ok || !slices.Equal(texts, []string{"*"}) {
		t.Errorf("TreeList(nil, 1, 8) returned %q and %v", texts, ok)
	}
}

func TestTreeListAgainstTexts(t *testing.T) {
	told, fails := 0, 0
	for _, text := range signTexts() {
		for leaves := 1; leaves <= 8; leaves++ {
			for nodes := 0; nodes <= 8; nodes++ {
				if nodes > 4 && leaves > 4 && nodes < 8 {
					continue
				}
				want := listTexts(sign(text), leaves, nodes)
				if want == nil {
					break
				}
				fits := len(want) <= 400
				if fits {
					told++
				} else {
					want = nil
					fails++
				}
				if texts, ok := impl.TreeList(sign(text), leaves, nodes); ok != fits || !slices.Equal(texts, want) {
					t.Errorf("TreeList(%q, %d, %d) returned %d trees and %v", text, leaves, nodes, len(texts), ok)
				}
			}
		}
	}
	if told < 2000 || fails < 50 {
		t.Errorf("only %d lists are told and only %d are not", told, fails)
	}
}

func TestTreeListAt400(t *testing.T) {
	for _, x := range []struct {
		sign          string
		leaves, nodes int
		count         int
	}{
		{"a1b1c3d3e5", 7, 3, 400},
		{"a1b2c4d6", 6, 4, 400},
		{"a2b4c5d5e5f5", 7, 8, 400},
		{"a1b1c1d1e1f4", 4, 3, 401},
		{"a1b1c1", 1, 5, 364},
		{"a1b1c1", 1, 6, 1093},
		{"a1b1", 1, 7, 255},
		{"a1b1", 1, 8, 511},
		{"a1b1c1d1e1f1", 1, 3, 259},
		{"a1b1c1d1e1f1", 1, 8, 2015539},
		{"a2", 7, 8, 132},
		{"a2", 8, 6, 0},
		{"a2", 8, 7, 429},
		{"a2b2c2d2e2f2", 8, 8, 120092544},
		{"a1b1c1d1e1f1", 8, 8, 0}, // there are 6^8 chains, and none of them has 8 leaves
		{"a1b1c1d1e1f6", 8, 8, 0},
		{"a1b1c1d1e6f6", 7, 8, 0},
	} {
		texts, ok := impl.TreeList(sign(x.sign), x.leaves, x.nodes)
		if fits := x.count <= 400; ok != fits || fits && len(texts) != x.count || !fits && len(texts) != 0 {
			t.Errorf("TreeList(%q, %d, %d) returned %d trees and %v", x.sign, x.leaves, x.nodes, len(texts), ok)
		}
	}
}

func TestTreeListFails(t *testing.T) {
	fails := func(list []impl.Symbol, leaves, nodes int) {
		t.Helper()
		if texts, ok := impl.TreeList(list, leaves, nodes); ok || len(texts) != 0 {
			t.Errorf("TreeList of %d symbols, %d, %d returned %q and %v", len(list), leaves, nodes, texts, ok)
		}
	}
	for _, list := range noSigns() {
		fails(list, 1, 0)
		fails(list, 1, 1)
		fails(list, 8, 8)
		fails(list, 0, 9)
	}
	for _, text := range []string{"", "a1", "a2", "h6"} {
		for _, leaves := range append(noIndexes(9), 0) {
			fails(sign(text), leaves, 0)
			fails(sign(text), leaves, 8)
		}
		for _, nodes := range noIndexes(9) {
			fails(sign(text), 1, nodes)
			fails(sign(text), 8, nodes)
		}
	}
}

func TestTreeListSharesNothing(t *testing.T) {
	list := sign("c2a1")
	first := mustList(t, list, 2, 2)
	second := mustList(t, list, 2, 2)
	first = append(first[:1], "x", "y", "z")
	first[0] = "w"
	want := []string{"(c * *)", "(c * (a *))", "(a (c * *))", "(c (a *) *)"}
	if third := mustList(t, list, 2, 2); !slices.Equal(third, want) || !slices.Equal(second, want) {
		t.Errorf("behind a change of one result, TreeList has returned %q and %q", second, third)
	}
	if !slices.Equal(list, sign("c2a1")) {
		t.Errorf("TreeList left %v", list)
	}
}

func TestTreeCountTold(t *testing.T) {
	for _, x := range []struct {
		sign   string
		counts []int
	}{
		{"", []int{1, 0, 0, 0, 0, 0, 0, 0, 0, 0}},
		{"a2", []int{1, 1, 2, 5, 14, 42, 132, 429, 1430, 4862}},
		{"h2", []int{1, 1, 2, 5, 14, 42, 132, 429, 1430, 4862}},
		{"a3", []int{1, 0, 1, 0, 3, 0, 12, 0, 55, 0}},
		{"a6", []int{1, 0, 0, 0, 0, 1, 0, 0, 0, 0}},
		{"a2b2", []int{1, 2, 8, 40, 224, 1344, 8448, 54912, 366080, 2489344}},
		{"a2b3", []int{1, 1, 3, 10, 38, 154, 654, 2871, 12925, 59345}},
		{"f6e5d4c3b2", []int{1, 1, 3, 11, 45, 197, 902, 4269}},
		{"a2b2c2", []int{1, 3, 18, 135, 1134, 10206, 96228, 938223, 9382230, 95698746}},
		{"a2b2c2d2e2f2", []int{1, 6, 72, 1080, 18144, 326592, 6158592, 120092544}},
		{"a6b6c6d6e6f6", []int{1, 0, 0, 0, 0, 6, 0, 0, 0, 0}},
	} {
		for most := 1; most <= len(x.counts); most++ {
			if counts, ok := impl.TreeCount(sign(x.sign), most); !ok || !slices.Equal(counts, x.counts[:most]) {
				t.Errorf("TreeCount(%q, %d) returned %v and %v", x.sign, most, counts, ok)
			}
		}
	}
	if counts, ok := impl.TreeCount(nil, 2); !ok || !slices.Equal(counts, []int{1, 0}) {
		t.Errorf("TreeCount(nil, 2) returned %v and %v", counts, ok)
	}
}

func TestTreeCountAgainstPowers(t *testing.T) {
	for _, list := range aritySigns() {
		for most := 1; most <= 10; most++ {
			want := countTrees(list, most)
			fits := slices.Max(want) <= 1000000000
			if !fits {
				want = nil
			}
			given := slices.Clone(list)
			if counts, ok := impl.TreeCount(list, most); ok != fits || !slices.Equal(counts, want) {
				t.Errorf("TreeCount(%v, %d) returned %v and %v", list, most, counts, ok)
			}
			if !slices.Equal(list, given) {
				t.Errorf("TreeCount(%v, %d) left %v", given, most, list)
			}
		}
	}
}

// aritySigns returns a signature for each choice of at most 6 arities of at
// least 2.
func aritySigns() [][]impl.Symbol {
	lists := [][]impl.Symbol{{}}
	for i := 0; i < len(lists); i++ {
		last := lists[i]
		if len(last) == 6 {
			continue
		}
		from := 2
		if len(last) > 0 {
			from = last[len(last)-1].Arity
		}
		letter := "cahfbd"[len(last) : len(last)+1]
		for arity := from; arity <= 6; arity++ {
			lists = append(lists, append(slices.Clone(last), impl.Symbol{Letter: letter, Arity: arity}))
		}
	}
	return lists
}

func TestTreeCountAt1000000000(t *testing.T) {
	// Of all signatures, these have the greatest number that is told and the
	// least one that is not.
	counts, ok := impl.TreeCount(sign("a2b2c2d2e2f3"), 9)
	if !ok || len(counts) != 9 || counts[8] != 639960805 {
		t.Errorf("TreeCount of 639960805 trees returned %v and %v", counts, ok)
	}
	for _, x := range []struct {
		sign string
		most int
	}{{"a2b2c2d2", 10}, {"a2b2c2d2e6", 10}, {"a2b2c2d2e2f2", 9}, {"a2b2c2d2e2f3", 10}, {"a2b2c2d2e2f2", 10}} {
		if counts, ok := impl.TreeCount(sign(x.sign), x.most); ok || len(counts) != 0 {
			t.Errorf("TreeCount(%q, %d) returned %v and %v", x.sign, x.most, counts, ok)
		}
		if counts, ok := impl.TreeCount(sign(x.sign), 8); !ok || len(counts) != 8 {
			t.Errorf("TreeCount(%q, 8) returned %v and %v", x.sign, counts, ok)
		}
	}
}

func TestTreeCountFails(t *testing.T) {
	fails := func(list []impl.Symbol, most int) {
		t.Helper()
		if counts, ok := impl.TreeCount(list, most); ok || len(counts) != 0 {
			t.Errorf("TreeCount of %d symbols and %d returned %v and %v", len(list), most, counts, ok)
		}
	}
	for _, list := range noSigns() {
		fails(list, 1)
		fails(list, 10)
		fails(list, 0)
	}
	for _, text := range []string{"a1", "h1", "a1b2", "b2a1", "a2b3c4d5e6f1", "a6b1"} {
		fails(sign(text), 1)
		fails(sign(text), 5)
		fails(sign(text), 10)
	}
	for _, text := range []string{"", "a1", "a2", "a6"} {
		for _, most := range append(noIndexes(11), 0) {
			fails(sign(text), most)
		}
	}
}

func TestTreeRankTold(t *testing.T) {
	for _, x := range []struct {
		sign, s string
		rank    int
	}{
		{"", "*", 0},
		{"a1", "*", 0},
		{"a1", "(a *)", 1},
		{"a1", "(a (a *))", 2},
		{"h1", "(h (h (h (h (h (h (h (h *))))))))", 8},
		{"a2", "(a * *)", 0},
		{"a2", "(a * (a * *))", 0},
		{"a2", "(a (a * *) *)", 1},
		{"a2", "(a (a * *) (a * *))", 2},
		{"a2b1", "(a * *)", 0},
		{"a2b1", "(b (a * *))", 3},
		{"b1a2", "(b (a * *))", 3},
		{"a2b1", "(a (b *) (b *))", 4},
		{"a2b1", "(b (b (a * *)))", 9},
		{"a2", "(a (a (a (a (a (a * *) *) *) *) *) *)", 131},
		{"h6", sixLeaves, 0},
	} {
		if n, ok := impl.TreeRank(sign(x.sign), x.s); !ok || n != x.rank {
			t.Errorf("TreeRank(%q, %q) is %d and %v", x.sign, x.s, n, ok)
		}
	}
	list := sign("b1a2")
	if impl.TreeRank(list, "(b (a * *))"); !slices.Equal(list, sign("b1a2")) {
		t.Errorf("TreeRank left %v", list)
	}
}

func TestTreeRankFails(t *testing.T) {
	fails := func(list []impl.Symbol, s string) {
		t.Helper()
		if n, ok := impl.TreeRank(list, s); ok || n != 0 {
			t.Errorf("TreeRank of %d symbols and %q is %d and %v", len(list), short(s), n, ok)
		}
	}
	for _, list := range noSigns() {
		fails(list, "*")
		fails(list, "(a * *)")
		fails(list, "no tree")
	}
	for _, s := range noTrees() {
		fails(sign(""), s)
		fails(sign("a1"), s)
		fails(sign("a2"), s)
	}
	// Not over the signature.
	fails(sign(""), "(a *)")
	fails(sign("a1"), "(b *)")
	fails(sign("a1"), "(a * *)")
	fails(sign("a2"), "(a *)")
	fails(sign("a2"), "(a * (b * *))")
	fails(sign("a1b2"), "(a (b *) *)")
	fails(sign("h5"), sixLeaves)
	// More leaves or nodes than a list may be asked for.
	fails(sign("a2b6"), "(a (b * * * * * *) (a * (a * *)))")
	fails(sign("a2b6c6"), twelveLeaves)
	fails(sign("a1"), "(a (a (a (a (a (a (a (a (a *)))))))))")
	fails(sign("a1h6"), "(a (a (a (a (a (a (a (a (h * * * * * *)))))))))")
	// More than 400 trees with as many leaves and nodes at most.
	fails(sign("a2"), "(a (a (a (a (a (a (a * *) *) *) *) *) *) *)")
	fails(sign("a1b1"), "(a (a (a (a (a (a (a (a *))))))))")
	fails(sign("a1b1c1d1e1f4"), "(a (b (f * * * *)))")
}
