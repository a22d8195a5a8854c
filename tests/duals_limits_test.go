package tests

import (
	"slices"
	"testing"

	"loop.example/operadtrees/impl"
)

// The limits of chapter 6, its invalid arguments, and that results share no
// memory.

func TestNoQuadSumsAreNone(t *testing.T) {
	for _, a := range noQuadSums() {
		if isQuadSum(lettersOf("ab"), a) {
			t.Errorf("the corpus of lists that are no sums of quadratic trees has %v", a)
		}
	}
	for _, letters := range someLetters() {
		for _, a := range append(quadSums(letters), slices.Concat(spans(letters)...)...) {
			if !isQuadSum(letters, a) {
				t.Errorf("the corpus of sums of quadratic trees for %q has %v", letters, a)
			}
		}
	}
}

func TestTwentySums(t *testing.T) {
	for _, letters := range someLetters() {
		whole := wholeSpan(letters)
		for _, a := range [][]impl.Term{nil, whole[0], mixedSum(quadTexts(letters), 3), sumFrom(quadTexts(letters), 0, 1, 18)} {
			list := slices.Repeat([][]impl.Term{a}, 20)
			// The last one of 20 sums counts.
			list[19] = whole[len(whole)-1]
			base, based := impl.QuadBase(letters, list)
			dual, ok := impl.QuadDual(letters, list)
			if !based || !ok || !isBaseOf(letters, base, list) || !isDualOf(letters, dual, list) {
				t.Errorf("QuadBase and QuadDual of %q and 20 sums, %v, returned %v, %v, %v and %v", letters, list, base, based, dual, ok)
			}
			if !impl.QuadIn(letters, list, list[19]) || !impl.QuadSame(letters, list, base) || !impl.QuadSame(letters, base, list) {
				t.Errorf("QuadIn or QuadSame of %q and 20 sums, %v, does not hold", letters, list)
			}
			more := append(list, nil)
			if base, ok := impl.QuadBase(letters, more); ok || len(base) > 0 {
				t.Errorf("QuadBase of %q and 21 sums returned %v and %v", letters, base, ok)
			}
			if dual, ok := impl.QuadDual(letters, more); ok || len(dual) > 0 {
				t.Errorf("QuadDual of %q and 21 sums returned %v and %v", letters, dual, ok)
			}
			if impl.QuadIn(letters, more, nil) || impl.QuadIn(letters, more, a) {
				t.Errorf("QuadIn of %q and 21 sums holds", letters)
			}
			if impl.QuadSame(letters, more, base) || impl.QuadSame(letters, base, more) || impl.QuadSame(letters, more, more) {
				t.Errorf("QuadSame of %q and 21 sums holds", letters)
			}
		}
	}
}

// TestLettersOfSums has sums that are told for letters of them, in any order and
// with others beside, and not for others.
func TestLettersOfSums(t *testing.T) {
	for _, a := range [][]impl.Term{
		terms(assoc), terms("7 (b (b * *) *)"), terms("1 (a (b * *) *), 100 (b * (a * *))"), terms("3 (c (a * *) *), 5 (b (c * *) *)"),
		terms("3 (c (a * *) *), 5 (b (c * *) *), 1 (a * (b * *))"), terms("9 (h * (d * *))"),
	} {
		for _, text := range []string{"a", "b", "c", "h", "ab", "ba", "ac", "cb", "bc", "dh", "hd", "abc", "bca", "cba", "had", "dbh", "acd", "efg"} {
			letters := lettersOf(text)
			list := [][]impl.Term{a}
			valid := isQuadSum(letters, a)
			if base, ok := impl.QuadBase(letters, list); ok != valid || ok && !isBaseOf(letters, base, list) || !ok && len(base) > 0 {
				t.Errorf("QuadBase of %s and %v returned %v and %v", text, a, base, ok)
			}
			if dual, ok := impl.QuadDual(letters, list); ok != valid || ok && !isDualOf(letters, dual, list) || !ok && len(dual) > 0 {
				t.Errorf("QuadDual of %s and %v returned %v and %v", text, a, dual, ok)
			}
			pairing := -1
			if valid {
				pairing = pairOf(a, a)
			}
			if n := impl.QuadPair(letters, a, a); n != pairing {
				t.Errorf("QuadPair of %s and twice %v is %d, not %d", text, a, n, pairing)
			}
			if impl.QuadIn(letters, wholeSpan(letters), a) != valid || impl.QuadIn(letters, list, nil) != valid || impl.QuadIn(letters, list, a) != valid {
				t.Errorf("QuadIn of %s and %v is not %v", text, a, valid)
			}
			if impl.QuadSame(letters, list, list) != valid || impl.QuadSame(letters, list, nil) || impl.QuadSame(letters, nil, list) {
				t.Errorf("QuadSame of %s and %v is not %v", text, a, valid)
			}
		}
	}
}

func TestSpansOfNothing(t *testing.T) {
	for _, letters := range allLetters() {
		whole := wholeSpan(letters)
		for _, list := range [][][]impl.Term{nil, {}, {nil}, {{}, nil, {}}, make([][]impl.Term, 20)} {
			if base, ok := impl.QuadBase(letters, list); !ok || len(base) != 0 {
				t.Errorf("QuadBase of %q and %d sums that are 0 returned %v and %v", letters, len(list), base, ok)
			}
			if dual, ok := impl.QuadDual(letters, list); !ok || !sameRules(dual, whole) {
				t.Errorf("QuadDual of %q and %d sums that are 0 returned %v and %v", letters, len(list), dual, ok)
			}
			if !impl.QuadIn(letters, list, nil) || !impl.QuadIn(letters, list, []impl.Term{}) || impl.QuadIn(letters, list, whole[0]) {
				t.Errorf("QuadIn of %q and %d sums that are 0 does not hold for 0 alone", letters, len(list))
			}
			if !impl.QuadSame(letters, list, nil) || !impl.QuadSame(letters, nil, list) || impl.QuadSame(letters, list, whole[:1]) {
				t.Errorf("QuadSame of %q and %d sums that are 0 does not hold for no sums alone", letters, len(list))
			}
		}
		if dual, ok := impl.QuadDual(letters, whole); !ok || len(dual) != 0 {
			t.Errorf("QuadDual of %q and all quadratic trees returned %v and %v", letters, dual, ok)
		}
		if base, ok := impl.QuadBase(letters, whole); !ok || !sameRules(base, whole) {
			t.Errorf("QuadBase of %q and all quadratic trees returned %v and %v", letters, base, ok)
		}
	}
}

func TestQuadTreesShareNothing(t *testing.T) {
	letters := lettersOf("abc")
	trees, _ := impl.QuadTrees(letters[:2])
	trees[0] = "x"
	if trees = append(trees, "y"); !slices.Equal(letters, lettersOf("abc")) {
		t.Errorf("behind a change of the result of QuadTrees, %q, the letters are %q", trees, letters)
	}
	if again, ok := impl.QuadTrees(letters[:2]); !ok || !slices.Equal(again, quadTexts(letters[:2])) {
		t.Errorf("behind a change of a result, QuadTrees returned %q and %v", again, ok)
	}
}

func TestDualsShareNothing(t *testing.T) {
	letters := lettersOf("ab")
	list := append(rulesOf("1 (b (b * *) *), 5 (a * (b * *))", "1 (b (a * *) *), 7 (a * (a * *))", "1 (a (b * *) *)"), nil)
	kept := cloneRules(list)
	for name, make := range map[string]func() ([][]impl.Term, bool){
		"QuadBase": func() ([][]impl.Term, bool) { return impl.QuadBase(letters, list[:3]) },
		"QuadDual": func() ([][]impl.Term, bool) { return impl.QuadDual(letters, list[:3]) },
	} {
		first, ok := make()
		want := cloneRules(first)
		second, _ := make()
		if !ok || len(first) < 3 {
			t.Fatalf("%s fails", name)
		}
		for i := range first {
			first[i][0].Coef = 9
			first[i] = append(first[i], impl.Term{Coef: i, Tree: "z"})
			want[i] = append(want[i], impl.Term{Coef: i, Tree: "z"})
			want[i][0].Coef = 9
		}
		if !sameRules(first, want) {
			t.Errorf("behind a change of others, a sum of %s is another one: %v, not %v", name, first, want)
		}
		first = append(first, nil)
		first[0] = nil
		if third, _ := make(); !sameRules(second, third) || !isBase(letters, third) {
			t.Errorf("behind a change of one result %v, %s has returned %v and %v", first, name, second, third)
		}
		if !sameRules(list, kept) || !slices.Equal(letters, lettersOf("ab")) {
			t.Errorf("%s or a change of its result left %v and %q", name, list, letters)
		}
	}
}

// TestRoomBehindArguments has arguments that are the beginnings of longer
// slices: what is behind them must stay, too.
func TestRoomBehindArguments(t *testing.T) {
	letters := slices.Repeat(lettersOf("ab"), 20)
	list := slices.Repeat([][]impl.Term{slices.Repeat(terms("1 (b (b * *) *)"), 30), slices.Repeat(terms("2 (a (a * *) *)"), 30)}, 20)
	for i := range list {
		list[i] = list[i][:1]
	}
	check := func(name string) {
		t.Helper()
		for i, x := range letters {
			if x != "ab"[i%2:i%2+1] {
				t.Fatalf("%s left the letters %q", name, letters)
			}
		}
		for i, a := range list {
			want := terms("1 (b (b * *) *), 2 (a (a * *) *)")[i%2]
			if len(a) != 1 || slices.ContainsFunc(a[:30], func(x impl.Term) bool { return x != want }) {
				t.Fatalf("%s left the sums %v", name, list)
			}
		}
	}
	impl.QuadTrees(letters[:2])
	check("QuadTrees")
	impl.QuadBase(letters[:2], list[:2])
	check("QuadBase")
	impl.QuadPair(letters[:2], list[0], list[1])
	check("QuadPair")
	impl.QuadDual(letters[:2], list[:2])
	check("QuadDual")
	impl.QuadIn(letters[:2], list[:2], list[1])
	check("QuadIn")
	impl.QuadSame(letters[:2], list[:2], list[1:3])
	check("QuadSame")
}
