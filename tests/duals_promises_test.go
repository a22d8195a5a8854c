package tests

import (
	"slices"
	"testing"

	"loop.example/operadtrees/impl"
)

// The promises 44 to 49 of the document, one test each. Each test also compares
// the functions with what is told apart from the program, and checks that the
// condition of the promise does not hold where an argument is invalid.

func mustBase(t *testing.T, letters []string, list [][]impl.Term) [][]impl.Term {
	t.Helper()
	base, ok := impl.QuadBase(letters, list)
	if !ok {
		t.Fatalf("QuadBase(%q, %v) fails", letters, list)
	}
	return base
}

func mustDual(t *testing.T, letters []string, list [][]impl.Term) [][]impl.Term {
	t.Helper()
	dual, ok := impl.QuadDual(letters, list)
	if !ok {
		t.Fatalf("QuadDual(%q, %v) fails", letters, list)
	}
	return dual
}

func TestPromise44QuadTrees(t *testing.T) {
	for _, letters := range allLetters() {
		kept := slices.Clone(letters)
		trees, ok := impl.QuadTrees(letters)
		if !ok || len(trees) != 2*len(letters)*len(letters) || !slices.Equal(trees, quadTexts(letters)) {
			t.Errorf("QuadTrees(%q) returned %q and %v", letters, trees, ok)
		}
		if !slices.Equal(letters, kept) {
			t.Errorf("QuadTrees(%q) left %q", kept, letters)
		}
		for i, s := range trees {
			if impl.TreeLeaves(s) != 3 || impl.TreeNodes(s) != 2 {
				t.Errorf("QuadTrees(%q) has %q", letters, s)
			}
			if i == 0 {
				continue
			}
			if order, ok := impl.TreeOrder(trees[i-1], s); !ok || order != 1 {
				t.Errorf("QuadTrees(%q) has %q ahead of %q", letters, trees[i-1], s)
			}
		}
	}
	for _, letters := range noLetters() {
		if trees, ok := impl.QuadTrees(letters); ok || len(trees) != 0 {
			t.Errorf("QuadTrees of %d letters returned %q and %v", len(letters), trees, ok)
		}
	}
}

func TestPromise45Bases(t *testing.T) {
	for _, letters := range someLetters() {
		for _, list := range spans(letters) {
			kept := cloneRules(list)
			base := mustBase(t, letters, list)
			if !isBaseOf(letters, base, list) {
				t.Errorf("QuadBase(%q, %v) is %v", letters, list, base)
			}
			if again := mustBase(t, letters, base); !sameRules(again, base) {
				t.Errorf("QuadBase(%q, %v) is %v", letters, base, again)
			}
			for _, a := range base {
				if first, ok := impl.SumLead(a); !ok || first.Coef != 1 {
					t.Errorf("QuadBase(%q, %v) has %v", letters, list, a)
				}
			}
			for _, a := range list {
				if !impl.QuadIn(letters, base, a) {
					t.Errorf("%v is not in the span of QuadBase(%q, %v)", a, letters, list)
				}
			}
			if !sameRules(list, kept) {
				t.Errorf("QuadBase(%q, %v) left %v", letters, kept, list)
			}
		}
	}
	for _, letters := range noLetters() {
		for _, list := range [][][]impl.Term{nil, {{}}, rulesOf(assoc)} {
			if base, ok := impl.QuadBase(letters, list); ok || len(base) != 0 {
				t.Errorf("QuadBase of %d letters and %v returned %v and %v", len(letters), list, base, ok)
			}
		}
	}
	for _, list := range noSpans() {
		if base, ok := impl.QuadBase(lettersOf("ab"), list); ok || len(base) != 0 {
			t.Errorf("QuadBase of %d sums, such as %q, returned %v and %v", len(list), shortRules(list), base, ok)
		}
	}
}

func TestPromise46Pairings(t *testing.T) {
	zeros, others := 0, 0
	for _, letters := range someLetters() {
		for _, a := range quadSums(letters) {
			for _, b := range quadSums(letters) {
				pairing := impl.QuadPair(letters, a, b)
				if pairing != pairOf(a, b) || pairing < 0 || pairing >= impl.Prime {
					t.Errorf("QuadPair(%q, %v, %v) is %d", letters, a, b, pairing)
				}
				if other := impl.QuadPair(letters, b, a); other != pairing {
					t.Errorf("QuadPair(%q, %v, %v) is %d, and exchanged %d", letters, a, b, pairing, other)
				}
				if twice := impl.QuadPair(letters, a, mustScale(t, b, 2)); twice != remainder(2*pairing) {
					t.Errorf("QuadPair(%q, %v, %v) is %d, and of twice the other one %d", letters, a, b, pairing, twice)
				}
				if pairing == 0 {
					zeros++
				} else {
					others++
				}
			}
		}
	}
	if zeros < 500 || others < 500 {
		t.Errorf("%d pairings are 0, and %d are not", zeros, others)
	}
	for _, letters := range noLetters() {
		for _, a := range [][]impl.Term{nil, terms(assoc)} {
			if pairing := impl.QuadPair(letters, a, a); pairing != -1 {
				t.Errorf("QuadPair of %d letters and twice %v is %d", len(letters), a, pairing)
			}
		}
	}
	for _, a := range noQuadSums() {
		for _, b := range [][]impl.Term{nil, terms(assoc), a} {
			if n, m := impl.QuadPair(lettersOf("ab"), a, b), impl.QuadPair(lettersOf("ab"), b, a); n != -1 || m != -1 {
				t.Errorf("QuadPair of %d terms, such as %q, and of %d terms is %d, and exchanged %d", len(a), short(a[0].Tree), len(b), n, m)
			}
		}
	}
}

func TestPromise47Duals(t *testing.T) {
	for _, letters := range someLetters() {
		for _, list := range spans(letters) {
			kept := cloneRules(list)
			base, dual := mustBase(t, letters, list), mustDual(t, letters, list)
			if !isDualOf(letters, dual, list) {
				t.Errorf("QuadDual(%q, %v) is %v", letters, list, dual)
			}
			if len(base)+len(dual) != 2*len(letters)*len(letters) {
				t.Errorf("QuadBase and QuadDual of %q and %v have %d and %d sums", letters, list, len(base), len(dual))
			}
			for _, a := range list {
				for _, b := range dual {
					if pairing := impl.QuadPair(letters, a, b); pairing != 0 {
						t.Errorf("QuadDual(%q, %v) has %v, the pairing of which and %v is %d", letters, list, b, a, pairing)
					}
				}
			}
			if back := mustDual(t, letters, dual); !sameRules(back, base) {
				t.Errorf("QuadDual(%q, %v) is %v, and its dual is %v, not %v", letters, list, dual, back, base)
			}
			if !sameRules(list, kept) {
				t.Errorf("QuadDual(%q, %v) left %v", letters, kept, list)
			}
		}
	}
	for _, letters := range noLetters() {
		for _, list := range [][][]impl.Term{nil, {{}}, rulesOf(assoc)} {
			if dual, ok := impl.QuadDual(letters, list); ok || len(dual) != 0 {
				t.Errorf("QuadDual of %d letters and %v returned %v and %v", len(letters), list, dual, ok)
			}
		}
	}
	for _, list := range noSpans() {
		if dual, ok := impl.QuadDual(lettersOf("ab"), list); ok || len(dual) != 0 {
			t.Errorf("QuadDual of %d sums, such as %q, returned %v and %v", len(list), shortRules(list), dual, ok)
		}
	}
}

func TestPromise48InSpans(t *testing.T) {
	in, out := 0, 0
	for _, letters := range someLetters() {
		for _, list := range spans(letters) {
			base := mustBase(t, letters, list)
			for i, a := range append(quadSums(letters), list...) {
				has := impl.QuadIn(letters, list, a)
				if has != inSpan(list, a) || i == 0 && !has {
					t.Errorf("QuadIn(%q, %v, %v) is %v", letters, list, a, has)
				}
				if !has {
					out++
					continue
				}
				in++
				if !impl.QuadIn(letters, base, a) {
					t.Errorf("QuadIn(%q, %v, %v) holds, but not for the base %v", letters, list, a, base)
				}
				if len(list) > 19 {
					continue
				}
				if more := mustBase(t, letters, append(slices.Clone(list), a)); !sameRules(more, base) {
					t.Errorf("QuadIn(%q, %v, %v) holds, but with it the base is %v, not %v", letters, list, a, more, base)
				}
			}
		}
	}
	if in < 3000 || out < 3000 {
		t.Errorf("%d sums are in spans, and %d are not", in, out)
	}
	for _, letters := range noLetters() {
		for _, a := range [][]impl.Term{nil, terms(assoc)} {
			if impl.QuadIn(letters, nil, a) || impl.QuadIn(letters, [][]impl.Term{a}, a) {
				t.Errorf("QuadIn of %d letters and %v holds", len(letters), a)
			}
		}
	}
	for _, list := range noSpans() {
		if impl.QuadIn(lettersOf("ab"), list, nil) || impl.QuadIn(lettersOf("ab"), list, terms(assoc)) {
			t.Errorf("QuadIn of %d sums, such as %q, holds", len(list), shortRules(list))
		}
	}
	for _, a := range noQuadSums() {
		if impl.QuadIn(lettersOf("ab"), wholeSpan(lettersOf("ab")), a) || impl.QuadIn(lettersOf("ab"), [][]impl.Term{a}, a) {
			t.Errorf("QuadIn holds for %d terms, such as %q", len(a), short(a[0].Tree))
		}
	}
}

func TestPromise49SameSpans(t *testing.T) {
	same, unlike := 0, 0
	for _, letters := range someLetters() {
		lists := spans(letters)
		for i, a := range lists {
			others := [][][]impl.Term{a, mustBase(t, letters, a), mustDual(t, letters, a), lists[i*7%len(lists)], lists[(i+1)%len(lists)]}
			for _, b := range others {
				holds := impl.QuadSame(letters, a, b)
				if holds != sameSpan(a, b) {
					t.Errorf("QuadSame(%q, %v, %v) is %v", letters, a, b, holds)
				}
				if exchanged := impl.QuadSame(letters, b, a); exchanged != holds {
					t.Errorf("QuadSame(%q, %v, %v) is %v, and exchanged %v", letters, a, b, holds, exchanged)
				}
				if dual := sameRules(mustDual(t, letters, a), mustDual(t, letters, b)); dual != holds {
					t.Errorf("QuadSame(%q, %v, %v) is %v, and that both duals are the same is %v", letters, a, b, holds, dual)
				}
				if holds {
					same++
				} else {
					unlike++
				}
			}
		}
	}
	if same < 500 || unlike < 500 {
		t.Errorf("%d spans are the same, and %d are not", same, unlike)
	}
	for _, letters := range noLetters() {
		for _, list := range [][][]impl.Term{nil, {{}}, rulesOf(assoc)} {
			if impl.QuadSame(letters, list, list) {
				t.Errorf("QuadSame of %d letters and twice %v holds", len(letters), list)
			}
		}
	}
	for _, list := range noSpans() {
		for _, good := range [][][]impl.Term{nil, wholeSpan(lettersOf("ab")), list} {
			if impl.QuadSame(lettersOf("ab"), list, good) || impl.QuadSame(lettersOf("ab"), good, list) {
				t.Errorf("QuadSame of %d sums, such as %q, and of %d sums holds", len(list), shortRules(list), len(good))
			}
		}
	}
}
