package tests

import (
	"slices"
	"testing"

	"loop.example/operadtrees/impl"
)

// What the functions of chapter 6 return, for each kind of argument. They are
// compared with what is told apart from the program in duals_promises_test.go.

// Three pairs of duals, known by the names of the algebras with two or three
// products that they tell.

// dendriform returns rules with the products a, to the left, and b, to the right.
func dendriform() [][]impl.Term {
	return rulesOf(
		"1 (a (a * *) *), 100 (a * (b * *)), 100 (a * (a * *))",
		"1 (a (b * *) *), 100 (b * (a * *))",
		"1 (b (b * *) *), 1 (b (a * *) *), 100 (b * (b * *))",
	)
}

func diassociative() [][]impl.Term {
	return rulesOf(
		"1 (a (a * *) *), 100 (a * (a * *))",
		"1 (a (a * *) *), 100 (a * (b * *))",
		"1 (a (b * *) *), 100 (b * (a * *))",
		"1 (b (a * *) *), 100 (b * (b * *))",
		"1 (b (b * *) *), 100 (b * (b * *))",
	)
}

// duplicial returns rules with two products, each of which is associative, and
// one more between them.
func duplicial() [][]impl.Term {
	return rulesOf(assoc, "1 (b (b * *) *), 100 (b * (b * *))", "1 (a (b * *) *), 100 (b * (a * *))")
}

func duplicialDual() [][]impl.Term {
	return append(duplicial(), rulesOf("1 (b (a * *) *)", "1 (a * (b * *))")...)
}

// tridendriform returns rules with the products a, to the left, b, to the right,
// and c, in the middle.
func tridendriform() [][]impl.Term {
	return rulesOf(
		"1 (a (a * *) *), 100 (a * (c * *)), 100 (a * (b * *)), 100 (a * (a * *))",
		"1 (a (b * *) *), 100 (b * (a * *))",
		"1 (b (c * *) *), 1 (b (b * *) *), 1 (b (a * *) *), 100 (b * (b * *))",
		"1 (c (b * *) *), 100 (b * (c * *))",
		"1 (c (a * *) *), 100 (c * (b * *))",
		"1 (a (c * *) *), 100 (c * (a * *))",
		"1 (c (c * *) *), 100 (c * (c * *))",
	)
}

func triassociative() [][]impl.Term {
	return append(diassociative(), rulesOf(
		"1 (a (a * *) *), 100 (a * (c * *))",
		"1 (a (c * *) *), 100 (c * (a * *))",
		"1 (c (a * *) *), 100 (c * (b * *))",
		"1 (c (b * *) *), 100 (b * (c * *))",
		"1 (b (c * *) *), 100 (b * (b * *))",
		"1 (c (c * *) *), 100 (c * (c * *))",
	)...)
}

func TestQuadTreesTold(t *testing.T) {
	for _, x := range []struct {
		letters string
		trees   []string
	}{
		{"a", []string{"(a (a * *) *)", "(a * (a * *))"}},
		{"h", []string{"(h (h * *) *)", "(h * (h * *))"}},
		{"ab", []string{
			"(b (b * *) *)", "(b (a * *) *)", "(a (b * *) *)", "(a (a * *) *)",
			"(b * (b * *))", "(b * (a * *))", "(a * (b * *))", "(a * (a * *))",
		}},
		{"ge", []string{
			"(g (g * *) *)", "(g (e * *) *)", "(e (g * *) *)", "(e (e * *) *)",
			"(g * (g * *))", "(g * (e * *))", "(e * (g * *))", "(e * (e * *))",
		}},
		{"bca", []string{
			"(c (c * *) *)", "(c (b * *) *)", "(c (a * *) *)", "(b (c * *) *)", "(b (b * *) *)", "(b (a * *) *)", "(a (c * *) *)", "(a (b * *) *)", "(a (a * *) *)",
			"(c * (c * *))", "(c * (b * *))", "(c * (a * *))", "(b * (c * *))", "(b * (b * *))", "(b * (a * *))", "(a * (c * *))", "(a * (b * *))", "(a * (a * *))",
		}},
	} {
		if trees, ok := impl.QuadTrees(lettersOf(x.letters)); !ok || !slices.Equal(trees, x.trees) {
			t.Errorf("QuadTrees of %s returned %q and %v", x.letters, trees, ok)
		}
	}
}

func TestQuadBaseTold(t *testing.T) {
	const l, r = leftTree, rightTree
	for _, x := range []struct {
		letters    string
		list, base [][]impl.Term
	}{
		// Spans of nothing.
		{"a", nil, nil},
		{"abc", [][]impl.Term{}, nil},
		{"h", rulesOf(""), nil},
		{"ba", rulesOf("", "", ""), nil},
		// The first coefficient becomes 1.
		{"a", rulesOf("1 " + l), rulesOf("1 " + l)},
		{"a", rulesOf("7 " + l), rulesOf("1 " + l)},
		{"a", rulesOf("100 " + r), rulesOf("1 " + r)},
		{"a", rulesOf("2 " + l + ", 1 " + r), rulesOf("1 " + l + ", 51 " + r)},
		{"a", rulesOf("100 " + l + ", 1 " + r), rulesOf(assoc)},
		{"ab", rulesOf("3 (a (a * *) *), 98 (a * (a * *))"), rulesOf(assoc)},
		// Multiples of each other.
		{"a", rulesOf(assoc, assoc), rulesOf(assoc)},
		{"a", rulesOf("2 "+l+", 1 "+r, "1 "+l+", 51 "+r, "", "4 "+l+", 2 "+r), rulesOf("1 " + l + ", 51 " + r)},
		// First trees in other sums.
		{"a", rulesOf("1 "+l+", 100 "+r, "1 "+l+", 1 "+r), rulesOf("1 "+l, "1 "+r)},
		{"a", rulesOf("5 "+r, "3 "+l+", 8 "+r), rulesOf("1 "+l, "1 "+r)},
		{"ab", rulesOf("1 (b * (a * *)), 5 (a * (a * *))", "1 (b (b * *) *), 2 (b * (a * *)), 3 (a * (b * *))"),
			rulesOf("1 (b (b * *) *), 3 (a * (b * *)), 91 (a * (a * *))", "1 (b * (a * *)), 5 (a * (a * *))")},
		{"ab", rulesOf("1 (b (b * *) *), 1 (b (a * *) *)", "1 (b (a * *) *), 1 (a (b * *) *)", "1 (a (b * *) *), 1 (a (a * *) *)"),
			rulesOf("1 (b (b * *) *), 1 (a (a * *) *)", "1 (b (a * *) *), 100 (a (a * *) *)", "1 (a (b * *) *), 1 (a (a * *) *)")},
		{"ba", rulesOf("1 (a (b * *) *), 1 (a (a * *) *)", "1 (b (b * *) *), 1 (b (a * *) *)", "1 (b (a * *) *), 1 (a (b * *) *)"),
			rulesOf("1 (b (b * *) *), 1 (a (a * *) *)", "1 (b (a * *) *), 100 (a (a * *) *)", "1 (a (b * *) *), 1 (a (a * *) *)")},
		{"abc", diassociative(), rulesOf(
			"1 (b (b * *) *), 100 (b * (b * *))",
			"1 (b (a * *) *), 100 (b * (b * *))",
			"1 (a (b * *) *), 100 (b * (a * *))",
			"1 (a (a * *) *), 100 (a * (a * *))",
			"1 (a * (b * *)), 100 (a * (a * *))",
		)},
	} {
		kept := cloneRules(x.list)
		base, ok := impl.QuadBase(lettersOf(x.letters), x.list)
		if !ok || !sameRules(base, x.base) {
			t.Errorf("QuadBase of %s and %v returned %v and %v, not %v", x.letters, x.list, base, ok, x.base)
		}
		if !sameRules(x.list, kept) {
			t.Errorf("QuadBase of %s and %v left %v", x.letters, kept, x.list)
		}
	}
}

func TestQuadPairTold(t *testing.T) {
	for _, x := range []struct {
		letters, a, b string
		pairing       int
	}{
		{"a", "", "", 0},
		{"a", "1 (a (a * *) *)", "", 0},
		{"abc", "", "1 (a * (a * *))", 0},
		{"a", "1 (a (a * *) *)", "1 (a (a * *) *)", 1},
		{"a", "1 (a * (a * *))", "1 (a * (a * *))", 100},
		{"a", "7 (a (a * *) *)", "9 (a (a * *) *)", 63},
		{"a", "7 (a * (a * *))", "9 (a * (a * *))", 38},
		{"a", "20 (a (a * *) *)", "30 (a (a * *) *)", 95},
		{"a", "20 (a * (a * *))", "30 (a * (a * *))", 6},
		{"a", "1 (a (a * *) *)", "1 (a * (a * *))", 0},
		{"a", assoc, assoc, 0},
		{"h", "1 (h (h * *) *), 100 (h * (h * *))", "1 (h (h * *) *), 1 (h * (h * *))", 2},
		{"a", "1 (a (a * *) *), 2 (a * (a * *))", "3 (a (a * *) *), 4 (a * (a * *))", 96},
		{"a", "10 (a (a * *) *)", "10 (a (a * *) *)", 100},
		{"a", "100 (a (a * *) *), 100 (a * (a * *))", "100 (a (a * *) *)", 1},
		{"ab", assoc, "1 (b (b * *) *), 100 (b * (b * *))", 0},
		{"ba", "1 (b (a * *) *)", "1 (a (b * *) *)", 0},
		{"ba", "5 (b (a * *) *), 3 (a (b * *) *)", "2 (a (b * *) *)", 6},
		{"ab", "5 (b * (a * *)), 3 (a * (b * *))", "2 (a * (b * *))", 95},
		{"ab", "1 (b (b * *) *), 2 (b (a * *) *), 3 (a (b * *) *), 4 (a (a * *) *), 5 (b * (b * *)), 6 (b * (a * *)), 7 (a * (b * *)), 8 (a * (a * *))",
			"1 (b (b * *) *), 1 (b (a * *) *), 1 (a (b * *) *), 1 (a (a * *) *), 1 (b * (b * *)), 1 (b * (a * *)), 1 (a * (b * *)), 1 (a * (a * *))", 85},
		{"cab", "3 (c (b * *) *), 4 (c * (b * *))", "5 (c (b * *) *), 2 (c * (b * *))", 7},
	} {
		a, b := terms(x.a), terms(x.b)
		if pairing := impl.QuadPair(lettersOf(x.letters), a, b); pairing != x.pairing {
			t.Errorf("QuadPair of %s, %q and %q is %d, not %d", x.letters, x.a, x.b, pairing, x.pairing)
		}
		if !slices.Equal(a, terms(x.a)) || !slices.Equal(b, terms(x.b)) {
			t.Errorf("QuadPair of %s, %q and %q left %v and %v", x.letters, x.a, x.b, a, b)
		}
	}
	// As a function of all quadratic trees, the pairing is 1 or 100 for equal ones.
	for _, letters := range someLetters() {
		trees := quadTexts(letters)
		for i, s := range trees {
			for j, u := range trees {
				want := 0
				switch {
				case i == j && i < len(trees)/2:
					want = 1
				case i == j:
					want = 100
				}
				if pairing := impl.QuadPair(letters, terms("1 "+s), terms("1 "+u)); pairing != want {
					t.Errorf("QuadPair of %q, %q and %q is %d, not %d", letters, s, u, pairing, want)
				}
			}
		}
	}
}

func TestQuadDualTold(t *testing.T) {
	const l, r = leftTree, rightTree
	for _, x := range []struct {
		letters    string
		list, dual [][]impl.Term
	}{
		{"a", nil, rulesOf("1 "+l, "1 "+r)},
		{"a", rulesOf("", ""), rulesOf("1 "+l, "1 "+r)},
		{"a", rulesOf("5 "+r, "3 "+l), nil},
		{"a", rulesOf(assoc, "1 "+l+", 1 "+r), nil},
		{"a", rulesOf("1 " + l), rulesOf("1 " + r)},
		{"a", rulesOf("9 " + r), rulesOf("1 " + l)},
		{"a", rulesOf(assoc), rulesOf(assoc)},
		{"a", rulesOf("1 " + l + ", 1 " + r), rulesOf("1 " + l + ", 1 " + r)},
		{"a", rulesOf("1 " + l + ", 2 " + r), rulesOf("1 " + l + ", 51 " + r)},
		{"a", rulesOf("2 " + l + ", 5 " + r), rulesOf("1 " + l + ", 61 " + r)},
		{"a", rulesOf("4 "+l+", 10 "+r, "2 "+l+", 5 "+r), rulesOf("1 " + l + ", 61 " + r)},
		{"bc", nil, wholeSpan(lettersOf("bc"))},
		{"cab", rulesOf(""), wholeSpan(lettersOf("abc"))},
		{"ab", wholeSpan(lettersOf("ab")), nil},
		{"bca", append(wholeSpan(lettersOf("abc")), terms(assoc), nil), nil},
		// Within one form, the signs are alike.
		{"ab", rulesOf("1 (b (a * *) *), 1 (a (b * *) *)"), append(rulesOf(
			"1 (b (b * *) *)", "1 (b (a * *) *), 100 (a (b * *) *)", "1 (a (a * *) *)"), wholeSpan(lettersOf("ab"))[4:]...)},
		{"ba", rulesOf("1 (b * (a * *)), 3 (a * (b * *))"), append(wholeSpan(lettersOf("ab"))[:4], rulesOf(
			"1 (b * (b * *))", "1 (b * (a * *)), 67 (a * (b * *))", "1 (a * (a * *))")...)},
		{"ab", rulesOf(assoc), append(wholeSpan(lettersOf("ab"))[:3], rulesOf(
			assoc, "1 (b * (b * *))", "1 (b * (a * *))", "1 (a * (b * *))")...)},
	} {
		kept := cloneRules(x.list)
		dual, ok := impl.QuadDual(lettersOf(x.letters), x.list)
		if !ok || !sameRules(dual, x.dual) {
			t.Errorf("QuadDual of %s and %v returned %v and %v, not %v", x.letters, x.list, dual, ok, x.dual)
		}
		if !sameRules(x.list, kept) {
			t.Errorf("QuadDual of %s and %v left %v", x.letters, kept, x.list)
		}
	}
}

func TestQuadDualsOfKnownAlgebras(t *testing.T) {
	for _, x := range []struct {
		name, letters string
		list, dual    [][]impl.Term
		sums          int
	}{
		{"dendriform", "ab", dendriform(), diassociative(), 3},
		{"duplicial", "ab", duplicial(), duplicialDual(), 3},
		{"tridendriform", "abc", tridendriform(), triassociative(), 7},
	} {
		letters := lettersOf(x.letters)
		base, dual := mustBase(t, letters, x.list), mustDual(t, letters, x.list)
		if len(base) != x.sums || !sameRules(dual, mustBase(t, letters, x.dual)) {
			t.Errorf("the %s algebras have the base %v and the dual %v", x.name, base, dual)
		}
		if back := mustDual(t, letters, x.dual); !sameRules(back, base) {
			t.Errorf("the dual of the dual of the %s algebras is %v, not %v", x.name, back, base)
		}
		if !impl.QuadSame(letters, dual, x.dual) || impl.QuadSame(letters, x.list, x.dual) {
			t.Errorf("QuadSame does not tell the %s algebras and their dual apart", x.name)
		}
		for _, a := range x.dual {
			if !impl.QuadIn(letters, dual, a) || impl.QuadIn(letters, x.list, a) != inSpan(x.list, a) {
				t.Errorf("QuadIn of the %s algebras does not tell %v", x.name, a)
			}
		}
	}
}

func TestQuadInTold(t *testing.T) {
	const l, r = leftTree, rightTree
	list := rulesOf("1 (b (b * *) *), 1 (b (a * *) *)", "1 (b (a * *) *), 1 (a (b * *) *)", "1 (a (b * *) *), 1 (a (a * *) *)")
	for _, x := range []struct {
		letters string
		list    [][]impl.Term
		a       string
		in      bool
	}{
		// 0 is in every span.
		{"a", nil, "", true},
		{"abc", [][]impl.Term{}, "", true},
		{"ab", rulesOf("", ""), "", true},
		{"ab", list, "", true},
		{"ba", wholeSpan(lettersOf("ab")), "", true},
		// Nothing else is in a span of nothing, and everything in that of all.
		{"a", nil, "1 " + l, false},
		{"a", rulesOf(""), "100 " + r, false},
		{"a", rulesOf("1 "+l, "2 "+r), "37 " + l + ", 91 " + r, true},
		{"bc", wholeSpan(lettersOf("bc")), "4 (c (b * *) *), 9 (b * (c * *))", true},
		// Multiples.
		{"a", rulesOf(assoc), assoc, true},
		{"a", rulesOf(assoc), "60 " + l + ", 41 " + r, true},
		{"a", rulesOf(assoc), "60 " + l + ", 42 " + r, false},
		{"a", rulesOf(assoc), "1 " + l, false},
		{"a", rulesOf(assoc), "1 " + r, false},
		{"a", rulesOf("2 " + l + ", 1 " + r), "1 " + l + ", 51 " + r, true},
		// Several sums together.
		{"ab", list, "1 (b (b * *) *), 1 (a (a * *) *)", true},
		{"ab", list, "1 (b (b * *) *), 100 (a (b * *) *)", true},
		{"ab", list, "1 (b (b * *) *), 100 (a (a * *) *)", false},
		{"ab", list, "2 (b (b * *) *), 3 (b (a * *) *), 4 (a (b * *) *), 3 (a (a * *) *)", true},
		{"ab", list, "2 (b (b * *) *), 3 (b (a * *) *), 4 (a (b * *) *), 4 (a (a * *) *)", false},
		{"ab", list, "1 (b (b * *) *), 1 (b (a * *) *), 1 (b * (b * *))", false},
		{"ab", list, "1 (b * (b * *)), 1 (b * (a * *))", false},
	} {
		a, kept := terms(x.a), cloneRules(x.list)
		if in := impl.QuadIn(lettersOf(x.letters), x.list, a); in != x.in {
			t.Errorf("QuadIn of %s, %v and %q is %v", x.letters, x.list, x.a, in)
		}
		if !slices.Equal(a, terms(x.a)) || !sameRules(x.list, kept) {
			t.Errorf("QuadIn of %s, %v and %q left %v and %v", x.letters, kept, x.a, x.list, a)
		}
	}
}

func TestQuadInOfOneLetter(t *testing.T) {
	// All sums of both trees, for spans of just the multiples of one sum.
	for _, first := range []impl.Term{{Coef: 1, Tree: leftTree}, {Coef: 10, Tree: leftTree}, {Coef: 100, Tree: leftTree}} {
		for n := range 101 {
			span := [][]impl.Term{append([]impl.Term{first}, scaleTexts(terms("1 "+rightTree), n)...)}
			for i := range 101 {
				a := append(scaleTexts(terms("1 "+leftTree), i), scaleTexts(terms("1 "+rightTree), n+i*i)...)
				want := remainder(i*n-(n+i*i)*first.Coef) == 0
				if in := impl.QuadIn([]string{"a"}, span, a); in != want {
					t.Errorf("QuadIn of %v and %v is %v", span, a, in)
				}
				if same := impl.QuadSame([]string{"a"}, span, [][]impl.Term{a}); same != (want && len(a) > 0) {
					t.Errorf("QuadSame of %v and %v is %v", span, a, same)
				}
			}
		}
	}
}

func TestQuadSameTold(t *testing.T) {
	const l, r = leftTree, rightTree
	for _, x := range []struct {
		letters string
		a, b    [][]impl.Term
		same    bool
	}{
		{"a", nil, nil, true},
		{"a", nil, rulesOf("", ""), true},
		{"ab", rulesOf(""), [][]impl.Term{}, true},
		{"a", nil, rulesOf("1 " + l), false},
		{"a", rulesOf("1 " + l), rulesOf("2 " + l), true},
		{"a", rulesOf("1 " + l), rulesOf("1 " + r), false},
		{"a", rulesOf("1 " + l), rulesOf("1 "+l, "1 "+r), false},
		{"a", rulesOf(assoc, "1 "+l), rulesOf("1 "+l, "1 "+r), true},
		{"a", rulesOf(assoc), rulesOf("100 "+l+", 1 "+r, "", "50 "+l+", 51 "+r), true},
		{"a", rulesOf(assoc), rulesOf("1 " + l + ", 1 " + r), false},
		{"abc", wholeSpan(lettersOf("ab")), wholeSpan(lettersOf("ba")), true},
		{"abc", wholeSpan(lettersOf("ab")), wholeSpan(lettersOf("ac")), false},
		{"ba", dendriform(), append(dendriform(), dendriform()...), true},
		{"ba", dendriform(), dendriform()[:2], false},
		{"ab", dendriform(), diassociative(), false},
		// As many sums that begin with the same trees.
		{"ab", rulesOf("1 (b (b * *) *), 2 (a (a * *) *)"), rulesOf("1 (b (b * *) *), 3 (a (a * *) *)"), false},
		{"ab", rulesOf("1 (b (b * *) *), 2 (a * (a * *))"), rulesOf("1 (b (b * *) *), 2 (a * (b * *))"), false},
	} {
		a, b := cloneRules(x.a), cloneRules(x.b)
		if same := impl.QuadSame(lettersOf(x.letters), x.a, x.b); same != x.same {
			t.Errorf("QuadSame of %s, %v and %v is %v", x.letters, x.a, x.b, same)
		}
		if !sameRules(x.a, a) || !sameRules(x.b, b) {
			t.Errorf("QuadSame of %s, %v and %v left %v and %v", x.letters, a, b, x.a, x.b)
		}
	}
}
