package tests

import (
	"slices"
	"testing"

	"loop.example/operadtrees/impl"
)

// What the functions of chapter 3 return, for each kind of argument.

// listSum is a list of terms with what is made of it.
type listSum struct {
	list, sum string
}

func TestPrime(t *testing.T) {
	if impl.Prime != 101 {
		t.Errorf("Prime is %d", impl.Prime)
	}
}

func TestSumValid(t *testing.T) {
	for _, a := range allSums() {
		kept := slices.Clone(a)
		if !isSum(a) {
			t.Fatalf("the corpus has %v", a)
		}
		if !impl.SumValid(a) {
			t.Errorf("SumValid(%v) does not hold", a)
		}
		if !slices.Equal(a, kept) {
			t.Errorf("SumValid(%v) left %v", kept, a)
		}
	}
	if !impl.SumValid(nil) {
		t.Error("SumValid(nil) does not hold")
	}
	for _, a := range noSums() {
		if len(a) < 1000 && isSum(a) {
			t.Fatalf("the corpus of lists that are no sum has %v", a)
		}
		if impl.SumValid(a) {
			t.Errorf("SumValid of %d terms, such as %d %q, holds", len(a), a[0].Coef, short(a[0].Tree))
		}
	}
}

func TestSumValidOfAllCoefficients(t *testing.T) {
	for n := -210; n <= 210; n++ {
		for _, s := range []string{"*", "(a *)", twelveLeaves} {
			a := []impl.Term{{Coef: n, Tree: s}}
			if impl.SumValid(a) != (n >= 1 && n <= 100) {
				t.Errorf("SumValid(%v) is wrong", a)
			}
		}
	}
}

func TestSumValidAgainstTexts(t *testing.T) {
	holds, trees := 0, orderTrees()
	for _, s := range trees {
		for _, u := range trees {
			a := []impl.Term{{Coef: 1, Tree: s}, {Coef: 100, Tree: u}}
			if impl.SumValid(a) != isSum(a) {
				t.Errorf("SumValid(%v) is %v", a, !isSum(a))
			}
			if isSum(a) {
				holds++
			}
		}
	}
	if holds < 500 {
		t.Errorf("only %d are sums", holds)
	}
}

func TestSumOfTold(t *testing.T) {
	for _, x := range []listSum{
		{"", ""},
		{"1 *", "1 *"},
		{"0 *", ""},
		{"100 *", "100 *"},
		{"101 *", ""},
		{"102 *", "1 *"},
		{"-1 *", "100 *"},
		{"-100 *", "1 *"},
		{"-101 *", ""},
		{"-102 *", "100 *"},
		{"1000000 *", "100 *"}, // 101 times 9900 is 999900
		{"999999 *", "99 *"},
		{"-999999 *", "2 *"},
		{"-1000000 *", "1 *"},
		{"1000000 *, -1000000 *", ""},
		{"1000000 *, 1000000 *", "99 *"},
		{"1 *, 1 (a *)", "1 (a *), 1 *"},
		{"1 (a * *), 1 (b * *)", "1 (b * *), 1 (a * *)"},
		{"1 (a (b * *)), 1 (a (b *) (b *))", "1 (a (b *) (b *)), 1 (a (b * *))"},
		{"-1 (a * (a * *)), 1 (a (a * *) *)", "1 (a (a * *) *), 100 (a * (a * *))"},
		{"60 (a *), 41 (a *)", ""},
		{"60 (a *), 40 (a *)", "100 (a *)"},
		{"60 (a *), 42 (a *)", "1 (a *)"},
		{"60 (a *), 3 *, 41 (a *)", "3 *"},
		{"3 *, 60 (a *), 41 (a *)", "3 *"},
		{"1 (c *), 1 (b *), 1 (a *), -1 (b *)", "1 (c *), 1 (a *)"},
		{"0 (a * *), 0 (b * *), 5 (c * *)", "5 (c * *)"},
		{"1 " + chain(16, "*") + ", 100 " + chain(16, "*"), ""},
		{"2 " + twelveLeaves + ", 3 " + chain(13, twelveLeaves), "3 " + chain(13, twelveLeaves) + ", 2 " + twelveLeaves},
	} {
		if sum, ok := impl.SumOf(terms(x.list)); !ok || !slices.Equal(sum, terms(x.sum)) {
			t.Errorf("SumOf(%q) returned %v and %v", x.list, sum, ok)
		}
	}
	if sum, ok := impl.SumOf(nil); !ok || len(sum) != 0 {
		t.Errorf("SumOf(nil) returned %v and %v", sum, ok)
	}
}

func TestSumOfAgainstTexts(t *testing.T) {
	zeros := 0
	for _, list := range orderedLists() {
		kept := slices.Clone(list)
		want, ok := sumOfCoefs(coefsOf(list))
		if !ok {
			t.Fatalf("the corpus has %v", list)
		}
		if sum, ok := impl.SumOf(list); !ok || !slices.Equal(sum, want) {
			t.Errorf("SumOf(%v) returned %v and %v", list, sum, ok)
		}
		if !slices.Equal(list, kept) {
			t.Errorf("SumOf(%v) left %v", kept, list)
		}
		if len(want) < len(coefsOf(list)) {
			zeros++
		}
	}
	if zeros < 20 {
		t.Errorf("only in %d lists a tree comes to the coefficient 0", zeros)
	}
}

func TestSumOfAllCoefficients(t *testing.T) {
	for n := -1000000; n <= 1000000; n += 499 {
		for m := n; m < n+3 && m <= 1000000; m++ {
			want, _ := sumOfCoefs(map[string]int{"(a *)": m})
			if sum, ok := impl.SumOf([]impl.Term{{Coef: m, Tree: "(a *)"}}); !ok || !slices.Equal(sum, want) {
				t.Errorf("SumOf of %d (a *) returned %v and %v", m, sum, ok)
			}
		}
	}
}

func TestSumOfSixtyTerms(t *testing.T) {
	for _, trees := range groups() {
		if len(trees) < 61 {
			continue
		}
		list := []impl.Term{}
		for i, s := range trees[:60] {
			list = append(list, impl.Term{Coef: []int{-1000000, 1000000}[i%2], Tree: s})
		}
		want, _ := sumOfCoefs(coefsOf(list))
		sum, ok := impl.SumOf(list)
		if !ok || len(sum) != 60 || !slices.Equal(sum, want) {
			t.Errorf("SumOf of 60 terms returned %v and %v", sum, ok)
		}
		// One more is too many, even if nothing is left of it.
		for _, x := range []impl.Term{{Coef: 1, Tree: trees[60]}, {Coef: 0, Tree: trees[60]}, list[0], {Coef: -list[0].Coef, Tree: trees[0]}} {
			if sum, ok := impl.SumOf(append(slices.Clone(list), x)); ok || len(sum) != 0 {
				t.Errorf("SumOf of 61 terms returned %v and %v", sum, ok)
			}
		}
	}
}

func TestSumOfFails(t *testing.T) {
	fails := func(list []impl.Term) {
		t.Helper()
		if sum, ok := impl.SumOf(list); ok || len(sum) != 0 {
			t.Errorf("SumOf of %d terms, such as %d %q, returned %v and %v", len(list), list[0].Coef, short(list[0].Tree), sum, ok)
		}
	}
	for _, list := range noTerms() {
		fails(list)
		for _, n := range []int{0, 101, -1} {
			other := slices.Clone(list)
			for i := range other {
				other[i].Coef = n
			}
			fails(other)
		}
	}
	for _, text := range []string{
		"0 (a * *), 1 *", "1 (a * *), 0 *", "0 (a * *), 0 *", "101 (a * *), 1 *", "1 (a * *), -101 *",
		"1 (a * *), 1 *, -1 *", "1 (a * *), -1 (a * *), 1 *", "1 (a * *), 100 (a * *), 1 (a * * *), 100 (a * * *)",
	} {
		fails(terms(text))
	}
	for _, n := range numbersOut() {
		fails([]impl.Term{{Coef: n, Tree: "*"}})
		fails([]impl.Term{{Coef: 1, Tree: "*"}, {Coef: n, Tree: "(a *)"}})
		fails([]impl.Term{{Coef: n, Tree: "(a * *)"}, {Coef: -1, Tree: "(a * *)"}})
	}
}

// numbersOut returns numbers out of the range from -1000000 to 1000000, also
// such as are 0 or 1 modulo Prime or if they are cut to fewer bits.
func numbersOut() []int {
	const most = int(^uint(0) >> 1)
	return []int{1000001, -1000001, 1000102, 1000103, -1000102, 2000000, 1 << 32, 1<<32 + 1, -1 << 32, most, most - 1, -most, -most - 1}
}

func TestSumAddTold(t *testing.T) {
	for _, x := range []struct{ a, b, sum string }{
		{"", "", ""},
		{"1 *", "", "1 *"},
		{"", "100 (a * *)", "100 (a * *)"},
		{"1 *", "1 *", "2 *"},
		{"1 *", "99 *", "100 *"},
		{"1 *", "100 *", ""},
		{"2 *", "100 *", "1 *"},
		{"100 *", "100 *", "99 *"},
		{"1 (a *)", "1 *", "1 (a *), 1 *"},
		{"1 *", "1 (a *)", "1 (a *), 1 *"},
		{"1 (c * *), 2 (a * *)", "3 (b * *)", "1 (c * *), 3 (b * *), 2 (a * *)"},
		{"1 (c * *), 2 (a * *)", "100 (c * *), 99 (a * *)", ""},
		{"1 (c * *), 2 (a * *)", "100 (c * *), 98 (a * *)", "100 (a * *)"},
		{"1 (c * *), 2 (a * *)", "3 (c * *), 99 (a * *)", "4 (c * *)"},
		{"5 (c * *), 6 (b * *), 7 (a * *)", "95 (b * *)", "5 (c * *), 7 (a * *)"},
		{"60 " + chain(16, "*"), "41 " + chain(16, "*"), ""},
	} {
		if sum, ok := impl.SumAdd(terms(x.a), terms(x.b)); !ok || !slices.Equal(sum, terms(x.sum)) {
			t.Errorf("SumAdd(%q, %q) returned %v and %v", x.a, x.b, sum, ok)
		}
	}
}

func TestSumAddAgainstTexts(t *testing.T) {
	told, fails := 0, 0
	for _, a := range allSums() {
		for _, b := range append(allSums(), a, scaleTexts(a, -1)) {
			want, ok := addTexts(a, b)
			if ok {
				told++
			} else {
				fails++
			}
			if sum, told := impl.SumAdd(a, b); told != ok || !slices.Equal(sum, want) {
				t.Errorf("SumAdd(%v, %v) returned %v and %v", a, b, sum, told)
			}
		}
	}
	if told < 1200 || fails < 1200 {
		t.Errorf("%d pairs are added, and %d are not", told, fails)
	}
}

func TestSumAddOfSixtyTerms(t *testing.T) {
	for _, trees := range groups() {
		if len(trees) < 62 {
			continue
		}
		great := sumFrom(trees, 0, 1, 60)
		less := scaleTexts(great, -1)
		for _, x := range []struct {
			b     []impl.Term
			count int
		}{
			{great, 60},
			{less, 0},
			{less[:1], 59},
			{less[59:], 59},
			{sumFrom(trees, 60, 1, 1), 61},
			{sumFrom(trees, 61, 1, 1), 61},
			{append(slices.Clone(great[59:]), sumFrom(trees, 60, 1, 1)...), 61},
			{append(slices.Clone(less[59:]), sumFrom(trees, 60, 1, 1)...), 60},
			{append(slices.Clone(less[:1]), sumFrom(trees, 61, 1, 1)...), 60},
			{append(slices.Clone(less[:1]), sumFrom(trees, 60, 1, 2)...), 61},
			{append(slices.Clone(less[5:7]), sumFrom(trees, 60, 1, 2)...), 60},
			{sumFrom(trees, 2, 1, 60), 62},
			{nil, 60},
		} {
			for _, pair := range [][2][]impl.Term{{great, x.b}, {x.b, great}} {
				sum, ok := impl.SumAdd(pair[0], pair[1])
				if fits := x.count <= 60; ok != fits || fits && len(sum) != x.count || !fits && len(sum) != 0 {
					t.Errorf("SumAdd(%v, %v) returned %d terms and %v", pair[0], pair[1], len(sum), ok)
				}
			}
		}
		half := sumFrom(trees, 0, 2, 30)
		if sum, ok := impl.SumAdd(half, sumFrom(trees, 1, 2, 30)); !ok || len(sum) != 60 {
			t.Errorf("30 terms and 30 others are %d terms and %v", len(sum), ok)
		}
		if sum, ok := impl.SumAdd(half, sumFrom(trees, 1, 2, 31)); ok || len(sum) != 0 {
			t.Errorf("30 terms and 31 others are %d terms and %v", len(sum), ok)
		}
	}
}

func TestSumAddFails(t *testing.T) {
	fails := func(a, b []impl.Term) {
		t.Helper()
		if sum, ok := impl.SumAdd(a, b); ok || len(sum) != 0 {
			t.Errorf("SumAdd of %d and %d terms returned %v and %v", len(a), len(b), sum, ok)
		}
	}
	for _, a := range noSums() {
		for _, text := range []string{"", "1 *", "1 (a * *)"} {
			fails(a, terms(text))
			fails(terms(text), a)
		}
		fails(a, a)
	}
	for _, pair := range [][2]string{
		{"1 *", "1 (a * *)"}, {"1 (a * *)", "1 (a *)"}, {"1 (a * * *)", "1 (b * *), 1 (a * *)"},
		{"1 " + twelveLeaves, "1 " + sixLeaves}, {"1 (a * *)", "100 *"},
	} {
		fails(terms(pair[0]), terms(pair[1]))
		fails(terms(pair[1]), terms(pair[0]))
	}
}

func TestSumScaleTold(t *testing.T) {
	for _, x := range []struct {
		a   string
		n   int
		sum string
	}{
		{"", 0, ""},
		{"", 1, ""},
		{"", -1000000, ""},
		{"1 *", 0, ""},
		{"1 *", 1, "1 *"},
		{"1 *", -1, "100 *"},
		{"1 *", 100, "100 *"},
		{"1 *", 101, ""},
		{"1 *", -101, ""},
		{"1 *", 102, "1 *"},
		{"100 *", 1000000, "1 *"},
		{"100 *", -1000000, "100 *"},
		{"100 *", 999999, "2 *"},
		{"1 *", 999900, ""},
		{"1 *", -999900, ""},
		{"2 *", 51, "1 *"},
		{"3 (b * *), 100 (a * *)", 34, "1 (b * *), 67 (a * *)"},
		{"3 (b * *), 100 (a * *)", 202, ""},
		{"3 (b * *), 100 (a * *)", -2, "95 (b * *), 2 (a * *)"},
	} {
		if sum, ok := impl.SumScale(terms(x.a), x.n); !ok || !slices.Equal(sum, terms(x.sum)) {
			t.Errorf("SumScale(%q, %d) returned %v and %v", x.a, x.n, sum, ok)
		}
	}
}

func TestSumScaleAgainstTexts(t *testing.T) {
	for _, a := range allSums() {
		for n := -1000000; n <= 1000000; n += 33301 {
			for m := n - 1; m <= n+1; m++ {
				if m < -1000000 || m > 1000000 {
					continue
				}
				if sum, ok := impl.SumScale(a, m); !ok || !slices.Equal(sum, scaleTexts(a, m)) {
					t.Errorf("SumScale(%v, %d) returned %v and %v", a, m, sum, ok)
				}
			}
		}
	}
	for c := 1; c <= 100; c++ {
		for n := -202; n <= 202; n++ {
			a := []impl.Term{{Coef: c, Tree: "(a * *)"}}
			if sum, ok := impl.SumScale(a, n); !ok || !slices.Equal(sum, scaleTexts(a, n)) {
				t.Errorf("SumScale(%v, %d) returned %v and %v", a, n, sum, ok)
			}
		}
	}
}

func TestSumScaleFails(t *testing.T) {
	for _, a := range noSums() {
		for _, n := range []int{0, 1, -1, 101, 1000000, 1000001} {
			if sum, ok := impl.SumScale(a, n); ok || len(sum) != 0 {
				t.Errorf("SumScale of %d terms and %d returned %v and %v", len(a), n, sum, ok)
			}
		}
	}
	for _, a := range smallSums() {
		for _, n := range numbersOut() {
			if sum, ok := impl.SumScale(a, n); ok || len(sum) != 0 {
				t.Errorf("SumScale(%v, %d) returned %v and %v", a, n, sum, ok)
			}
		}
	}
}

func TestSumCoefTold(t *testing.T) {
	for _, x := range []struct {
		a, s string
		n    int
	}{
		{"", "*", 0},
		{"", "(a * *)", 0},
		{"1 *", "*", 1},
		{"100 *", "*", 100},
		{"1 *", "(a *)", 0},
		{"1 (a *)", "*", 0},
		{"1 *", "(a * *)", 0},
		{"5 (c * *), 6 (b * *), 7 (a * *)", "(c * *)", 5},
		{"5 (c * *), 6 (b * *), 7 (a * *)", "(b * *)", 6},
		{"5 (c * *), 6 (b * *), 7 (a * *)", "(a * *)", 7},
		{"5 (c * *), 6 (b * *), 7 (a * *)", "(d * *)", 0},
		{"5 (c * *), 7 (a * *)", "(b * *)", 0},
		{"5 (c * *), 7 (a * *)", "(a (a * *))", 0},
		{"5 (c * *), 7 (a * *)", "(a * * *)", 0},
		{"3 (a (b *) (b *))", "(a (b * *))", 0},
		{"3 (a (b *) (b *)), 4 (a (b * *))", "(a (b * *))", 4},
		{"1 " + twelveLeaves, twelveLeaves, 1},
		{"1 " + twelveLeaves, comb(11), 0},
	} {
		if n := impl.SumCoef(terms(x.a), x.s); n != x.n {
			t.Errorf("SumCoef(%q, %q) is %d", x.a, x.s, n)
		}
	}
}

func TestSumCoefAgainstTexts(t *testing.T) {
	for _, trees := range groups() {
		for _, a := range allSums() {
			coefs := coefsOf(a)
			for i := 0; i < len(trees); i += 1 + len(a)/10 {
				if n := impl.SumCoef(a, trees[i]); n != coefs[trees[i]] {
					t.Errorf("SumCoef(%v, %q) is %d", a, trees[i], n)
				}
			}
		}
	}
	for _, a := range allSums() {
		for _, x := range a {
			if n := impl.SumCoef(a, x.Tree); n != x.Coef {
				t.Errorf("SumCoef(%v, %q) is %d", a, x.Tree, n)
			}
		}
	}
}

func TestSumCoefFails(t *testing.T) {
	for _, a := range noSums() {
		for _, s := range []string{"*", "(a *)", "(a * *)", "(b * *)", a[0].Tree} {
			if n := impl.SumCoef(a, s); n != -1 {
				t.Errorf("SumCoef of %d terms, such as %d %q, and %q is %d", len(a), a[0].Coef, short(a[0].Tree), short(s), n)
			}
		}
	}
	for _, s := range noTrees() {
		for _, text := range []string{"", "1 *", "100 (a *), 1 *", "1 (a * *)"} {
			if n := impl.SumCoef(terms(text), s); n != -1 {
				t.Errorf("SumCoef(%q, %q) is %d", text, short(s), n)
			}
		}
	}
}

func TestSumLead(t *testing.T) {
	for _, a := range allSums() {
		lead, ok := impl.SumLead(a)
		if len(a) == 0 {
			if ok || lead != (impl.Term{}) {
				t.Errorf("SumLead of 0 returned %v and %v", lead, ok)
			}
		} else if !ok || lead != a[0] {
			t.Errorf("SumLead(%v) returned %v and %v", a, lead, ok)
		}
	}
	if lead, ok := impl.SumLead(nil); ok || lead != (impl.Term{}) {
		t.Errorf("SumLead(nil) returned %v and %v", lead, ok)
	}
	for _, a := range noSums() {
		if lead, ok := impl.SumLead(a); ok || lead != (impl.Term{}) {
			t.Errorf("SumLead of %d terms, such as %d %q, returned %v and %v", len(a), a[0].Coef, short(a[0].Tree), lead, ok)
		}
	}
}

func TestSumMirrorTold(t *testing.T) {
	for _, x := range []listSum{
		{"", ""},
		{"1 *", "1 *"},
		{"100 (a *), 1 *", "100 (a *), 1 *"},
		{"2 (a * (b *))", "2 (a (b *) *)"},
		{"3 (a (a * *) *), 5 (a * (a * *))", "5 (a (a * *) *), 3 (a * (a * *))"},
		{"3 (b (a * *) *), 4 (a (b * *) *), 5 (a * (b * *))", "5 (a (b * *) *), 3 (b * (a * *)), 4 (a * (b * *))"},
		{"7 " + comb(11), "7 " + mirrorText(comb(11))},
	} {
		if sum, ok := impl.SumMirror(terms(x.list)); !ok || !slices.Equal(sum, terms(x.sum)) {
			t.Errorf("SumMirror(%q) returned %v and %v", x.list, sum, ok)
		}
	}
}

func TestSumMirrorAgainstTexts(t *testing.T) {
	for _, a := range allSums() {
		if sum, ok := impl.SumMirror(a); !ok || !slices.Equal(sum, mirrorTexts(a)) {
			t.Errorf("SumMirror(%v) returned %v and %v", a, sum, ok)
		}
	}
	for _, a := range noSums() {
		if sum, ok := impl.SumMirror(a); ok || len(sum) != 0 {
			t.Errorf("SumMirror of %d terms, such as %d %q, returned %v and %v", len(a), a[0].Coef, short(a[0].Tree), sum, ok)
		}
	}
}

func TestSumsShareNothing(t *testing.T) {
	a, b := terms("1 (c * *), 2 (b * *), 3 (a * *)"), terms("4 (a *), 5 *")
	c := terms("1 (d * *)")
	kept := slices.Clone(a)
	makers := map[string]func() ([]impl.Term, bool){
		"SumOf":                func() ([]impl.Term, bool) { return impl.SumOf(a) },
		"SumAdd":               func() ([]impl.Term, bool) { return impl.SumAdd(a, c) },
		"SumAdd of 0":          func() ([]impl.Term, bool) { return impl.SumAdd(nil, a) },
		"SumAdd of a sum to 0": func() ([]impl.Term, bool) { return impl.SumAdd(a, nil) },
		"SumScale":             func() ([]impl.Term, bool) { return impl.SumScale(a, 1) },
		"SumGraft":             func() ([]impl.Term, bool) { return impl.SumGraft(a, 1, b) },
		"SumGraft of a leaf":   func() ([]impl.Term, bool) { return impl.SumGraft(a, 0, terms("1 *")) },
		"SumGraft at a leaf":   func() ([]impl.Term, bool) { return impl.SumGraft(terms("1 *"), 0, a) },
		"SumMirror":            func() ([]impl.Term, bool) { return impl.SumMirror(a) },
	}
	for name, make := range makers {
		first, ok := make()
		second, _ := make()
		if !ok || len(first) < 3 {
			t.Fatalf("%s fails", name)
		}
		want := slices.Clone(second)
		first[0] = impl.Term{Coef: -5, Tree: "x"}
		first = append(first[:1], impl.Term{Coef: -6, Tree: "y"}, impl.Term{Coef: -7, Tree: "z"})
		if third, _ := make(); !slices.Equal(second, want) || !slices.Equal(third, want) {
			t.Errorf("behind a change of one result %v, %s has returned %v and %v", first, name, second, third)
		}
		if !slices.Equal(a, kept) || !slices.Equal(b, terms("4 (a *), 5 *")) || !slices.Equal(c, terms("1 (d * *)")) {
			t.Errorf("%s or a change of its result left %v, %v and %v", name, a, b, c)
		}
	}
	// What is behind the end of an argument stays, too.
	long := append(slices.Clone(a), terms("9 (h * *)")...)
	impl.SumAdd(long[:2], c)
	impl.SumGraft(long[:1], 0, b)
	impl.SumOf(long[:3])
	if !slices.Equal(long, append(slices.Clone(a), terms("9 (h * *)")...)) {
		t.Errorf("what is behind the end of an argument has become %v", long)
	}
}
