package tests

import (
	"slices"
	"testing"

	"loop.example/operadtrees/impl"
)

// What SumGraft returns, for each kind of argument.

func failsGraft(t *testing.T, a []impl.Term, k int, b []impl.Term) {
	t.Helper()
	if sum, ok := impl.SumGraft(a, k, b); ok || len(sum) != 0 {
		t.Errorf("SumGraft of %d and %d terms at %d returned %v and %v", len(a), len(b), k, sum, ok)
	}
}

func TestSumGraftTold(t *testing.T) {
	for _, x := range []struct {
		a   string
		k   int
		b   string
		sum string
	}{
		{"1 *", 0, "1 *", "1 *"},
		{"100 *", 0, "100 *", "1 *"},
		{"2 *", 0, "51 *", "1 *"},
		{"1 (a * *)", 0, "2 (b *)", "2 (a (b *) *)"},
		{"1 (a * *)", 1, "2 (b *)", "2 (a * (b *))"},
		{"3 (b * *), 5 (a * *)", 0, "7 (c * *)", "21 (b (c * *) *), 35 (a (c * *) *)"},
		{"3 (b * *), 5 (a * *)", 1, "7 (d * *), 11 (c * *)", "21 (b * (d * *)), 33 (b * (c * *)), 35 (a * (d * *)), 55 (a * (c * *))"},
		{"50 (b * *), 100 (a * *)", 1, "2 (d * *), 100 (c * *)", "100 (b * (d * *)), 51 (b * (c * *)), 99 (a * (d * *)), 1 (a * (c * *))"},
		{"1 (b * *), 1 (a * *)", 0, "1 (b *), 1 *", "1 (b (b *) *), 1 (a (b *) *), 1 (b * *), 1 (a * *)"},
		{"1 " + sixLeaves, 5, "3 (a * * * * * (b * *))", "3 (h * * * * * (a * * * * * (b * *)))"},
		// Grafts of several pairs are the same tree, and some come to the coefficient 0.
		{"1 (a *), 1 *", 0, "1 (a *), 1 *", "1 (a (a *)), 2 (a *), 1 *"},
		{"1 (a *), 100 *", 0, "1 (a *), 1 *", "1 (a (a *)), 100 *"},
		{"1 (a *), 1 *", 0, "1 (a *), 100 *", "1 (a (a *)), 100 *"},
		{"50 (a *), 1 *", 0, "2 (a *), 2 *", "100 (a (a *)), 1 (a *), 2 *"},
		{"1 (a *), 100 *", 0, "1 (a (a *)), 1 (a *), 1 *", "1 (a (a (a *))), 100 *"},
		{"1 (b *), 1 (a *)", 0, "1 (b *), 100 (a *)", "1 (b (b *)), 100 (b (a *)), 1 (a (b *)), 100 (a (a *))"},
		{"1 (b (a *)), 1 (b *)", 0, "1 (a *), 100 *", "1 (b (a (a *))), 100 (b *)"},
		{"1 (a * (b *)), 100 (a * *)", 1, "1 (b *), 1 *", "1 (a * (b (b *))), 100 (a * *)"},
		{"1 (a * (b *)), 100 (a * *)", 0, "1 (b *), 1 *", "1 (a (b *) (b *)), 100 (a (b *) *), 1 (a * (b *)), 100 (a * *)"},
	} {
		if sum, ok := impl.SumGraft(terms(x.a), x.k, terms(x.b)); !ok || !slices.Equal(sum, terms(x.sum)) {
			t.Errorf("SumGraft(%q, %d, %q) returned %v and %v", x.a, x.k, x.b, sum, ok)
		}
	}
}

func TestSumGraftOfZero(t *testing.T) {
	for _, a := range allSums() {
		for _, k := range append(noIndexes(1), 0, 1, 5, 11, 12) {
			for _, pair := range [][2][]impl.Term{{a, nil}, {nil, a}, {a, {}}, {{}, a}, {nil, nil}} {
				if sum, ok := impl.SumGraft(pair[0], k, pair[1]); !ok || len(sum) != 0 {
					t.Errorf("SumGraft(%v, %d, %v) returned %v and %v", pair[0], k, pair[1], sum, ok)
				}
			}
		}
	}
}

func TestSumGraftAgainstTexts(t *testing.T) {
	told, fails, joined := 0, 0, 0
	sums := append(smallSums(), greatSums()[8], greatSums()[9])
	for i, a := range sums {
		for j, b := range sums {
			if len(a)*len(b) == 0 || len(a)*len(b) > 20 && (i+j)%2 > 0 {
				continue
			}
			for k := range leafCount(a[0].Tree) {
				if leafCount(a[0].Tree)+leafCount(b[0].Tree) > 13 && (i+j+k)%5 > 0 {
					continue
				}
				want, ok := graftSumTexts(a, k, b)
				if sum, told := impl.SumGraft(a, k, b); told != ok || !slices.Equal(sum, want) {
					t.Errorf("SumGraft(%v, %d, %v) returned %v and %v", a, k, b, sum, told)
				}
				switch {
				case !ok:
					fails++
				case len(want) < len(a)*len(b):
					joined++
				default:
					told++
				}
			}
		}
	}
	if told < 2000 || joined < 15 || fails < 2000 {
		t.Errorf("%d grafts are told without like trees and %d with such, and %d fail", told, joined, fails)
	}
}

// TestSumGraftOfMany has results of about 60 terms, many of them with more
// pairs of terms: what counts is how many terms are left.
func TestSumGraftOfMany(t *testing.T) {
	words := groups()[0][2:] // without those of 15 and 16 nodes
	slices.Reverse(words)
	counts := map[int]int{}
	for _, text := range []string{"1 *", "1 (a *), 100 *", "1 (a *), 1 *", "1 (b *), 50 *", "1 (b *), 1 (a *), 5 *"} {
		a := terms(text)
		for n := 15; n <= 60; n++ {
			b := []impl.Term{}
			for _, s := range words[:n] {
				b = append([]impl.Term{{Coef: 1 + n%2, Tree: s}}, b...)
			}
			for _, pair := range [][2][]impl.Term{{a, b}, {b, a}} {
				coefs := map[string]int{}
				for _, x := range pair[0] {
					for _, y := range pair[1] {
						coefs[graftText(x.Tree, 0, y.Tree)] += x.Coef * y.Coef
					}
				}
				left := 0
				for _, n := range coefs {
					if n%101 != 0 {
						left++
					}
				}
				if len(a) > 1 {
					counts[left]++
				}
				sum, ok := impl.SumGraft(pair[0], 0, pair[1])
				if fits := left <= 60; ok != fits || fits && len(sum) != left || !fits && len(sum) != 0 {
					t.Errorf("SumGraft of %d and %d terms, with %d left, returned %d and %v", len(pair[0]), len(pair[1]), left, len(sum), ok)
				}
			}
		}
	}
	if counts[60] == 0 || counts[61] == 0 || counts[62] == 0 {
		t.Errorf("terms left, and how often: %v", counts)
	}
}

// power returns nodes of the letter a with one tree each.
func power(nodes int) string {
	s := "*"
	for range nodes {
		s = "(a " + s + ")"
	}
	return s
}

// powers returns the sum of powers with so many nodes down to so few, all with
// one coefficient.
func powers(most, least, coef int) []impl.Term {
	list := []impl.Term{}
	for n := most; n >= least; n-- {
		list = append(list, impl.Term{Coef: coef, Tree: power(n)})
	}
	return list
}

func TestSumGraftOfPowers(t *testing.T) {
	less := terms("1 (a *), 100 *")
	want := []impl.Term{{Coef: 1, Tree: power(16)}, {Coef: 100, Tree: "*"}}
	for _, pair := range [][2][]impl.Term{{less, powers(15, 0, 1)}, {powers(15, 0, 1), less}} {
		if sum, ok := impl.SumGraft(pair[0], 0, pair[1]); !ok || !slices.Equal(sum, want) {
			t.Errorf("SumGraft(%v, 0, %v) returned %v and %v", pair[0], pair[1], sum, ok)
		}
	}
	// Each power up to 8 and down again: 81 pairs.
	if sum, ok := impl.SumGraft(powers(8, 0, 1), 0, powers(8, 0, 100)); !ok || len(sum) != 17 || sum[0].Coef != 100 || sum[8].Coef != 92 {
		t.Errorf("SumGraft of two sums of 9 powers returned %v and %v", sum, ok)
	}
	// The tree of 17 nodes comes to the coefficient 0, but there is one of 17 or 18 nodes that does not.
	failsGraft(t, less, 0, powers(16, 0, 1))
	failsGraft(t, powers(16, 0, 1), 0, less)
	failsGraft(t, []impl.Term{{Coef: 1, Tree: power(2)}, {Coef: 100, Tree: power(1)}}, 0, powers(16, 15, 1))
	failsGraft(t, powers(16, 15, 1), 0, []impl.Term{{Coef: 1, Tree: power(2)}, {Coef: 100, Tree: power(1)}})
}

func TestSumGraftTooLarge(t *testing.T) {
	for _, x := range []struct {
		a  string
		k  int
		b  string
		ok bool
	}{
		{"1 " + chain(15, "*"), 0, "1 (a *)", true},
		{"1 " + chain(16, "*"), 0, "1 *", true},
		{"1 " + chain(16, "*"), 0, "1 (a *)", false},
		{"1 (a *)", 0, "1 " + chain(16, "*"), false},
		{"1 (a *), 1 *", 0, "1 " + chain(16, "*"), false},
		{"1 (a *), 1 *", 0, "1 " + chain(15, "*"), true},
		{"1 " + chain(16, "*") + ", 1 *", 0, "1 (a *)", false},
		{"1 " + sixLeaves, 0, "1 (a * * * * * (b * *))", true},
		{"1 " + sixLeaves, 5, "1 (a * * * * * (b * * *))", false},
		{"1 " + twelveLeaves, 11, "1 (a *)", true},
		{"1 " + twelveLeaves, 0, "1 (a * *)", false},
		{"1 (a * *)", 1, "1 " + twelveLeaves, false},
		{"1 (a * *)", 1, "1 " + comb(10), true},
		{"1 " + chain(13, twelveLeaves) + ", 1 " + twelveLeaves, 3, "1 (a *)", false},
		{"1 " + chain(12, twelveLeaves) + ", 1 " + twelveLeaves, 3, "1 (a *)", true},
	} {
		if sum, ok := impl.SumGraft(terms(x.a), x.k, terms(x.b)); ok != x.ok || !ok && len(sum) != 0 {
			t.Errorf("SumGraft(%q, %d, %q) returned %v and %v", x.a, x.k, x.b, sum, ok)
		}
	}
}

func TestSumGraftFails(t *testing.T) {
	for _, a := range allSums() {
		if len(a) == 0 {
			continue
		}
		for _, k := range noIndexes(leafCount(a[0].Tree)) {
			failsGraft(t, a, k, terms("1 *"))
			failsGraft(t, a, k, terms("1 (a * *)"))
			failsGraft(t, a, k, a)
		}
	}
	for _, a := range noSums() {
		for _, k := range []int{0, 1, -1, 12} {
			for _, text := range []string{"", "1 *", "1 (a * *)"} {
				failsGraft(t, a, k, terms(text))
				failsGraft(t, terms(text), k, a)
			}
			failsGraft(t, a, k, a)
		}
	}
}
