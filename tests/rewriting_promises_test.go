package tests

import (
	"slices"
	"testing"

	"loop.example/operadtrees/impl"
)

// The promises 35 to 43 of the document, one test each. Each test also compares
// the functions with what is told apart from the program, and checks that the
// condition of the promise does not hold where an argument is invalid.

func mustNormal(t *testing.T, rules [][]impl.Term, a []impl.Term) []impl.Term {
	t.Helper()
	sum, ok := impl.RulesNormal(rules, a)
	if !ok {
		t.Fatalf("RulesNormal(%v, %v) fails", rules, a)
	}
	return sum
}

// hasHead reports whether a head stands in a tree of a sum.
func hasHead(rules [][]impl.Term, a []impl.Term) bool {
	return slices.ContainsFunc(a, func(x impl.Term) bool { return !impl.PatternFree(headsOf(rules), x.Tree) })
}

// shortRules tells a list of rules that may be too long to be told.
func shortRules(rules [][]impl.Term) []string {
	texts := []string{}
	for _, r := range rules[:min(len(rules), 3)] {
		text := "0"
		if len(r) > 0 {
			text = short(r[0].Tree)
		}
		texts = append(texts, text)
	}
	return texts
}

func TestPromise35Rules(t *testing.T) {
	reduced := 0
	for _, x := range systems() {
		if !isRules(x.rules) {
			t.Fatalf("the corpus has %v", x.rules)
		}
		if !impl.RulesValid(x.rules) {
			t.Errorf("RulesValid(%v) does not hold", x.rules)
		}
		for n := range x.rules {
			if !impl.RulesValid(x.rules[:n]) {
				t.Errorf("RulesValid(%v) does not hold for the first %d", x.rules, n)
			}
		}
		if len(x.rules) == 0 {
			continue
		}
		if sum, ok := impl.RulesNormal(x.rules, x.rules[0]); ok {
			reduced++
			if hasHead(x.rules, sum) {
				t.Errorf("the first one of %v is reduced to %v", x.rules, sum)
			}
		}
	}
	if reduced < 40 {
		t.Errorf("only %d rules are reduced", reduced)
	}
	for _, rules := range noRules() {
		if len(rules) < 20 && isRules(rules) {
			t.Fatalf("the corpus of lists that are no rules has %v", rules)
		}
		if impl.RulesValid(rules) {
			t.Errorf("RulesValid of %d sums, such as %q, holds", len(rules), shortRules(rules))
		}
	}
}

func TestPromise36Steps(t *testing.T) {
	made, failed, normals := 0, 0, 0
	for _, x := range systems() {
		for _, a := range x.sums() {
			want, told, normal := stepOf(x.rules, a)
			next, ok := impl.RulesStep(x.rules, a)
			if ok != told || !slices.Equal(next, want) {
				t.Errorf("RulesStep(%v, %v) returned %v and %v, not %v", x.rules, a, next, ok, want)
			}
			switch {
			case normal:
				normals++
				continue
			case !ok:
				failed++
				continue
			}
			made++
			if same, ok := impl.RulesNormal(x.rules, a); ok && (slices.Equal(same, a) || !hasHead(x.rules, a)) {
				t.Errorf("RulesStep(%v, %v) is %v, and the sum was normal", x.rules, a, next)
			}
			first, told := impl.RulesNormal(x.rules, a)
			second, ok := impl.RulesNormal(x.rules, next)
			if told != ok || !slices.Equal(first, second) {
				t.Errorf("RulesNormal(%v, %v) is %v and %v, and behind a step %v and %v", x.rules, a, first, told, second, ok)
			}
		}
	}
	if made < 1500 || failed < 1 || normals < 300 {
		t.Errorf("%d steps are made, %d fail, and %d sums are normal", made, failed, normals)
	}
	for _, rules := range noRules() {
		if next, ok := impl.RulesStep(rules, terms("1 (a (a * *) *)")); ok {
			t.Errorf("RulesStep of %d sums, such as %q, is %v", len(rules), shortRules(rules), next)
		}
	}
	for _, a := range noSums() {
		if next, ok := impl.RulesStep(rulesOf("1 (a *)", "1 (a * *)", "1 (b * *)", "1 (b *)"), a); ok {
			t.Errorf("RulesStep of %d terms, such as %q, is %v", len(a), short(a[0].Tree), next)
		}
	}
}

func TestPromise37Normals(t *testing.T) {
	reduced, same, failed := 0, 0, 0
	for _, x := range systems() {
		for _, a := range x.sums() {
			want, steps, told := normalOf(x.rules, a)
			sum, ok := impl.RulesNormal(x.rules, a)
			if ok != told || !slices.Equal(sum, want) {
				t.Errorf("RulesNormal(%v, %v) returned %v and %v, not %v", x.rules, a, sum, ok, want)
			}
			if !ok {
				failed++
				continue
			}
			if hasHead(x.rules, sum) || !impl.SumValid(sum) {
				t.Errorf("RulesNormal(%v, %v) is %v", x.rules, a, sum)
			}
			if again := mustNormal(t, x.rules, sum); !slices.Equal(again, sum) {
				t.Errorf("RulesNormal(%v, %v) is %v, and of it %v", x.rules, a, sum, again)
			}
			if next, ok := impl.RulesStep(x.rules, sum); ok {
				t.Errorf("RulesNormal(%v, %v) is %v, and behind a step %v", x.rules, a, sum, next)
			}
			if steps > 0 {
				reduced++
				continue
			}
			same++
			if !slices.Equal(sum, a) {
				t.Errorf("RulesNormal(%v, %v) of a normal sum is %v", x.rules, a, sum)
			}
		}
	}
	if reduced < 1500 || same < 300 || failed < 1 {
		t.Errorf("%d sums are reduced, %d are normal, and %d fail", reduced, same, failed)
	}
	for _, rules := range noRules() {
		for _, a := range [][]impl.Term{nil, terms("1 (a (a * *) *)")} {
			if sum, ok := impl.RulesNormal(rules, a); ok {
				t.Errorf("RulesNormal of %d sums, such as %q, is %v", len(rules), shortRules(rules), sum)
			}
		}
	}
	for _, a := range noSums() {
		for _, rules := range [][][]impl.Term{nil, rulesOf("1 (a *)", "1 (a * *)")} {
			if sum, ok := impl.RulesNormal(rules, a); ok {
				t.Errorf("RulesNormal of %d terms, such as %q, is %v", len(a), short(a[0].Tree), sum)
			}
		}
	}
}

func TestPromise38Same(t *testing.T) {
	holds, unlike := 0, 0
	for _, x := range systems() {
		sums := x.sums()
		for i, a := range sums {
			if !impl.RulesSame(x.rules, a, a) {
				t.Errorf("RulesSame(%v, %v) does not hold for the sum and itself", x.rules, a)
			}
			others := [][]impl.Term{nil, sums[(i+1)%len(sums)], scaleTexts(a, 2)}
			if next, ok := impl.RulesStep(x.rules, a); ok {
				others = append(others, next)
			}
			if sum, ok := impl.RulesNormal(x.rules, a); ok {
				others = append(others, sum)
			}
			for _, b := range others {
				less, ok := addTexts(a, scaleTexts(b, -1))
				want := ok
				if ok {
					reduced, _, told := normalOf(x.rules, less)
					want = told && len(reduced) == 0
				}
				same := impl.RulesSame(x.rules, a, b)
				if same != want || impl.RulesSame(x.rules, b, a) != same {
					t.Errorf("RulesSame(%v, %v, %v) is %v, and exchanged %v", x.rules, a, b, same, impl.RulesSame(x.rules, b, a))
				}
				if same && !slices.Equal(a, b) {
					holds++
				} else if !same {
					unlike++
				}
			}
		}
	}
	if holds < 1500 || unlike < 1500 {
		t.Errorf("%d pairs of sums are the same, and %d are not", holds, unlike)
	}
	for _, rules := range noRules() {
		if impl.RulesSame(rules, nil, nil) || impl.RulesSame(rules, terms("1 (a *)"), terms("1 (a *)")) {
			t.Errorf("RulesSame of %d sums, such as %q, holds", len(rules), shortRules(rules))
		}
	}
	for _, a := range noSums() {
		rules := rulesOf("1 (a *)", "1 (b *)", "1 (a * *)", "1 (b * *)")
		if impl.RulesSame(rules, a, a) || impl.RulesSame(rules, a, nil) || impl.RulesSame(rules, nil, a) {
			t.Errorf("RulesSame for %d terms, such as %q, holds", len(a), short(a[0].Tree))
		}
	}
}

func TestPromise39Overlaps(t *testing.T) {
	all, zeros, alone := 0, 0, 0
	for _, x := range systems() {
		want, told := overlapsOf(x.rules)
		list, ok := impl.RulesOverlaps(x.rules)
		if ok != told || ok && !sameRules(list, want) || !ok && len(list) > 0 {
			t.Errorf("RulesOverlaps(%v) returned %v and %v, not %v", x.rules, list, ok, want)
		}
		for _, overlap := range list {
			all++
			if len(overlap) == 0 {
				zeros++
			}
		}
		for i, r := range x.rules {
			single := x.rules[i : i+1]
			want, told := overlapsOf(single)
			list, ok := impl.RulesOverlaps(single)
			if ok != told || ok && !sameRules(list, want) {
				t.Errorf("RulesOverlaps(%v) returned %v and %v, not %v", single, list, ok, want)
			}
			if len(list) > nodeCount(r[0].Tree)-1 {
				t.Errorf("RulesOverlaps(%v) has %d sums", single, len(list))
			}
			alone += len(list)
		}
	}
	if all < 100 || zeros < 10 || alone < 20 {
		t.Errorf("%d overlaps are told, %d are 0, and %d are of one rule", all, zeros, alone)
	}
	for _, rules := range noRules() {
		if list, ok := impl.RulesOverlaps(rules); ok || len(list) > 0 {
			t.Errorf("RulesOverlaps of %d sums, such as %q, returned %v and %v", len(rules), shortRules(rules), list, ok)
		}
	}
}

func TestPromise40Confluent(t *testing.T) {
	overlaps, themselves := 0, 0
	for _, x := range confluentSystems() {
		if open, ok := firstOpenOf(x.rules); !ok || len(open) > 0 {
			t.Fatalf("the corpus of confluent rules has %v, with %v", x.rules, open)
		}
		if !impl.RulesConfluent(x.rules) {
			t.Errorf("RulesConfluent(%v) does not hold", x.rules)
			continue
		}
		list, ok := impl.RulesOverlaps(x.rules)
		if !ok {
			t.Errorf("RulesOverlaps(%v) fails", x.rules)
		}
		for _, overlap := range list {
			overlaps++
			if sum := mustNormal(t, x.rules, overlap); len(sum) > 0 {
				t.Errorf("%v is an overlap of %v, and reduced to %v", overlap, x.rules, sum)
			}
		}
		for _, r := range x.rules {
			themselves++
			if sum := mustNormal(t, x.rules, r); len(sum) > 0 {
				t.Errorf("%v is one of %v, and reduced to %v", r, x.rules, sum)
			}
		}
	}
	if overlaps < 30 || themselves < 30 {
		t.Errorf("confluent are only %d overlaps of %d rules", overlaps, themselves)
	}
	for _, x := range openSystems() {
		if open, ok := firstOpenOf(x.rules); ok && len(open) == 0 {
			t.Fatalf("the corpus of rules that are not confluent has %v", x.rules)
		}
		if impl.RulesConfluent(x.rules) {
			t.Errorf("RulesConfluent(%v) holds", x.rules)
		}
	}
	for _, rules := range noRules() {
		if impl.RulesConfluent(rules) {
			t.Errorf("RulesConfluent of %d sums, such as %q, holds", len(rules), shortRules(rules))
		}
	}
}

func TestPromise41NormalsAddUp(t *testing.T) {
	added, grafted := 0, 0
	nodes := []string{"1 (a * *)", "1 (h *)", "5 (a *), 7 (b *)", "1 (b * *), 3 (c * *)"}
	for _, x := range confluentSystems() {
		sums := x.sums()
		for i, a := range sums {
			first, ok := impl.RulesNormal(x.rules, a)
			if !ok {
				continue
			}
			for _, step := range []int{1, 2, 7} {
				b := sums[(i+step)%len(sums)]
				second, told := impl.RulesNormal(x.rules, b)
				both, fits := impl.SumAdd(a, b)
				together, fine := impl.RulesNormal(x.rules, both)
				if !told || !fits || !fine {
					continue
				}
				added++
				if want := mustAdd(t, first, second); !slices.Equal(together, want) {
					t.Errorf("RulesNormal by %v of the sum of %v and %v is %v, not %v", x.rules, a, b, together, want)
				}
			}
			less, ok := impl.SumAdd(a, mustScale(t, first, -1))
			if !ok {
				continue
			}
			for k, node := range nodes {
				inside, ok := impl.SumGraft(terms(node), k%2*(leafCount(terms(node)[0].Tree)-1), less)
				if !ok {
					continue
				}
				if sum, ok := impl.RulesNormal(x.rules, inside); ok {
					grafted++
					if len(sum) > 0 {
						t.Errorf("%v less its normal sum by %v, grafted in %q, is reduced to %v", a, x.rules, node, sum)
					}
				}
				if !impl.RulesSame(x.rules, inside, nil) {
					t.Errorf("%v less its normal sum by %v, grafted in %q, is not reduced to 0", a, x.rules, node)
				}
			}
		}
	}
	if added < 1200 || grafted < 3000 {
		t.Errorf("only %d sums are added and %d are grafted", added, grafted)
	}
}

func TestPromise42Basis(t *testing.T) {
	basis, others := 0, 0
	for _, x := range systems() {
		for leaves := 1; leaves <= 5; leaves++ {
			trees, told := impl.TreeList(sign(x.sign), leaves, 4)
			list, ok := impl.RulesBasis(x.rules, sign(x.sign), leaves, 4)
			if ok != told {
				t.Errorf("RulesBasis(%v, %q, %d, 4) returned %v, and TreeList %v", x.rules, x.sign, leaves, ok, told)
			}
			want := slices.DeleteFunc(slices.Clone(trees), func(s string) bool {
				_, by := firstPlace(x.rules, s)
				return by >= 0
			})
			if !slices.Equal(list, want) {
				t.Errorf("RulesBasis(%v, %q, %d, 4) is %q, not %q", x.rules, x.sign, leaves, list, want)
			}
			for _, s := range trees {
				a := []impl.Term{{Coef: 1, Tree: s}}
				sum, ok := impl.RulesNormal(x.rules, a)
				own := ok && slices.Equal(sum, a)
				if in := slices.Contains(list, s); own != in {
					t.Errorf("%q is in RulesBasis(%v, %q, %d, 4): %v, and its own normal sum: %v", s, x.rules, x.sign, leaves, in, own)
				}
			}
			basis += len(list)
			others += len(trees) - len(list)
		}
	}
	if basis < 1500 || others < 1500 {
		t.Errorf("%d trees are in bases, and %d are not", basis, others)
	}
	for _, rules := range noRules() {
		if list, ok := impl.RulesBasis(rules, sign("a2"), 3, 2); ok || len(list) > 0 {
			t.Errorf("RulesBasis of %d sums, such as %q, is %q", len(rules), shortRules(rules), list)
		}
	}
	for _, symbols := range noSigns() {
		if list, ok := impl.RulesBasis(rulesOf(assoc), symbols, 3, 2); ok || len(list) > 0 {
			t.Errorf("RulesBasis for %d symbols is %q", len(symbols), list)
		}
	}
}

func TestPromise43More(t *testing.T) {
	same, more, failed := 0, 0, 0
	for _, x := range systems() {
		rules := x.rules
		for range 6 {
			open, told := firstOpenOf(rules)
			want := slices.Clone(rules)
			if len(open) > 0 {
				want = append(want, open)
			}
			told = told && isRules(want)
			list, ok := impl.RulesMore(rules)
			if ok != told || ok && !sameRules(list, want) || !ok && len(list) > 0 {
				t.Errorf("RulesMore(%v) returned %v and %v, not %v", rules, list, ok, want)
			}
			if !ok {
				failed++
				break
			}
			if len(list) < len(rules) || !sameRules(list[:len(rules)], rules) {
				t.Fatalf("RulesMore(%v) is %v", rules, list)
			}
			if len(list) == len(rules) {
				same++
				if !impl.RulesConfluent(rules) {
					t.Errorf("RulesMore(%v) has no more, and they are not confluent", rules)
				}
				break
			}
			more++
			last := list[len(rules)]
			if sum := mustNormal(t, rules, last); !slices.Equal(sum, last) {
				t.Errorf("RulesMore(%v) has %v more, which is reduced to %v", rules, last, sum)
			}
			rules = list
		}
	}
	if same < len(confluentSystems()) || more < 20 || failed < 4 {
		t.Errorf("%d rules are confluent, %d become more, and %d fail", same, more, failed)
	}
	for _, rules := range noRules() {
		if list, ok := impl.RulesMore(rules); ok || len(list) > 0 {
			t.Errorf("RulesMore of %d sums, such as %q, returned %v and %v", len(rules), shortRules(rules), list, ok)
		}
	}
}
