package tests

import (
	"slices"
	"testing"

	"loop.example/operadtrees/impl"
)

// The promises 20 to 27 of the document, one test each, on sums for which the
// conditions of the promises must hold. What the functions return for lists
// that are no sum, and for other invalid arguments, is in sums_test.go.

func mustSum(t *testing.T, list []impl.Term) []impl.Term {
	t.Helper()
	sum, ok := impl.SumOf(list)
	if !ok {
		t.Fatalf("SumOf(%v) fails", list)
	}
	return sum
}

func mustAdd(t *testing.T, a, b []impl.Term) []impl.Term {
	t.Helper()
	sum, ok := impl.SumAdd(a, b)
	if !ok {
		t.Fatalf("SumAdd(%v, %v) fails", a, b)
	}
	return sum
}

func mustScale(t *testing.T, a []impl.Term, n int) []impl.Term {
	t.Helper()
	sum, ok := impl.SumScale(a, n)
	if !ok {
		t.Fatalf("SumScale(%v, %d) fails", a, n)
	}
	return sum
}

func mustGraftSums(t *testing.T, a []impl.Term, k int, b []impl.Term) []impl.Term {
	t.Helper()
	sum, ok := impl.SumGraft(a, k, b)
	if !ok {
		t.Fatalf("SumGraft(%v, %d, %v) fails", a, k, b)
	}
	return sum
}

func mustMirrorSum(t *testing.T, a []impl.Term) []impl.Term {
	t.Helper()
	sum, ok := impl.SumMirror(a)
	if !ok {
		t.Fatalf("SumMirror(%v) fails", a)
	}
	return sum
}

func TestPromise20SumsOfSums(t *testing.T) {
	for _, a := range allSums() {
		if !impl.SumValid(a) {
			t.Errorf("SumValid(%v) does not hold", a)
			continue
		}
		if b := mustSum(t, a); !slices.Equal(a, b) {
			t.Errorf("SumOf(%v) is %v", a, b)
		}
		if b := mustAdd(t, a, nil); !slices.Equal(a, b) {
			t.Errorf("%v and 0 is %v", a, b)
		}
	}
	for _, a := range noSums() {
		if impl.SumValid(a) {
			t.Errorf("SumValid of %d terms, such as %q, holds", len(a), short(a[0].Tree))
		}
	}
}

func TestPromise21SumsOfLists(t *testing.T) {
	for _, list := range orderedLists() {
		sum := mustSum(t, list)
		if !impl.SumValid(sum) || !isSum(sum) {
			t.Errorf("SumOf(%v) is %v", list, sum)
		}
		back := slices.Clone(list)
		slices.Reverse(back)
		if other := mustSum(t, back); !slices.Equal(sum, other) {
			t.Errorf("SumOf(%v) is %v, and of the opposite order %v", list, sum, other)
		}
	}
	for _, list := range append(noTerms(), terms("0 (a * *), 1 *"), terms("1 (a * *), 101 *"), terms("1000001 *")) {
		if sum, ok := impl.SumOf(list); ok {
			t.Errorf("SumOf of %d terms, such as %q, is %v", len(list), short(list[0].Tree), sum)
		}
	}
}

func TestPromise22AddAndTakeAway(t *testing.T) {
	added := 0
	for _, a := range allSums() {
		for _, b := range append(allSums(), a, scaleTexts(a, -1), scaleTexts(a, 50)) {
			sum, ok := impl.SumAdd(a, b)
			if !ok {
				if _, fits := addTexts(a, b); fits {
					t.Errorf("SumAdd(%v, %v) fails", a, b)
				}
				continue
			}
			added++
			if other := mustAdd(t, b, a); !slices.Equal(sum, other) {
				t.Errorf("SumAdd(%v, %v) is %v, and exchanged %v", a, b, sum, other)
			}
			if less := mustAdd(t, sum, mustScale(t, b, -1)); !slices.Equal(less, a) {
				t.Errorf("SumAdd(%v, %v) less the second one is %v", a, b, less)
			}
		}
	}
	if added < 1500 {
		t.Errorf("only %d pairs are added", added)
	}
	for _, a := range noSums() {
		if sum, ok := impl.SumAdd(a, nil); ok {
			t.Errorf("%d terms, such as %q, and 0 is %v", len(a), short(a[0].Tree), sum)
		}
		if sum, ok := impl.SumAdd(nil, a); ok {
			t.Errorf("0 and %d terms, such as %q, is %v", len(a), short(a[0].Tree), sum)
		}
	}
}

func TestPromise23OnceMore(t *testing.T) {
	for _, a := range allSums() {
		for _, n := range []int{-1000000, -999999, -102, -101, -100, -51, -2, -1, 0, 1, 2, 50, 99, 100, 101, 999900, 999999, 1000000} {
			sum := mustScale(t, a, n)
			more, ok := impl.SumScale(a, n+1)
			if n == 1000000 {
				if ok {
					t.Errorf("SumScale(%v, %d) is %v", a, n+1, more)
				}
				continue
			}
			if want := mustAdd(t, sum, a); !ok || !slices.Equal(more, want) {
				t.Errorf("SumScale(%v, %d) is %v, and %d times, once more, is %v", a, n+1, more, n, want)
			}
		}
		if sum, ok := impl.SumScale(a, -1000001); ok {
			t.Errorf("SumScale(%v, -1000001) is %v", a, sum)
		}
	}
	for _, a := range noSums() {
		if sum, ok := impl.SumScale(a, 1); ok {
			t.Errorf("SumScale of %d terms, such as %q, and 1 is %v", len(a), short(a[0].Tree), sum)
		}
	}
}

func TestPromise24GraftsOfSums(t *testing.T) {
	grafted, whole := 0, 0
	sums := append(smallSums(), greatSums()[0])
	for i, a := range sums {
		for j, b := range sums {
			if len(a)*len(b) > 6 && (i+j)%3 > 0 {
				continue
			}
			leaves := 1
			if len(a) > 0 {
				leaves = leafCount(a[0].Tree)
			}
			for k := range leaves {
				sum, ok := impl.SumGraft(a, k, b)
				if !ok {
					continue
				}
				grafted++
				checkTwice(t, a, k, b, sum)
				if len(sum) > 0 {
					whole++
				} else if len(a)*len(b) > 0 {
					t.Errorf("SumGraft(%v, %d, %v) is 0", a, k, b)
				}
			}
		}
	}
	if grafted < 4000 || whole < 4000 {
		t.Errorf("only %d grafts are told, %d of them not 0", grafted, whole)
	}
	for _, a := range sums[1:] {
		for _, k := range noIndexes(leafCount(a[0].Tree)) {
			if sum, ok := impl.SumGraft(a, k, terms("1 *")); ok {
				t.Errorf("SumGraft(%v, %d) of a leaf is %v", a, k, sum)
			}
			mustGraftSums(t, a, k, nil)
			mustGraftSums(t, nil, k, a)
		}
	}
	for _, a := range noSums() {
		for _, b := range [][]impl.Term{nil, terms("1 *")} {
			if sum, ok := impl.SumGraft(a, 0, b); ok {
				t.Errorf("SumGraft of %d terms, such as %q, at 0 and %v is %v", len(a), short(a[0].Tree), b, sum)
			}
			if sum, ok := impl.SumGraft(b, 0, a); ok {
				t.Errorf("SumGraft of %v at 0 and %d terms, such as %q, is %v", b, len(a), short(a[0].Tree), sum)
			}
		}
	}
}

// checkTwice checks a graft of sums against those of the doubled ones, and its
// lead against the graft of the leads.
func checkTwice(t *testing.T, a []impl.Term, k int, b, sum []impl.Term) {
	t.Helper()
	twice := mustScale(t, sum, 2)
	if first := mustGraftSums(t, mustScale(t, a, 2), k, b); !slices.Equal(first, twice) {
		t.Errorf("SumGraft(%v, %d, %v) is %v, and of twice the first one %v", a, k, b, sum, first)
	}
	if second := mustGraftSums(t, a, k, mustScale(t, b, 2)); !slices.Equal(second, twice) {
		t.Errorf("SumGraft(%v, %d, %v) is %v, and of twice the second one %v", a, k, b, sum, second)
	}
	if len(a)*len(b)*len(sum) == 0 {
		return
	}
	x, _ := impl.SumLead(a)
	y, _ := impl.SumLead(b)
	lead, ok := impl.SumLead(sum)
	if !ok || lead.Tree != mustGraft(t, x.Tree, k, y.Tree) || lead.Coef != x.Coef*y.Coef%101 {
		t.Errorf("the lead of SumGraft(%v, %d, %v) is %v", a, k, b, lead)
	}
}

func TestPromise25OppositeCoefficients(t *testing.T) {
	there, absent := 0, 0
	all := slices.Concat(groups()...)
	for _, a := range allSums() {
		less := mustScale(t, a, -1)
		trees := []string{}
		for i := 0; i < len(all); i += 7 {
			trees = append(trees, all[i])
		}
		for _, x := range a {
			trees = append(trees, x.Tree)
		}
		for _, s := range trees {
			n := impl.SumCoef(a, s)
			if n < 0 || n >= impl.Prime {
				t.Errorf("SumCoef(%v, %q) is %d", a, s, n)
			}
			if m := impl.SumCoef(less, s); m < 0 || m >= impl.Prime || (n+m)%impl.Prime != 0 {
				t.Errorf("SumCoef(%v, %q) is %d, and of the sum times -1 %d", a, s, n, m)
			}
			if n > 0 {
				there++
			} else {
				absent++
			}
		}
	}
	if there < 1000 || absent < 1500 {
		t.Errorf("%d trees are in a sum, and %d are not", there, absent)
	}
	for _, a := range noSums() {
		if n := impl.SumCoef(a, "*"); n != -1 {
			t.Errorf("SumCoef of %d terms, such as %q, and the leaf is %d", len(a), short(a[0].Tree), n)
		}
	}
	for _, s := range noTrees() {
		if n := impl.SumCoef(terms("1 *"), s); n != -1 {
			t.Errorf("SumCoef of the leaf and %q is %d", short(s), n)
		}
	}
}

func TestPromise26LeadsAreFirst(t *testing.T) {
	for _, a := range allSums() {
		lead, ok := impl.SumLead(a)
		if ok != (len(a) > 0) {
			t.Errorf("SumLead(%v) returned %v and %v", a, lead, ok)
		}
		if !ok {
			continue
		}
		if n := impl.SumCoef(a, lead.Tree); n != lead.Coef {
			t.Errorf("SumLead(%v) is %v, and SumCoef of it %d", a, lead, n)
		}
		for _, x := range a {
			if mustOrder(t, lead.Tree, x.Tree) < 0 {
				t.Errorf("SumLead(%v) is %v, and %q comes behind it", a, lead, x.Tree)
			}
		}
	}
	for _, a := range noSums() {
		if lead, ok := impl.SumLead(a); ok {
			t.Errorf("SumLead of %d terms, such as %q, is %v", len(a), short(a[0].Tree), lead)
		}
	}
}

func TestPromise27MirroredSums(t *testing.T) {
	changed := 0
	for _, a := range allSums() {
		sum := mustMirrorSum(t, a)
		if len(sum) != len(a) {
			t.Errorf("SumMirror(%v) has %d terms", a, len(sum))
		}
		if back := mustMirrorSum(t, sum); !slices.Equal(back, a) {
			t.Errorf("SumMirror(%v) is %v, and mirrored again %v", a, sum, back)
		}
		if !slices.Equal(sum, a) {
			changed++
		}
	}
	if changed < 20 {
		t.Errorf("only %d sums are changed", changed)
	}
	for _, a := range noSums() {
		if sum, ok := impl.SumMirror(a); ok {
			t.Errorf("SumMirror of %d terms, such as %q, is %v", len(a), short(a[0].Tree), sum)
		}
	}
}
