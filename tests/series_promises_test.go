package tests

import (
	"slices"
	"testing"

	"loop.example/operadtrees/impl"
)

// The promises 50 to 56 of the document, one test each. Each test also compares
// the functions with what is told apart from the program, and checks that the
// condition of the promise does not hold where an argument is invalid.

// forPairs checks each pair of series with as many numbers.
func forPairs(check func(a, b []int)) {
	for size := 1; size <= 8; size++ {
		lists := someSeries(size)
		for _, a := range lists {
			for _, b := range lists {
				check(a, b)
			}
		}
	}
}

// forUnfit checks pairs of which one is no series or which have unlike numbers
// of coefficients.
func forUnfit(check func(a, b []int)) {
	for _, a := range noSeries() {
		others := [][]int{{1}, onlyX(8), onlyX(min(max(1, len(a)), 8)), a}
		for _, b := range others {
			check(a, b)
			check(b, a)
		}
	}
	for size := 1; size <= 8; size++ {
		for other := 1; other <= 8; other++ {
			if size == other {
				continue
			}
			for _, a := range someSeries(size)[:2] {
				for _, b := range someSeries(other)[:2] {
					check(a, b)
				}
			}
			check(onlyX(size), onlyX(other))
		}
	}
}

func TestPromise50Series(t *testing.T) {
	composed := 0
	for size := 1; size <= 8; size++ {
		x := onlyX(size)
		for _, a := range someSeries(size) {
			if !impl.SeriesValid(a) {
				t.Errorf("SeriesValid(%v) does not hold", a)
			}
			// Put into a series, x has no number on the way beyond the range.
			if same, ok := impl.SeriesCompose(a, x); !ok || !slices.Equal(same, a) {
				t.Errorf("SeriesCompose(%v, %v) returned %v and %v", a, x, same, ok)
			}
			same, ok := impl.SeriesCompose(x, a)
			if ok && !slices.Equal(same, a) {
				t.Errorf("SeriesCompose(%v, %v) is %v", x, a, same)
			}
			if _, told := composeOf(x, a); told != ok {
				t.Errorf("SeriesCompose(%v, %v) returned %v", x, a, ok)
			}
			if ok {
				composed++
			}
		}
	}
	if composed < 200 {
		t.Errorf("only %d series are put into x", composed)
	}
	for _, a := range noSeries() {
		if impl.SeriesValid(a) {
			t.Errorf("SeriesValid holds for %d numbers, such as %v", len(a), a[:min(len(a), 9)])
		}
	}
}

func TestPromise51Products(t *testing.T) {
	forPairs(func(a, b []int) {
		keptA, keptB := slices.Clone(a), slices.Clone(b)
		product, ok := impl.SeriesTimes(a, b)
		if !ok || !slices.Equal(product, timesOf(a, b)) {
			t.Errorf("SeriesTimes(%v, %v) returned %v and %v", a, b, product, ok)
		}
		if other, ok := impl.SeriesTimes(b, a); !ok || !slices.Equal(product, other) {
			t.Errorf("SeriesTimes(%v, %v) is %v, and exchanged %v", a, b, product, other)
		}
		if len(product) != len(a) || product[0] != 1 {
			t.Errorf("SeriesTimes(%v, %v) is %v", a, b, product)
		}
		if !slices.Equal(a, keptA) || !slices.Equal(b, keptB) {
			t.Errorf("SeriesTimes(%v, %v) left %v and %v", keptA, keptB, a, b)
		}
	})
	forUnfit(func(a, b []int) {
		if product, ok := impl.SeriesTimes(a, b); ok || len(product) > 0 {
			t.Errorf("SeriesTimes of %d and %d numbers returned %v and %v", len(a), len(b), product, ok)
		}
	})
}

func TestPromise52Composed(t *testing.T) {
	told, fails, twice := 0, 0, 0
	forPairs(func(f, g []int) {
		keptF, keptG := slices.Clone(f), slices.Clone(g)
		composed, ok := impl.SeriesCompose(f, g)
		want, isTold := composeOf(f, g)
		if ok != isTold || !slices.Equal(composed, want) {
			t.Errorf("SeriesCompose(%v, %v) returned %v and %v, not %v and %v", f, g, composed, ok, want, isTold)
		}
		if !slices.Equal(f, keptF) || !slices.Equal(g, keptG) {
			t.Errorf("SeriesCompose(%v, %v) left %v and %v", keptF, keptG, f, g)
		}
		if !ok {
			fails++
			return
		}
		told++
		left, ok := impl.SeriesCompose(composed, g)
		if !ok {
			return
		}
		inner, ok := impl.SeriesCompose(g, g)
		if !ok {
			return
		}
		right, ok := impl.SeriesCompose(f, inner)
		if !ok {
			return
		}
		twice++
		if !slices.Equal(left, right) {
			t.Errorf("%v composed with %v twice is %v, and with both composed %v", f, g, left, right)
		}
	})
	if told < 3000 || fails < 1000 || twice < 2000 {
		t.Errorf("%d pairs are composed, %d are not, and %d are composed twice", told, fails, twice)
	}
	forUnfit(func(f, g []int) {
		if composed, ok := impl.SeriesCompose(f, g); ok || len(composed) > 0 {
			t.Errorf("SeriesCompose of %d and %d numbers returned %v and %v", len(f), len(g), composed, ok)
		}
	})
}

func TestPromise53Inverses(t *testing.T) {
	told, fails, both, back := 0, 0, 0, 0
	for size := 1; size <= 8; size++ {
		for _, f := range someSeries(size) {
			kept := slices.Clone(f)
			inverse, ok := impl.SeriesInverse(f)
			want, isTold := inverseOf(f)
			if ok != isTold || !slices.Equal(inverse, want) {
				t.Errorf("SeriesInverse(%v) returned %v and %v, not %v and %v", f, inverse, ok, want, isTold)
			}
			if !slices.Equal(f, kept) {
				t.Errorf("SeriesInverse(%v) left %v", kept, f)
			}
			if !ok {
				fails++
				continue
			}
			told++
			for _, pair := range [][2][]int{{f, inverse}, {inverse, f}} {
				composed, ok := impl.SeriesCompose(pair[0], pair[1])
				if ok && !slices.Equal(composed, onlyX(size)) {
					t.Errorf("SeriesCompose(%v, %v) of a series and its inverse is %v", pair[0], pair[1], composed)
				}
				if ok {
					both++
				}
			}
			again, ok := impl.SeriesInverse(inverse)
			if ok && !slices.Equal(again, f) {
				t.Errorf("SeriesInverse(%v) is %v, the inverse of which is %v", f, inverse, again)
			}
			if ok {
				back++
			}
		}
	}
	if told < 150 || fails < 50 || both < 300 || back < 150 {
		t.Errorf("%d series have an inverse, %d have none, %d inverses are composed, and %d lead back", told, fails, both, back)
	}
	for _, a := range noSeries() {
		if inverse, ok := impl.SeriesInverse(a); ok || len(inverse) > 0 {
			t.Errorf("SeriesInverse of %d numbers, such as %v, returned %v and %v", len(a), a[:min(len(a), 9)], inverse, ok)
		}
	}
}

func TestPromise54Turned(t *testing.T) {
	for size := 1; size <= 8; size++ {
		for _, a := range someSeries(size) {
			kept := slices.Clone(a)
			turned, ok := impl.SeriesTurn(a)
			if !ok || !slices.Equal(turned, turnOf(a)) {
				t.Errorf("SeriesTurn(%v) returned %v and %v", a, turned, ok)
			}
			if back, ok := impl.SeriesTurn(turned); !ok || !slices.Equal(back, a) {
				t.Errorf("SeriesTurn(%v) is %v, which turned is %v", a, turned, back)
			}
			if !slices.Equal(a, kept) {
				t.Errorf("SeriesTurn(%v) left %v", kept, a)
			}
		}
	}
	for _, a := range noSeries() {
		if turned, ok := impl.SeriesTurn(a); ok || len(turned) > 0 {
			t.Errorf("SeriesTurn of %d numbers, such as %v, returned %v and %v", len(a), a[:min(len(a), 9)], turned, ok)
		}
	}
}

func TestPromise55DualSeries(t *testing.T) {
	told, fails, back := 0, 0, 0
	for size := 1; size <= 8; size++ {
		for _, a := range someSeries(size) {
			kept := slices.Clone(a)
			dual, ok := impl.SeriesDual(a)
			want, isTold := dualOf(a)
			if ok != isTold || !slices.Equal(dual, want) {
				t.Errorf("SeriesDual(%v) returned %v and %v, not %v and %v", a, dual, ok, want, isTold)
			}
			if !slices.Equal(a, kept) {
				t.Errorf("SeriesDual(%v) left %v", kept, a)
			}
			if !ok {
				fails++
				continue
			}
			told++
			again, ok := impl.SeriesDual(dual)
			if ok && !slices.Equal(again, a) {
				t.Errorf("SeriesDual(%v) is %v, the dual of which is %v", a, dual, again)
			}
			if ok {
				back++
			}
		}
	}
	if told < 150 || fails < 50 || back < 150 {
		t.Errorf("%d series have a dual, %d have none, and %d duals lead back", told, fails, back)
	}
	for _, a := range noSeries() {
		if dual, ok := impl.SeriesDual(a); ok || len(dual) > 0 {
			t.Errorf("SeriesDual of %d numbers, such as %v, returned %v and %v", len(a), a[:min(len(a), 9)], dual, ok)
		}
	}
}

func TestPromise56SeriesOfTrees(t *testing.T) {
	told, fails := 0, 0
	for _, x := range binarySystems() {
		for most := 1; most <= 6; most++ {
			symbols, rules := sign(x.sign), cloneRules(x.rules)
			numbers, ok := impl.SeriesOf(x.rules, symbols, most)
			want, isTold := seriesNumbers(x.rules, symbols, most)
			if ok != isTold || !slices.Equal(numbers, want) {
				t.Errorf("SeriesOf(%v, %q, %d) returned %v and %v, not %v and %v", x.rules, x.sign, most, numbers, ok, want, isTold)
			}
			if !sameRules(x.rules, rules) || !slices.Equal(symbols, sign(x.sign)) {
				t.Errorf("SeriesOf(%v, %q, %d) left %v and %v", rules, x.sign, most, x.rules, symbols)
			}
			if !ok {
				fails++
				continue
			}
			told++
			if len(numbers) != most || numbers[0] != 1 {
				t.Errorf("SeriesOf(%v, %q, %d) is %v", x.rules, x.sign, most, numbers)
			}
			counts, ok := impl.TreeCount(symbols, most)
			if !ok || len(counts) != most {
				t.Fatalf("TreeCount(%q, %d) returned %v and %v", x.sign, most, counts, ok)
			}
			for i, n := range numbers {
				if n > counts[i] {
					t.Errorf("SeriesOf(%v, %q, %d) is %v, and TreeCount %v", x.rules, x.sign, most, numbers, counts)
				}
			}
			if free, ok := impl.SeriesOf(nil, symbols, most); !ok || !slices.Equal(free, counts) {
				t.Errorf("SeriesOf without rules for %q and %d returned %v and %v, and TreeCount %v", x.sign, most, free, ok, counts)
			}
		}
	}
	if told < 500 || fails < 50 {
		t.Errorf("%d series are told, and %d are not", told, fails)
	}
	for _, rules := range noRules() {
		if numbers, ok := impl.SeriesOf(rules, sign("a2"), 3); ok || len(numbers) > 0 {
			t.Errorf("SeriesOf of %d sums, such as %q, returned %v and %v", len(rules), shortRules(rules), numbers, ok)
		}
	}
	for _, symbols := range noSigns() {
		if numbers, ok := impl.SeriesOf(nil, symbols, 3); ok || len(numbers) > 0 {
			t.Errorf("SeriesOf for %d symbols returned %v and %v", len(symbols), numbers, ok)
		}
	}
	for _, most := range append(noIndexes(7), 0) {
		if numbers, ok := impl.SeriesOf(nil, sign("a2"), most); ok || len(numbers) > 0 {
			t.Errorf("SeriesOf for %d leaves returned %v and %v", most, numbers, ok)
		}
	}
}
