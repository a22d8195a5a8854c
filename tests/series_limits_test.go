package tests

import (
	"math"
	"slices"
	"testing"

	"loop.example/operadtrees/impl"
)

// The limits of chapter 7, its invalid arguments, and that results share no
// memory.

func TestNoSeriesAreNone(t *testing.T) {
	for _, a := range noSeries() {
		if isSeries(a) {
			t.Errorf("the corpus of lists that are no series has %v", a)
		}
	}
	for size := 1; size <= 8; size++ {
		for _, a := range someSeries(size) {
			if !isSeries(a) || len(a) != size {
				t.Errorf("the corpus of series has %v", a)
			}
		}
	}
}

// TestOnTheWay has series with numbers on the way that are at their limit and
// such that are one beyond.
func TestOnTheWay(t *testing.T) {
	for _, x := range []struct{ f, g, composed []int }{
		// The square has the number 1000000000000, or one less or more. The
		// coefficient that it is multiplied by is 0.
		{[]int{1, 0, 0, 0}, []int{1, 1000000, 0, 0}, []int{1, 1000000, 0, 0}},
		{[]int{1, 0, 0, 0}, []int{1, -1000000, 0, 0}, []int{1, -1000000, 0, 0}},
		{[]int{1, 0, 0, 0}, []int{1, 999999, 999999, 0}, []int{1, 999999, 999999, 0}},
		{[]int{1, 0, 0, 0}, []int{1, 999999, 1000000, 0}, nil},
		{[]int{1, 0, 0, 0}, []int{1, -999999, 1000000, 0}, nil},
		{[]int{1, 0, 0, 0}, []int{1, 1000000, 1, 0}, nil},
		// With fewer numbers, it is left out.
		{[]int{1, 0, 0}, []int{1, 999999, 1000000}, []int{1, 999999, 1000000}},
		{[]int{1, 0, 0}, []int{1, 1000000, 1000000}, []int{1, 1000000, 1000000}},
		// The third power has -1000000000000, or one more or less.
		{onlyX(6), []int{1, -10000, 0, 0, 0, 0}, []int{1, -10000, 0, 0, 0, 0}},
		{onlyX(6), []int{1, -9998, 10000, -2, 0, 0}, []int{1, -9998, 10000, -2, 0, 0}},
		{onlyX(6), []int{1, -9998, 10000, -3, 0, 0}, nil},
		{onlyX(6), []int{1, 10000, 0, 0, 0, 0}, []int{1, 10000, 0, 0, 0, 0}},
		{onlyX(6), []int{1, 10000, 0, 1, 0, 0}, nil},
		// The square has it, too.
		{onlyX(5), []int{1, 500000, -1000000, 0, 0}, []int{1, 500000, -1000000, 0, 0}},
		{onlyX(5), []int{1, 500000, -1000000, -1, 0}, nil},
		{onlyX(5), []int{1, 500000, 1000000, 0, 0}, []int{1, 500000, 1000000, 0, 0}},
		{onlyX(5), []int{1, 500000, 1000000, 1, 0}, nil},
		// The sum with the square is -1000000000000, or one less or more, and
		// that with the third power is small again.
		{[]int{1, -1, 333334, 0}, []int{1, 999999, 999999, 0}, []int{1, 999998, -666665, 999999}},
		{[]int{1, -1, 333334, 0}, []int{1, 999999, 999999, -1}, []int{1, 999998, -666665, 999998}},
		{[]int{1, -1, 333334, 0}, []int{1, 999999, 999999, -2}, nil},
		// The same for 1000000000000.
		{[]int{1, 1, 333334, 0}, []int{1, -999999, 999999, 0}, []int{1, -999998, -666665, -999999}},
		{[]int{1, 1, 333334, 0}, []int{1, -999999, 999999, 1}, []int{1, -999998, -666665, -999998}},
		{[]int{1, 1, 333334, 0}, []int{1, -999999, 999999, 2}, nil},
	} {
		if composed, ok := impl.SeriesCompose(x.f, x.g); ok != (x.composed != nil) || !slices.Equal(composed, x.composed) {
			t.Errorf("SeriesCompose(%v, %v) returned %v and %v, not %v", x.f, x.g, composed, ok, x.composed)
		}
		numbers, inRange := composedNumbers(x.f, x.g)
		if _, ok := smallNumbers(numbers); !ok || inRange != (x.composed != nil) {
			t.Errorf("the numbers of %v and %v, %v, are not those of a series, or that all on the way are in their range is %v", x.f, x.g, numbers, inRange)
		}
	}
}

// TestComposedIsNoSeries has series that are composed to none, although all
// numbers on the way are in their range.
func TestComposedIsNoSeries(t *testing.T) {
	for _, x := range []struct{ f, g, composed []int }{
		{[]int{1, 999999}, []int{1, 1}, []int{1, 1000000}},
		{[]int{1, 1000000}, []int{1, 1}, nil},
		{[]int{1, 1}, []int{1, 1000000}, nil},
		{[]int{1, -1000000}, []int{1, 0}, []int{1, -1000000}},
		{[]int{1, -1000000}, []int{1, -1}, nil},
		{[]int{1, 500000, 0}, []int{1, 1, 0}, []int{1, 500001, 1000000}},
		{[]int{1, 500000, 1}, []int{1, 1, 0}, nil},
		{[]int{1, 500000, 0}, []int{1, -1, 0}, []int{1, 499999, -1000000}},
		{[]int{1, 500000, -1}, []int{1, -1, 0}, nil},
		{[]int{1, 1000000, 0}, []int{1, 500000, 0}, nil},
		{[]int{1, 0, 0, 0, 0, 0, 0, 1000000}, []int{1, 0, 0, 0, 0, 0, 0, 0}, []int{1, 0, 0, 0, 0, 0, 0, 1000000}},
		{[]int{1, 0, 0, 0, 0, 0, 0, 1000000}, []int{1, 0, 0, 0, 0, 0, 0, 1}, nil},
		{[]int{1, 0, 0, 0, 0, 0, 0, -1}, []int{1, 0, 0, 0, 0, 0, 0, -1000000}, nil},
	} {
		if _, inRange := composedNumbers(x.f, x.g); !inRange {
			t.Errorf("for %v and %v, not all numbers on the way are in their range", x.f, x.g)
		}
		if composed, ok := impl.SeriesCompose(x.f, x.g); ok != (x.composed != nil) || !slices.Equal(composed, x.composed) {
			t.Errorf("SeriesCompose(%v, %v) returned %v and %v, not %v", x.f, x.g, composed, ok, x.composed)
		}
	}
}

// TestInverseLimits has inverses with coefficients at the limit, and series
// without one as a coefficient is one beyond.
func TestInverseLimits(t *testing.T) {
	for _, x := range []struct{ f, inverse []int }{
		{[]int{1, 1000000}, []int{1, -1000000}},
		{[]int{1, -1000000}, []int{1, 1000000}},
		{[]int{1, 1000000, 0}, nil},
		{[]int{1, 707, 0}, []int{1, -707, 999698}},
		{[]int{1, 708, 0}, nil},
		{[]int{1, 1000, 1000000}, []int{1, -1000, 1000000}},
		{[]int{1, 1000, 999999}, nil},
		{[]int{1, -1000, 999999}, nil},
		{[]int{1, 1001, 1000000}, nil},
		{[]int{1, 0, 1000000}, []int{1, 0, -1000000}},
		{[]int{1, 1, 1000000}, []int{1, -1, -999998}},
		// What is composed on the way is no series, but its numbers are in their range.
		{[]int{1, 1000, 1000000, 1000000}, []int{1, -1000, 1000000, -1000000}},
		{[]int{1, -1000, 1000000, 0}, []int{1, 1000, 1000000, 0}},
		{[]int{1, 100, 10000, 1000000}, []int{1, -100, 10000, -1000000}},
		// The last coefficient alone is beyond.
		{[]int{1, 0, 0, 500, 0, 0, 0}, []int{1, 0, 0, -500, 0, 0, 1000000}},
		{[]int{1, 0, 0, 500, 0, 0, -1}, nil},
		{[]int{1, 0, 0, -500, 0, 0, 1000000}, []int{1, 0, 0, 500, 0, 0, 0}},
		{[]int{1, 1, 0, 0, 0, 0, 0, -1000000}, []int{1, -1, 2, -5, 14, -42, 132, 999571}},
		{[]int{1, -1, 0, 0, 0, 0, 0, -999571}, []int{1, 1, 2, 5, 14, 42, 132, 1000000}},
		{[]int{1, -1, 0, 0, 0, 0, 0, -999572}, nil},
		{[]int{1, 1, 0, 0, 0, 0, 0, 999571}, []int{1, -1, 2, -5, 14, -42, 132, -1000000}},
		{[]int{1, 1, 0, 0, 0, 0, 0, 999572}, nil},
		// One in the middle is beyond, and none behind it would be.
		{[]int{1, 0, 0, 500, 0, 0, -1, 0}, nil},
		// Many are, and far beyond.
		{append([]int{1}, slices.Repeat([]int{1000000}, 7)...), nil},
		{append([]int{1}, slices.Repeat([]int{-1000000}, 7)...), nil},
		{[]int{1, 1000, 1000000, 0, 0}, nil},
	} {
		inverse, ok := impl.SeriesInverse(x.f)
		if ok != (x.inverse != nil) || !slices.Equal(inverse, x.inverse) {
			t.Errorf("SeriesInverse(%v) returned %v and %v, not %v", x.f, inverse, ok, x.inverse)
		}
		dual, ok := impl.SeriesDual(x.f)
		if ok != (x.inverse != nil) || !slices.Equal(dual, turnOf(x.inverse)) {
			t.Errorf("SeriesDual(%v) returned %v and %v, and the inverse is %v", x.f, dual, ok, x.inverse)
		}
	}
}

// TestInverseOnTheWay has series and lists that would be their inverses. With
// some of them, a number on the way is beyond its range.
func TestInverseOnTheWay(t *testing.T) {
	for _, x := range []struct {
		f, inverse []int
		told       bool
	}{
		{[]int{1, 33, 1094, 28960, 472681, 767019, -903781, -1000000}, []int{1, -33, 1084, -28135, 436115, 53234, -396255, -722492}, true},
		{[]int{1, 40, 1603, 50950, 974251, 265443, 239123, 543141}, []int{1, -40, 1597, -50350, 941776, 640707, -564863, 0}, false},
		// It is the series that the inverse so far is put into: the other way
		// round, a number would be beyond.
		{[]int{1, 36, 1288, 36201, 593302, -989212, 30084, -1000000}, []int{1, -36, 1304, -37641, 663362, -761348, 882752, -584558}, true},
		{[]int{1, -36, 1304, -37641, 663362, -761348, 882752, -584558}, []int{1, 36, 1288, 36201, 593302, -989212, 30084, -1000000}, false},
		// The other way round, none would, nor with the whole inverse: it is with
		// its first four numbers that one is.
		{[]int{1, 36, 1297, 36953, 626347, -300703, -862228, -1000000}, []int{1, -36, 1295, -36773, 617600, 517794, -855836, -24137}, false},
		// The whole inverse put into the series has none, but the other way round
		// there is one, too.
		{[]int{1, 36, 1294, 36737, 619054, -358215, 440035, -1000000}, []int{1, -36, 1298, -37097, 636566, -78991, 633473, -243584}, false},
	} {
		for _, turn := range []func([]int) []int{slices.Clone[[]int], turnOf} {
			f, want := turn(x.f), turn(x.inverse)
			if number := inverseNumber(f, 8).Int64(); number != int64(want[7]) {
				t.Errorf("the last coefficient of the inverse of %v is %d, not %d", f, number, want[7])
			}
			if !x.told {
				want = nil
			}
			inverse, ok := impl.SeriesInverse(f)
			if ok != x.told || !slices.Equal(inverse, want) {
				t.Errorf("SeriesInverse(%v) returned %v and %v, not %v", f, inverse, ok, want)
			}
			if _, told := inverseOf(f); told != x.told {
				t.Errorf("that an inverse of %v is told is %v", f, told)
			}
			dual, ok := impl.SeriesDual(f)
			if ok != x.told || !slices.Equal(dual, turnOf(want)) {
				t.Errorf("SeriesDual(%v) returned %v and %v, and the inverse is %v", f, dual, ok, want)
			}
		}
	}
	// With the whole inverse, all numbers on the way are in their range.
	f, inverse := []int{1, 36, 1297, 36953, 626347, -300703, -862228, -1000000}, []int{1, -36, 1295, -36773, 617600, 517794, -855836, -24137}
	for _, pair := range [][2][]int{{f, inverse}, {inverse, f}} {
		if composed, ok := impl.SeriesCompose(pair[0], pair[1]); !ok || !slices.Equal(composed, onlyX(8)) {
			t.Errorf("SeriesCompose(%v, %v) returned %v and %v", pair[0], pair[1], composed, ok)
		}
	}
}

func TestSeriesOfFails(t *testing.T) {
	fails := func(rules [][]impl.Term, symbols []impl.Symbol, most int) {
		t.Helper()
		if numbers, ok := impl.SeriesOf(rules, symbols, most); ok || len(numbers) > 0 {
			t.Errorf("SeriesOf of %d sums, such as %q, for %d symbols and %d returned %v and %v", len(rules), shortRules(rules), len(symbols), most, numbers, ok)
		}
	}
	// With one leaf, there is just one tree: it is the arguments that matter.
	for most := 1; most <= 6; most++ {
		for _, rules := range noRules() {
			fails(rules, sign("a2"), most)
			fails(rules, nil, most)
		}
		for _, symbols := range noSigns() {
			fails(nil, symbols, most)
			fails(rulesOf(assoc), symbols, most)
		}
		for _, text := range []string{
			"a1", "a3", "a4", "a5", "a6", "h1", "a2b1", "b1a2", "a2b3", "b3a2", "a2b2c2d2e2f3", "a1b2c2d2e2f2", "a1b1", "a3b3",
			// Symbols that are no signature, although each has the arity 2.
			"a2a2", "a2b2a2", "a2b2c2d2e2f2g2", "i2", "a2i2", "A2", "*2",
		} {
			fails(nil, sign(text), most)
			fails(rulesOf(assoc), sign(text), most)
		}
	}
	for _, most := range append(noIndexes(7), 0, math.MinInt, 8, 9, 10, 1<<32+1) {
		for _, text := range []string{"", "a2", "a2b2", "a3", "a2a2"} {
			fails(nil, sign(text), most)
			fails(rulesOf(assoc), sign(text), most)
		}
	}
	// TreeList has more than 400 trees, although few of them are in the basis.
	for _, rules := range [][][]impl.Term{nil, rulesOf("1 (a * *)", "1 (b * *)"), rulesOf("1 (a * *)", "1 (b * *)", "1 (c * *)", "1 (d * *)", "1 (e * *)")} {
		fails(rules, sign("a2b2"), 6)
		fails(rules, sign("a2b2c2"), 5)
		fails(rules, sign("a2b2c2d2"), 5)
		fails(rules, sign("a2b2c2d2e2"), 4)
		fails(rules, sign("a2b2c2d2e2f2"), 4)
	}
}

func TestSeriesShareNothing(t *testing.T) {
	for size := 1; size <= 8; size++ {
		a, b := mixedSeries(size, 2, size), mixedSeries(size, 2, size+1)
		keptA, keptB := slices.Clone(a), slices.Clone(b)
		for name, make := range map[string]func() ([]int, bool){
			"SeriesTimes":        func() ([]int, bool) { return impl.SeriesTimes(a, b) },
			"SeriesCompose":      func() ([]int, bool) { return impl.SeriesCompose(a, b) },
			"SeriesCompose x":    func() ([]int, bool) { return impl.SeriesCompose(onlyX(size), b) },
			"SeriesCompose of x": func() ([]int, bool) { return impl.SeriesCompose(a, onlyX(size)) },
			"SeriesInverse":      func() ([]int, bool) { return impl.SeriesInverse(a) },
			"SeriesTurn":         func() ([]int, bool) { return impl.SeriesTurn(a) },
			"SeriesDual":         func() ([]int, bool) { return impl.SeriesDual(a) },
			"SeriesOf":           func() ([]int, bool) { return impl.SeriesOf(rulesOf(assoc), sign("a2"), min(size, 6)) },
		} {
			first, ok := make()
			second, _ := make()
			if !ok || len(first) == 0 {
				t.Fatalf("%s of %v and %v fails", name, a, b)
			}
			want := slices.Clone(second)
			for i := range first {
				first[i] = 77
			}
			first = append(first[:len(first)-1], 88, 99)
			if third, _ := make(); !slices.Equal(second, want) || !slices.Equal(third, want) {
				t.Errorf("behind a change of one result %v, %s has returned %v and %v, not %v", first, name, second, third, want)
			}
			if !slices.Equal(a, keptA) || !slices.Equal(b, keptB) {
				t.Errorf("%s or a change of its result left %v and %v, not %v and %v", name, a, b, keptA, keptB)
			}
		}
	}
}

// TestRoomBehindSeries has arguments that are the beginnings of longer slices:
// what is behind them must stay, too, and does not matter.
func TestRoomBehindSeries(t *testing.T) {
	f, g := slices.Repeat([]int{1, 2, -3, 4}, 8), slices.Repeat([]int{1, -1, 5, 2}, 8)
	for size := 1; size <= 8; size++ {
		cutF, cutG := slices.Clone(f[:size]), slices.Clone(g[:size])
		for name, make := range map[string]func(f, g []int) ([]int, bool){
			"SeriesTimes":   impl.SeriesTimes,
			"SeriesCompose": impl.SeriesCompose,
			"SeriesInverse": func(f, _ []int) ([]int, bool) { return impl.SeriesInverse(f) },
			"SeriesTurn":    func(f, _ []int) ([]int, bool) { return impl.SeriesTurn(f) },
			"SeriesDual":    func(_, g []int) ([]int, bool) { return impl.SeriesDual(g) },
		} {
			result, ok := make(f[:size], g[:size])
			want, told := make(cutF, cutG)
			if ok != told || !slices.Equal(result, want) {
				t.Errorf("%s of the first %d numbers of %v and %v returned %v and %v, not %v and %v", name, size, f, g, result, ok, want, told)
			}
			if !slices.Equal(f, slices.Repeat([]int{1, 2, -3, 4}, 8)) || !slices.Equal(g, slices.Repeat([]int{1, -1, 5, 2}, 8)) {
				t.Fatalf("%s of the first %d numbers left %v and %v", name, size, f, g)
			}
		}
	}
}
