package tests

import (
	"slices"
	"testing"

	"loop.example/operadtrees/impl"
)

// What the functions of chapter 7 return, for each kind of argument. They are
// compared with what is told apart from the program in series_promises_test.go.

func TestSeriesValidTold(t *testing.T) {
	for _, a := range [][]int{
		{1}, {1, 0}, {1, 1}, {1, -1}, {1, 1000000}, {1, -1000000}, {1, 999999, -999999}, {1, 2, 3, 4, 5, 6, 7, 8},
		{1, 0, 0, 0, 0, 0, 0, 0}, {1, 0, 0, 0, 0, 0, 0, 1000000}, {1, 0, 0, 0, 0, 0, 0, -1000000},
		{1, 1000000, 1000000, 1000000, 1000000, 1000000, 1000000, 1000000}, {1, -1000000, -1000000, -1000000, -1000000, -1000000, -1000000, -1000000},
	} {
		if !impl.SeriesValid(a) {
			t.Errorf("SeriesValid(%v) does not hold", a)
		}
	}
	for _, a := range [][]int{
		nil, {}, {0}, {2}, {-1}, {0, 1}, {1, 1000001}, {1, -1000001}, {1, 0, 0, 0, 0, 0, 0, 1000001}, {1, 0, 0, 0, 0, 0, 0, -1000001},
		{1, 0, 0, 0, 0, 0, 0, 0, 0}, {1, 2, 3, 4, 5, 6, 7, 8, 9}, {2, 1, 1, 1, 1, 1, 1, 1},
	} {
		if impl.SeriesValid(a) {
			t.Errorf("SeriesValid(%v) holds", a)
		}
	}
}

func TestSeriesTimesTold(t *testing.T) {
	const most = 1000000
	ones := slices.Repeat([]int{1}, 8)
	great := append([]int{1}, slices.Repeat([]int{most}, 7)...)
	least := append([]int{1}, slices.Repeat([]int{-most}, 7)...)
	for _, x := range []struct{ a, b, product []int }{
		{[]int{1}, []int{1}, []int{1}},
		{[]int{1, 2}, []int{1, 3}, []int{1, 5}},
		{[]int{1, 2}, []int{1, -2}, []int{1, 0}},
		{[]int{1, 2, 3}, []int{1, 4, 5}, []int{1, 6, 16}},
		{[]int{1, 0, 0, 7}, []int{1, 0, 0, 0}, []int{1, 0, 0, 7}},
		{onlyX(8), onlyX(8), onlyX(8)},
		{ones, ones, []int{1, 2, 3, 4, 5, 6, 7, 8}},
		{ones, turnOf(ones), []int{1, 0, 1, 0, 1, 0, 1, 0}},
		// Numbers of any size.
		{[]int{1, most}, []int{1, most}, []int{1, 2 * most}},
		{[]int{1, -most}, []int{1, -most}, []int{1, -2 * most}},
		{[]int{1, most, 0}, []int{1, most, 0}, []int{1, 2 * most, most * most}},
		{[]int{1, most, most}, []int{1, most, most}, []int{1, 2 * most, most*most + 2*most}},
		{[]int{1, most, -most}, []int{1, -most, -most}, []int{1, 0, -most*most - 2*most}},
		{great, great, []int{1, 2000000, 1000002000000, 2000002000000, 3000002000000, 4000002000000, 5000002000000, 6000002000000}},
		{least, least, []int{1, -2000000, 999998000000, 1999998000000, 2999998000000, 3999998000000, 4999998000000, 5999998000000}},
		{great, least, []int{1, 0, -1000000000000, -2000000000000, -3000000000000, -4000000000000, -5000000000000, -6000000000000}},
	} {
		if product, ok := impl.SeriesTimes(x.a, x.b); !ok || !slices.Equal(product, x.product) {
			t.Errorf("SeriesTimes(%v, %v) returned %v and %v, not %v", x.a, x.b, product, ok, x.product)
		}
	}
}

func TestSeriesComposeTold(t *testing.T) {
	ones := slices.Repeat([]int{1}, 8)
	for _, x := range []struct{ f, g, composed []int }{
		{[]int{1}, []int{1}, []int{1}},
		{[]int{1, 2}, []int{1, 3}, []int{1, 5}},
		{[]int{1, 2}, []int{1, -2}, []int{1, 0}},
		{[]int{1, 1, 1}, []int{1, 1, 1}, []int{1, 2, 4}},
		{[]int{1, 2, 3}, []int{1, 4, 5}, []int{1, 6, 24}},
		// Exchanged, it is another one.
		{[]int{1, 1, 0, 0}, []int{1, 0, 1, 0}, []int{1, 1, 1, 2}},
		{[]int{1, 0, 1, 0}, []int{1, 1, 0, 0}, []int{1, 1, 1, 3}},
		{ones, ones, []int{1, 2, 4, 8, 16, 32, 64, 128}},
		{[]int{1, 2, 3, 4, 5, 6, 7, 8}, ones, []int{1, 3, 8, 20, 48, 112, 256, 576}},
		{ones, turnOf(ones), onlyX(8)},
		{turnOf(ones), ones, onlyX(8)},
		{onlyX(8), []int{1, 2, 3, 4, 5, 6, 7, 8}, []int{1, 2, 3, 4, 5, 6, 7, 8}},
		{[]int{1, 2, 3, 4, 5, 6, 7, 8}, onlyX(8), []int{1, 2, 3, 4, 5, 6, 7, 8}},
		{onlyX(8), onlyX(8), onlyX(8)},
	} {
		if composed, ok := impl.SeriesCompose(x.f, x.g); !ok || !slices.Equal(composed, x.composed) {
			t.Errorf("SeriesCompose(%v, %v) returned %v and %v, not %v", x.f, x.g, composed, ok, x.composed)
		}
	}
}

func TestSeriesInverseTold(t *testing.T) {
	ones := slices.Repeat([]int{1}, 8)
	catalan := []int{1, 1, 2, 5, 14, 42, 132, 429}
	for _, x := range []struct{ f, inverse []int }{
		{[]int{1}, []int{1}},
		{[]int{1, 5}, []int{1, -5}},
		{[]int{1, 2, 3}, []int{1, -2, 5}},
		{[]int{1, -1, 0, 0, 0, 0, 0, 0}, catalan},
		{[]int{1, 1, 0, 0, 0, 0, 0, 0}, turnOf(catalan)},
		{catalan, []int{1, -1, 0, 0, 0, 0, 0, 0}},
		{ones, turnOf(ones)},
		{[]int{1, 0, -1, 0, 0, 0, 0, 0}, []int{1, 0, 1, 0, 3, 0, 12, 0}},
		{[]int{1, 0, 0, 0, 0, 0, 0, 9}, []int{1, 0, 0, 0, 0, 0, 0, -9}},
		{[]int{1, -1, -1, -1, -1, -1, -1, -1}, []int{1, 1, 3, 11, 45, 197, 903, 4279}},
		{[]int{1, 7, 49, 343, 2401, 16807, 117649, 823543}, []int{1, -7, 49, -343, 2401, -16807, 117649, -823543}},
	} {
		if inverse, ok := impl.SeriesInverse(x.f); !ok || !slices.Equal(inverse, x.inverse) {
			t.Errorf("SeriesInverse(%v) returned %v and %v, not %v", x.f, inverse, ok, x.inverse)
		}
	}
	for size := 1; size <= 8; size++ {
		if inverse, ok := impl.SeriesInverse(onlyX(size)); !ok || !slices.Equal(inverse, onlyX(size)) {
			t.Errorf("SeriesInverse(%v) returned %v and %v", onlyX(size), inverse, ok)
		}
	}
}

func TestSeriesTurnTold(t *testing.T) {
	for _, x := range []struct{ a, turned []int }{
		{[]int{1}, []int{1}},
		{[]int{1, 5}, []int{1, -5}},
		{[]int{1, -5, 6}, []int{1, 5, 6}},
		{[]int{1, 0, -2, 0}, []int{1, 0, -2, 0}},
		{[]int{1, 2, 3, 4, 5, 6, 7, 8}, []int{1, -2, 3, -4, 5, -6, 7, -8}},
		{[]int{1, 1000000, 1000000, -1000000, -1000000}, []int{1, -1000000, 1000000, 1000000, -1000000}},
	} {
		if turned, ok := impl.SeriesTurn(x.a); !ok || !slices.Equal(turned, x.turned) {
			t.Errorf("SeriesTurn(%v) returned %v and %v, not %v", x.a, turned, ok, x.turned)
		}
	}
}

// TestSeriesDualTold has series that are duals of each other.
func TestSeriesDualTold(t *testing.T) {
	ones := slices.Repeat([]int{1}, 8)
	for _, x := range [][2][]int{
		{[]int{1}, []int{1}},
		{[]int{1, 5}, []int{1, 5}},
		{[]int{1, -5}, []int{1, -5}},
		{[]int{1, 1, 1, 1}, []int{1, 1, 1, 1}},
		{ones, ones},
		{onlyX(8), onlyX(8)},
		{[]int{1, 1, 0, 0, 0, 0, 0, 0}, []int{1, 1, 2, 5, 14, 42, 132, 429}},
		{[]int{1, 2, 3, 4, 5, 6, 7, 8}, []int{1, 2, 5, 14, 42, 132, 429, 1430}},
		{[]int{1, 3, 7, 15, 31, 63, 127, 255}, []int{1, 3, 11, 45, 197, 903, 4279, 20793}},
		{[]int{1, 2, 4, 8, 16, 32, 64, 128}, []int{1, 2, 4, 8, 16, 32, 64, 128}},
		{[]int{1, 0, 1, 0}, []int{1, 0, -1, 0}},
		{[]int{1, 1000000}, []int{1, 1000000}},
		{[]int{1, 0, 1000000}, []int{1, 0, -1000000}},
	} {
		for i, a := range x {
			if dual, ok := impl.SeriesDual(a); !ok || !slices.Equal(dual, x[1-i]) {
				t.Errorf("SeriesDual(%v) returned %v and %v, not %v", a, dual, ok, x[1-i])
			}
		}
	}
}

func TestSeriesOfTold(t *testing.T) {
	for _, x := range []struct {
		rules   [][]impl.Term
		symbols string
		numbers []int
	}{
		// Without rules, without symbols, and without both.
		{nil, "", []int{1, 0, 0, 0, 0, 0}},
		{rulesOf(assoc), "", []int{1, 0, 0, 0, 0, 0}},
		{nil, "a2", []int{1, 1, 2, 5, 14, 42}},
		{nil, "h2", []int{1, 1, 2, 5, 14, 42}},
		{nil, "b2a2", []int{1, 2, 8, 40, 224}},
		{nil, "a2b2c2", []int{1, 3, 18, 135}},
		{nil, "a2b2c2d2", []int{1, 4, 32, 320}},
		{nil, "a2b2c2d2e2", []int{1, 5, 50}},
		{nil, "f2e2d2c2b2a2", []int{1, 6, 72}},
		{rulesOf(assoc), "a2", []int{1, 1, 1, 1, 1, 1}},
		{rulesOf("1 (a * *)"), "a2", []int{1, 0, 0, 0, 0, 0}},
		{rulesOf("1 (a (a * *) *)", "1 (a * (a * *))"), "a2", []int{1, 1, 0, 0, 0, 0}},
		{rulesOf(assoc), "b2", []int{1, 1, 2, 5, 14, 42}},
		{rulesOf("1 (a * *)"), "b2a2", []int{1, 1, 2, 5, 14}},
		{dendriform(), "a2b2", []int{1, 2, 5, 14, 42}},
		{duplicial(), "b2a2", []int{1, 2, 5, 14, 42}},
		{duplicialDual(), "a2b2", []int{1, 2, 3, 4, 5}},
	} {
		for most := 1; most <= len(x.numbers); most++ {
			if numbers, ok := impl.SeriesOf(x.rules, sign(x.symbols), most); !ok || !slices.Equal(numbers, x.numbers[:most]) {
				t.Errorf("SeriesOf(%v, %q, %d) returned %v and %v, not %v", x.rules, x.symbols, most, numbers, ok, x.numbers[:most])
			}
		}
		// Behind the numbers that are told, there are too many trees.
		for most := len(x.numbers) + 1; most <= 8; most++ {
			if numbers, ok := impl.SeriesOf(x.rules, sign(x.symbols), most); ok || len(numbers) > 0 {
				t.Errorf("SeriesOf(%v, %q, %d) returned %v and %v", x.rules, x.symbols, most, numbers, ok)
			}
		}
	}
}

// TestSeriesOfDualRules has rules the duals of which have the dual series.
func TestSeriesOfDualRules(t *testing.T) {
	for _, x := range []struct {
		rules   [][]impl.Term
		letters string
		most    int
	}{
		{rulesOf(assoc), "a", 6}, {nil, "a", 6}, {rulesOf("1 (a (a * *) *)", "1 (a * (a * *))"), "a", 6},
		{dendriform(), "ab", 5}, {duplicial(), "ab", 5},
	} {
		symbols := []impl.Symbol{}
		for _, letter := range lettersOf(x.letters) {
			symbols = append(symbols, impl.Symbol{Letter: letter, Arity: 2})
		}
		numbers, ok := impl.SeriesOf(x.rules, symbols, x.most)
		if !ok {
			t.Fatalf("SeriesOf(%v, %v, %d) fails", x.rules, symbols, x.most)
		}
		others, ok := impl.SeriesOf(mustDual(t, lettersOf(x.letters), x.rules), symbols, x.most)
		dual, told := impl.SeriesDual(numbers)
		if !ok || !told || !slices.Equal(dual, others) {
			t.Errorf("SeriesOf(%v, %v, %d) is %v, its dual is %v, and that of the dual rules %v", x.rules, symbols, x.most, numbers, dual, others)
		}
	}
}
