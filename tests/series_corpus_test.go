package tests

import (
	"math"
	"math/big"
	"slices"

	"loop.example/operadtrees/impl"
)

// What products, composed series and inverses are, told apart from the program:
// with numbers of any size, sums over all ways to write a number as several
// ones, and a formula for inverses in which nothing is composed.

func isSeries(a []int) bool {
	if len(a) == 0 || len(a) > 8 || a[0] != 1 {
		return false
	}
	return slices.Min(a) >= -1000000 && slices.Max(a) <= 1000000
}

func isOnTheWay(n *big.Int) bool {
	return n.CmpAbs(big.NewInt(1000000000000)) <= 0
}

// powerNumber returns the coefficient of the n-th power of x in the k-th power
// of a list of coefficients: the sum over all ways to write n as k numbers.
func powerNumber(g []int, k, n int) *big.Int {
	sum := new(big.Int)
	if k == 0 {
		if n == 0 {
			sum.SetInt64(1)
		}
		return sum
	}
	for i := 1; i <= min(n, len(g)); i++ {
		rest := powerNumber(g, k-1, n-i)
		sum.Add(sum, rest.Mul(rest, big.NewInt(int64(g[i-1]))))
	}
	return sum
}

// composedNumbers returns the numbers of f with g put for x, and whether all
// numbers on the way are in their range.
func composedNumbers(f, g []int) ([]*big.Int, bool) {
	numbers, inRange := []*big.Int{}, true
	for n := 1; n <= len(f); n++ {
		sum := new(big.Int)
		for k := 1; k <= len(f); k++ {
			number := powerNumber(g, k, n)
			inRange = inRange && isOnTheWay(number)
			sum.Add(sum, number.Mul(number, big.NewInt(int64(f[k-1]))))
			inRange = inRange && isOnTheWay(sum)
		}
		numbers = append(numbers, sum)
	}
	return numbers, inRange
}

// smallNumbers returns numbers as a series, and whether they are one.
func smallNumbers(numbers []*big.Int) ([]int, bool) {
	list := []int{}
	for _, n := range numbers {
		if !n.IsInt64() {
			return nil, false
		}
		list = append(list, int(n.Int64()))
	}
	if !isSeries(list) {
		return nil, false
	}
	return list, true
}

// composeOf returns f with g put for x, and whether it is told.
func composeOf(f, g []int) ([]int, bool) {
	if !isSeries(f) || !isSeries(g) || len(f) != len(g) {
		return nil, false
	}
	numbers, inRange := composedNumbers(f, g)
	if !inRange {
		return nil, false
	}
	return smallNumbers(numbers)
}

// inverseNumber returns the n-th coefficient of the inverse of f: by Lagrange's
// formula, the coefficient of the power n-1 in the power -n of f over x, over n.
func inverseNumber(f []int, n int) *big.Int {
	sum := new(big.Int)
	for j := range n {
		number := powerNumber(f[1:], j, n-1)
		number.Mul(number, new(big.Int).Binomial(int64(n+j-1), int64(j)))
		if j%2 == 1 {
			number.Neg(number)
		}
		sum.Add(sum, number)
	}
	over, rest := sum.QuoRem(sum, big.NewInt(int64(n)), new(big.Int))
	if rest.Sign() != 0 {
		panic("no whole number")
	}
	return over
}

// inverseOf returns the inverse of f, and whether it is told.
func inverseOf(f []int) ([]int, bool) {
	if !isSeries(f) {
		return nil, false
	}
	numbers := []*big.Int{}
	for n := range f {
		numbers = append(numbers, inverseNumber(f, n+1))
	}
	inverse, ok := smallNumbers(numbers)
	if !ok {
		return nil, false
	}
	for known := 1; known < len(f); known++ {
		soFar := append(slices.Clone(inverse[:known]), make([]int, len(f)-known)...)
		if _, inRange := composedNumbers(f, soFar); !inRange {
			return nil, false
		}
	}
	return inverse, true
}

// timesOf returns the numbers of the product of two series: each product of a
// coefficient of one and one of the other has its place.
func timesOf(a, b []int) []int {
	list := make([]int, len(a))
	for i, n := range a {
		for k, m := range b {
			if i+k < len(list) {
				list[i+k] += n * m
			}
		}
	}
	return list
}

func turnOf(a []int) []int {
	list := []int{}
	for i, n := range a {
		if i%2 == 1 {
			n = -n
		}
		list = append(list, n)
	}
	return list
}

// dualOf returns the turned inverse of a series, and whether it is told.
func dualOf(a []int) ([]int, bool) {
	inverse, ok := inverseOf(a)
	if !ok {
		return nil, false
	}
	return turnOf(inverse), true
}

// The series that the tests go over.

// onlyX returns the series x of so many numbers.
func onlyX(size int) []int {
	return append([]int{1}, make([]int, size-1)...)
}

// mixedSeries returns a series of so many numbers from -most to most, which
// follow a number.
func mixedSeries(size, most, n int) []int {
	list := []int{1}
	for len(list) < size {
		n = (n*1103515245 + 12345) % (1 << 31)
		list = append(list, n>>8%(2*most+1)-most)
	}
	return list
}

// longSeries returns series of eight numbers.
func longSeries() [][]int {
	const most = 1000000
	lists := [][]int{
		{1, 0, 0, 0, 0, 0, 0, 0},
		{1, 1, 1, 1, 1, 1, 1, 1},
		{1, -1, 1, -1, 1, -1, 1, -1},
		{1, -1, 0, 0, 0, 0, 0, 0},
		{1, 1, 2, 5, 14, 42, 132, 429},
		{1, 2, 3, 4, 5, 6, 7, 8},
		{1, 3, 11, 45, 197, 903, 4279, 20793},
		{1, 7, 49, 343, 2401, 16807, 117649, 823543},
		{1, -7, 49, -343, 2401, -16807, 117649, -823543},
		{1, 2, 6, 24, 120, 720, 5040, 40320},
		{1, 0, -816, 0, most - 1, 0, 5, -6},
		{1, 0, 0, 0, most, 0, 0, -most},
		{1, 0, 0, 0, 0, most, -most, most},
		{1, 0, 0, 0, 0, 0, 0, most},
		{1, 1000, most, -most, 0, 0, 0, 0},
		{1, -1000, most, most, 0, 0, 0, 0},
		{1, most, 0, 0, 0, 0, 0, 0},
		{1, -most, 0, most, 0, 0, 0, 0},
		{1, most, most, most, most, most, most, most},
		{1, -most, -most, -most, -most, -most, -most, -most},
		{1, 100, 10000, most, 0, 0, 0, 0},
		{1, -10000, 0, 0, 0, 0, 0, 0},
	}
	for n := range 6 {
		lists = append(lists, mixedSeries(8, 1, n), mixedSeries(8, 3, n+10), mixedSeries(8, 20, n+20))
	}
	for n := range 2 {
		lists = append(lists, mixedSeries(8, 300, n), mixedSeries(8, most, n))
	}
	return lists
}

// someSeries returns series of so many numbers, none twice.
func someSeries(size int) [][]int {
	lists := [][]int{}
	for _, a := range longSeries() {
		lists = append(lists, a[:size:size])
	}
	slices.SortFunc(lists, slices.Compare)
	return slices.CompactFunc(lists, slices.Equal)
}

// noSeries returns lists that are no series.
func noSeries() [][]int {
	lists := [][]int{
		nil, {},
		// A first number that is not 1.
		{0}, {-1}, {2}, {1000000}, {math.MinInt}, {math.MaxInt}, {0, 1}, {0, 0, 0}, {-1, 2, 3, 4}, {2, 1, 1}, {0, 1, 1, 1, 1, 1, 1, 1}, {3, 0, 0, 0, 0, 0, 0, 0},
		{1<<32 + 1}, {1<<8 + 1, 0}, {-1, 0, 0, 0, 0, 0, 0, 0},
		// Too many numbers.
		onlyX(9), onlyX(10), onlyX(100000), {1, 1, 1, 1, 1, 1, 1, 1, 1}, slices.Repeat([]int{1}, 16), append(onlyX(8), 1000001),
	}
	for size := 2; size <= 8; size++ {
		for _, n := range []int{1000001, -1000001, 1000000000000, -1000000000000, 1 << 32, 1<<32 + 1, math.MaxInt, math.MinInt, math.MaxInt - 1, math.MinInt + 1} {
			for at := 1; at < size; at++ {
				a := onlyX(size)
				a[at] = n
				lists = append(lists, a)
			}
		}
	}
	return lists
}

// binarySystems returns rules with signatures of symbols of arity 2 alone. Some
// of the rules have heads with other symbols, too, which stand nowhere.
func binarySystems() []system {
	list := []system{
		{nil, ""}, {rulesOf(assoc), ""}, {tenRules(), ""}, {rulesOf("1 (a *)", "1 (a * * *)"), "a2"},
		{nil, "h2"}, {nil, "a2b2"}, {nil, "c2b2a2"}, {nil, "a2b2c2d2"}, {nil, "a2b2c2d2e2f2"}, {nil, "f2e2d2c2b2a2"},
		{rulesOf("1 (a * *)"), "a2"}, {rulesOf("1 (a * *)"), "b2"}, {rulesOf("1 (a * *)"), "b2a2"},
		{rulesOf("1 (a * *)", "1 (b * *)", "1 (c * *)"), "a2b2c2d2"},
		{dendriform(), "a2b2"}, {diassociative(), "a2b2"}, {duplicial(), "a2b2"}, {duplicialDual(), "b2a2"},
		{tridendriform(), "a2b2c2"}, {triassociative()[:10], "c2a2b2"},
		{rulesOf(assoc, "1 (b * (b * *))"), "a2b2"}, {rulesOf("1 (b (a * *) (a * *))"), "a2b2"},
		{rulesOf("1 "+combOf("a", 3), "1 "+mirrorText(combOf("a", 4))), "a2"}, {rulesOf("1 " + combOf("a", 5)), "a2"}, {rulesOf("1 " + combOf("a", 6)), "a2"},
	}
	for _, x := range systems() {
		list = append(list, system{x.rules, "a2"}, system{x.rules, "a2b2"})
	}
	return list
}

// seriesNumbers returns the numbers of trees over a signature with 1 to most
// leaves in which no head stands, and whether they are told.
func seriesNumbers(rules [][]impl.Term, symbols []impl.Symbol, most int) ([]int, bool) {
	numbers := []int{}
	for leaves := 1; leaves <= most; leaves++ {
		trees := listTexts(symbols, leaves, leaves-1)
		// None at all are told if there are far too many of them.
		if len(trees) > 400 || trees == nil {
			return nil, false
		}
		number := 0
		for _, s := range trees {
			if _, by := firstPlace(rules, s); by < 0 {
				number++
			}
		}
		numbers = append(numbers, number)
	}
	return numbers, true
}
