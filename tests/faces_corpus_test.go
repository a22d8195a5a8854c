package tests

import (
	"slices"
	"strings"

	"loop.example/operadtrees/impl"
)

// What faces, their dimensions and their boundaries are, told apart from the
// program: by texts alone. A face is made of its trees, not by splitting, and
// that it is in another one is told by taking its nodes away, not by what they
// stand above.

func isFaceText(s string) bool {
	if !isTree(s) || leafCount(s) > 6 {
		return false
	}
	for _, x := range symbolsOf(s) {
		if x.Letter != "a" || x.Arity < 2 {
			return false
		}
	}
	return true
}

// degreesOf returns the degree of each node of a face, in order.
func degreesOf(s string) []int {
	list := []int{}
	for _, x := range symbolsOf(s) {
		list = append(list, x.Arity-2)
	}
	return list
}

func totalOf(list []int) int {
	sum := 0
	for _, n := range list {
		sum += n
	}
	return sum
}

func dimOf(s string) int { return totalOf(degreesOf(s)) }

// faceTexts returns all faces with so many leaves, in ascending order.
func faceTexts(leaves int) []string {
	if leaves == 1 {
		return []string{"*"}
	}
	list := []string{}
	for trees := 2; trees <= leaves; trees++ {
		for _, row := range faceRows(trees, leaves) {
			list = append(list, "(a"+row+")")
		}
	}
	slices.SortFunc(list, orderTexts)
	return list
}

// faceRows returns all rows of so many faces with so many leaves together, each
// behind a space.
func faceRows(trees, leaves int) []string {
	if trees == 0 {
		if leaves > 0 {
			return nil
		}
		return []string{""}
	}
	list := []string{}
	for n := 1; n <= leaves-(trees-1); n++ {
		for _, rest := range faceRows(trees-1, leaves-n) {
			for _, first := range faceTexts(n) {
				list = append(list, " "+first+rest)
			}
		}
	}
	return list
}

// allFaces returns all faces.
func allFaces() []string {
	list := []string{}
	for leaves := 1; leaves <= 6; leaves++ {
		list = append(list, faceTexts(leaves)...)
	}
	return list
}

// facesOf returns all faces with so many leaves and a dimension, in ascending
// order.
func facesOf(leaves, dim int) []string {
	return slices.DeleteFunc(faceTexts(leaves), func(s string) bool { return dimOf(s) != dim })
}

// splitOf puts the q trees from the index p on of the node k below a new node.
func splitOf(s string, k, p, q int) string {
	from, to := partText(s, k)
	kids := kidTexts(s[from:to])
	kids[p] = "(a " + strings.Join(kids[p:p+q], " ") + ")"
	kids = slices.Delete(kids, p+1, p+q)
	return s[:from] + "(a " + strings.Join(kids, " ") + ")" + s[to:]
}

// signPower returns the power of -1 that is the sign of a split.
func signPower(s string, k, p, q int) int {
	from, to := partText(s, k)
	kids := kidTexts(s[from:to])
	first := 0
	for _, kid := range kids[:p] {
		first += dimOf(kid)
	}
	return totalOf(degreesOf(s)[:k]) + p + q*(len(kids)-p-q) + (q-2)*first
}

// boundaryCoefs adds the boundary of a face, times a number, to coefficients.
func boundaryCoefs(coefs map[string]int, s string, times int) {
	for k, degree := range degreesOf(s) {
		m := degree + 2
		for p := 0; p < m; p++ {
			for q := 2; q < m && p+q <= m; q++ {
				if signPower(s, k, p, q)%2 == 1 {
					coefs[splitOf(s, k, p, q)] -= times
				} else {
					coefs[splitOf(s, k, p, q)] += times
				}
			}
		}
	}
}

func boundaryOf(s string) []impl.Term {
	coefs := map[string]int{}
	boundaryCoefs(coefs, s, 1)
	list, _ := sumOfCoefs(coefs)
	return list
}

func isFaceSum(a []impl.Term) bool {
	return isSum(a) && !slices.ContainsFunc(a, func(x impl.Term) bool { return !isFaceText(x.Tree) })
}

// faceSumOf returns the sum of the boundaries of a sum of faces, and whether it
// is told.
func faceSumOf(a []impl.Term) ([]impl.Term, bool) {
	if !isFaceSum(a) {
		return nil, false
	}
	coefs := map[string]int{}
	for _, x := range a {
		boundaryCoefs(coefs, x.Tree, x.Coef)
	}
	return sumOfCoefs(coefs)
}

// withoutNode puts the trees of the node k, not the outermost one, in its place.
func withoutNode(s string, k int) string {
	from, to := partText(s, k)
	return s[:from] + strings.Join(kidTexts(s[from:to]), " ") + s[to:]
}

// wholesOf returns all faces that a face is in.
func wholesOf(s string) map[string]bool {
	known := map[string]bool{s: true}
	next := []string{s}
	for len(next) > 0 {
		u := next[0]
		next = next[1:]
		for k := 1; k < nodeCount(u); k++ {
			whole := withoutNode(u, k)
			if !known[whole] {
				known[whole] = true
				next = append(next, whole)
			}
		}
	}
	return known
}

// cornersIn returns, for each face with so many leaves, the faces of dimension 0
// that are in it, in ascending order.
func cornersIn(leaves int) map[string][]string {
	corners := map[string][]string{}
	for _, s := range facesOf(leaves, 0) {
		for whole := range wholesOf(s) {
			corners[whole] = append(corners[whole], s)
		}
	}
	return corners
}

// The texts and the sums that the tests go over.

// onlyA puts the letter a in the place of each letter.
func onlyA(s string) string {
	return strings.Map(func(r rune) rune {
		if r >= 'a' && r <= 'h' {
			return 'a'
		}
		return r
	}, s)
}

// noFaceTrees returns trees that are no face.
func noFaceTrees() []string {
	list := []string{
		// Another letter, at one of several nodes.
		"(b * *)", "(h * *)", "(b * * * * * *)", "(b (a * *) *)", "(a (b * *) *)", "(a * (b * *))", "(a * (a * (h * *)))",
		"(a (a (a (a (b * *) *) *) *) *)", "(b (a (a (a (a * *) *) *) *) *)", "(a * * * (c * * *))", "(a (a * *) (a * *) (d * *))",
		// A node with one tree.
		"(a *)", "(a (a *))", "(a (a * *))", "(a (a * * * * * *))", "(a (a *) *)", "(a * (a *))", "(a * * * * * (a *))", "(a (a (a *) *) *)",
		"(a (a * (a *)) * *)", "(a (a *) (a *))", chainOf("a", 16, "*"), chainOf("a", 11, combOf("a", 5)),
		// Seven leaves.
		"(a (a * * * * * *) *)", "(a * * * * * (a * *))", "(a * * * (a * * * *))", "(a (a * *) (a * *) (a * * *))", combOf("a", 6), mirrorText(combOf("a", 6)),
		"(a (a (a (a (a * * *) *) *) *) *)", "(a (a * *) * * * * *)",
		// More leaves.
		"(a (a * * * *) (a * * * *))", combOf("a", 7), combOf("a", 11), mirrorText(combOf("a", 11)), "(a (a * * * * * *) (a * * * * * *))", onlyA(edgeTrees()[7]),
	}
	for _, s := range treesUpTo(3) {
		for _, u := range []string{s, onlyA(s)} {
			if !isFaceText(u) {
				list = append(list, u)
			}
		}
	}
	return list
}

func noFaces() []string {
	return append(noFaceTrees(), noTrees()...)
}

// someFaceSums returns sums of faces with so many leaves.
func someFaceSums(leaves int) [][]impl.Term {
	sums := [][]impl.Term{{}}
	down := func(list []string) []string {
		list = slices.Clone(list)
		slices.Reverse(list)
		return list
	}
	lists := [][]string{down(faceTexts(leaves))}
	for dim := 0; dim <= max(0, leaves-2); dim++ {
		lists = append(lists, down(facesOf(leaves, dim)))
	}
	for _, faces := range lists {
		for i, s := range faces {
			for _, n := range []int{1, 2, 50, 99, 100} {
				sums = append(sums, []impl.Term{{Coef: n, Tree: s}})
			}
			sums = append(sums, sumFrom(faces, i, 1, 2), sumFrom(faces, i, 3, 4), sumFrom(faces, i%7, 1+i%5, 60), onesOf(faces[i:]))
		}
	}
	for _, s := range faceTexts(leaves) {
		boundary := boundaryOf(s)
		sums = append(sums, boundary, scaleTexts(boundary, 77))
		if len(boundary) > 0 {
			sums = append(sums, boundary[1:], boundary[:len(boundary)-1])
		}
		if more, ok := addTexts(boundary, []impl.Term{{Coef: 3, Tree: s}}); ok {
			sums = append(sums, more)
		}
		if more, ok := addTexts(boundary, []impl.Term{{Coef: 51, Tree: combOf("a", leaves-1)}}); ok {
			sums = append(sums, more)
		}
	}
	return sums
}

// onesOf returns the sum of the first trees of a list in descending order, at
// most 60, each with the coefficient 1.
func onesOf(trees []string) []impl.Term {
	list := []impl.Term{}
	for _, s := range trees[:min(60, len(trees))] {
		list = append(list, impl.Term{Coef: 1, Tree: s})
	}
	return list
}

// noFaceSums returns sums with a tree that is no face, and lists that are no
// sum.
func noFaceSums() [][]impl.Term {
	lists := noSums()
	for _, s := range noFaceTrees() {
		lists = append(lists, []impl.Term{{Coef: 1, Tree: s}})
		for _, others := range [][]string{faceTexts(min(6, leafCount(s))), {"*"}, {"(a * * *)"}} {
			if list, ok := addTexts(onesOf(others[:1]), []impl.Term{{Coef: 100, Tree: s}}); ok {
				lists = append(lists, list)
			}
			if list, ok := addTexts(onesOf(others), []impl.Term{{Coef: 7, Tree: s}}); ok {
				lists = append(lists, list)
			}
		}
	}
	for _, text := range []string{
		// Unlike leaves, with faces alone.
		"1 (a * *), 1 *", "1 *, 1 (a * *)", "1 (a * * *), 1 (a * *)", "1 (a * *), 1 (a * * *)", "1 (a (a * *) *), 1 (a * * * *)", "1 (a * * * * *), 1 (a * * * *)",
		"1 (a * * * *), 1 (a (a * *) *), 1 (a * (a * *))",
		// Another order, a face twice, a coefficient out of its range.
		"1 (a * (a * *)), 1 (a (a * *) *)", "1 (a * * *), 1 (a (a * *) *)", "1 (a * * *), 1 (a * * *)", "1 (a * * *), 100 (a * * *)",
		"0 (a * * *)", "101 (a * * *)", "-1 (a * * *)", "1 (a (a * *) *), 0 (a * * *)", "101 *", "0 *",
	} {
		lists = append(lists, terms(text))
	}
	faces := faceTexts(6)
	slices.Reverse(faces)
	return append(lists, sumFrom(faces, 0, 1, 61), sumFrom(faces, 0, 1, 197), slices.Repeat(terms("1 (a * *)"), 61))
}
