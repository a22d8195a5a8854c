package tests

import (
	"maps"
	"slices"
	"strings"

	"loop.example/operadtrees/impl"
)

// What patterns are, told apart from the program: by the ways to the nodes. The
// way to a node is the text of the indexes of the trees from the outside to it,
// so the sorted ways are in the order of the nodes.

// waysTo returns the letter and the arity of each node of a tree by the way to
// it, as in "a2".
func waysTo(s string) map[string]string {
	found := map[string]string{}
	if s == "*" {
		return found
	}
	kids := kidTexts(s)
	found[""] = s[1:2] + digit(len(kids))
	for i, kid := range kids {
		for way, x := range waysTo(kid) {
			found[digit(i)+way] = x
		}
	}
	return found
}

func digit(n int) string { return "0123456789"[n : n+1] }

// treeOfWays returns the tree that begins behind a way.
func treeOfWays(found map[string]string, way string) string {
	x, inside := found[way]
	if !inside {
		return "*"
	}
	text := "(" + x[:1]
	for i := range int(x[1] - '0') {
		text += " " + treeOfWays(found, way+digit(i))
	}
	return text + ")"
}

// leafWays returns the ways to the leaves behind a way, in order.
func leafWays(found map[string]string, way string) []string {
	x, inside := found[way]
	if !inside {
		return []string{way}
	}
	list := []string{}
	for i := range int(x[1] - '0') {
		list = append(list, leafWays(found, way+digit(i))...)
	}
	return list
}

func nodeWays(found map[string]string) []string {
	return slices.Sorted(maps.Keys(found))
}

// placesOf returns all places of a pattern in a tree, both told by ways.
func placesOf(p, s map[string]string) []impl.Place {
	places := []impl.Place{}
	for i, at := range nodeWays(s) {
		stands := true
		for way, x := range p {
			stands = stands && s[at+way] == x
		}
		if !stands {
			continue
		}
		parts := []string{}
		for _, way := range leafWays(p, "") {
			parts = append(parts, treeOfWays(s, at+way))
		}
		places = append(places, impl.Place{Node: i, Parts: parts})
	}
	return places
}

// joinOf returns the tree made by joining p at the node v of q, all told by
// ways, and whether this is a tree.
func joinOf(p, q map[string]string, v int) (string, bool) {
	at := nodeWays(q)[v]
	all := maps.Clone(q)
	for way, x := range p {
		if other, inside := all[at+way]; inside && other != x {
			return "", false
		}
		all[at+way] = x
	}
	text := treeOfWays(all, "")
	if !isTree(text) {
		return "", false
	}
	return text, true
}

// putText returns a tree with another one put for a pattern that stands at a
// place, also if this is too large.
func putText(s string, place impl.Place, by string) string {
	for k := len(place.Parts) - 1; k >= 0; k-- {
		by = graftText(by, k, place.Parts[k])
	}
	from, to := partText(s, place.Node)
	return s[:from] + by + s[to:]
}

// putOf returns a tree with another one put for a pattern that stands at a
// place, and whether this is a tree.
func putOf(s string, place impl.Place, by string) (string, bool) {
	text := putText(s, place, by)
	if !isTree(text) {
		return "", false
	}
	return text, true
}

// wayed is a tree, with the ways to its nodes.
type wayed struct {
	text string
	ways map[string]string
}

func withWays(texts []string) []wayed {
	list := []wayed{}
	for _, s := range texts {
		list = append(list, wayed{s, waysTo(s)})
	}
	return list
}

// The patterns and the trees that the tests go over.

// chainOf returns nodes of one letter, with one tree each, around a tree.
func chainOf(letter string, nodes int, inner string) string {
	return strings.Repeat("("+letter+" ", nodes) + inner + strings.Repeat(")", nodes)
}

// combOf returns nodes of one letter, with two trees each, in each other's last
// tree.
func combOf(letter string, nodes int) string {
	return strings.Repeat("("+letter+" * ", nodes) + "*" + strings.Repeat(")", nodes)
}

// fewLetters puts a and b in the places of the letters of a shape, b where the
// number has a bit.
func fewLetters(shape string, bits int) string {
	for ; strings.Contains(shape, "?"); bits /= 2 {
		shape = strings.Replace(shape, "?", string("ab"[bits%2]), 1)
	}
	return shape
}

// smallPatterns returns patterns of one to three nodes with one to three trees
// each, of so few letters that many stand in each other and many do not.
func smallPatterns() []string {
	list := []string{}
	for n := 1; n <= 3; n++ {
		for i, shape := range shapes(n) {
			switch {
			case n < 3:
				list = append(list, fewLetters(shape, 0), fewLetters(shape, 1+i%3))
			case i%4 == 0:
				list = append(list, fewLetters(shape, 0))
			case i%9 == 1:
				list = append(list, fewLetters(shape, i%8))
			}
		}
	}
	return list
}

// greatPatterns returns patterns at the limits of leaves and of nodes.
func greatPatterns() []string {
	return []string{
		sixLeaves,
		twelveLeaves,
		"(a (a * * * * * *) (a * * * * * *))",
		combOf("a", 11),
		mirrorText(combOf("a", 11)),
		combOf("a", 6),
		chainOf("a", 16, "*"),
		chainOf("a", 15, "*"),
		chainOf("a", 15, "(b *)"),
		chainOf("a", 15, sixLeaves),
		chainOf("b", 5, combOf("a", 11)),
		chainOf("a", 4, "(a (a (a *) *) (a * (a *)))"),
		"(a * * * * * (a * * * * * (a * *)))",
		"(a (b (b (b *))) (a (b (b *)) (b *)))",
	}
}

// hostTrees returns trees for patterns to stand in: a leaf, the patterns
// themselves, and small ones that are grafted in each other.
func hostTrees() []string {
	small := smallPatterns()
	list := append([]string{"*"}, append(small, greatPatterns()...)...)
	for i, s := range small {
		u := small[(i*7+5)%len(small)]
		both := graftText(s, i%leafCount(s), u)
		list = append(list, both, graftText(both, leafCount(both)-1, small[i%21]))
	}
	return slices.DeleteFunc(list, func(s string) bool { return !isTree(s) })
}

// noPatterns returns texts that are no pattern.
func noPatterns() []string {
	return append([]string{"*"}, noTrees()...)
}
