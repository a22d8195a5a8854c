package tests

import (
	"regexp"
	"slices"
	"strings"
)

// What a tree is, told apart from the program: by its text alone.

var innermost = regexp.MustCompile(`\([a-h]( \*){1,6}\)`)

// isTree folds nodes with leaves alone into leaves until one leaf is left.
func isTree(s string) bool {
	if leafCount(s) > 12 || nodeCount(s) > 16 {
		return false
	}
	for {
		next := innermost.ReplaceAllString(s, "*")
		if next == s {
			return s == "*"
		}
		s = next
	}
}

func leafCount(s string) int { return strings.Count(s, "*") }

func nodeCount(s string) int { return strings.Count(s, "(") }

// graftText puts a text in the place of the leaf k.
func graftText(a string, k int, b string) string {
	for i := range len(a) {
		if a[i] == '*' {
			if k == 0 {
				return a[:i] + b + a[i+1:]
			}
			k--
		}
	}
	return "no such leaf"
}

// partText returns where the part that begins with the node k starts and ends.
func partText(s string, k int) (int, int) {
	start, open := -1, 0
	for i := range len(s) {
		switch s[i] {
		case '(':
			if k == 0 {
				start = i
			}
			k--
			if start >= 0 {
				open++
			}
		case ')':
			if start >= 0 {
				open--
				if open == 0 {
					return start, i + 1
				}
			}
		}
	}
	return -1, -1
}

// kidTexts returns the trees of the outermost node.
func kidTexts(s string) []string {
	kids := []string{}
	open, start := 0, 3
	for i := 3; i < len(s); i++ {
		switch s[i] {
		case '(':
			open++
		case ' ':
			if open == 0 {
				kids = append(kids, s[start:i])
				start = i + 1
			}
		case ')':
			open--
			if open < 0 {
				kids = append(kids, s[start:i])
			}
		}
	}
	return kids
}

func mirrorText(s string) string {
	if s == "*" {
		return s
	}
	kids := kidTexts(s)
	slices.Reverse(kids)
	for i := range kids {
		kids[i] = mirrorText(kids[i])
	}
	return s[:2] + " " + strings.Join(kids, " ") + ")"
}

// pathTexts keeps the letters of the nodes that are open at each leaf.
func pathTexts(s string) []string {
	list := []string{}
	way := ""
	for i := range len(s) {
		switch {
		case s[i] == '*':
			list = append(list, way)
		case s[i] == ')':
			way = way[:len(way)-1]
		case s[i] >= 'a' && s[i] <= 'h':
			way += s[i : i+1]
		}
	}
	return list
}

// The trees that the tests go over.

// shapes returns all trees with just so many nodes of one to three trees each,
// with ? as each letter.
func shapes(nodes int) []string {
	if nodes == 0 {
		return []string{"*"}
	}
	list := []string{}
	for arity := 1; arity <= 3; arity++ {
		for _, row := range rows(arity, nodes-1) {
			list = append(list, "(?"+row+")")
		}
	}
	return list
}

// rows returns all rows of trees, each behind a space, with just so many nodes
// together.
func rows(trees, nodes int) []string {
	if trees == 0 {
		if nodes > 0 {
			return nil
		}
		return []string{""}
	}
	list := []string{}
	for n := 0; n <= nodes; n++ {
		for _, first := range shapes(n) {
			for _, rest := range rows(trees-1, nodes-n) {
				list = append(list, " "+first+rest)
			}
		}
	}
	return list
}

// lettered puts letters from a to h in the place of each ?, in turn.
func lettered(shape string, first int) string {
	for strings.Contains(shape, "?") {
		shape = strings.Replace(shape, "?", string("abcdefgh"[first%8]), 1)
		first++
	}
	return shape
}

// chain returns nodes with one tree each, in each other, around a tree.
func chain(nodes int, inner string) string {
	for i := range nodes {
		inner = "(" + string("abcdefgh"[i%8]) + " " + inner + ")"
	}
	return inner
}

// comb returns nodes with two trees each, in each other's last tree.
func comb(nodes int) string {
	s := "*"
	for i := range nodes {
		s = "(" + string("hgfedcba"[i%8]) + " * " + s + ")"
	}
	return s
}

const (
	sixLeaves    = "(h * * * * * *)"
	twelveLeaves = "(a (b * * * * * *) (c * * * * * *))"
)

// edgeTrees returns trees at the limits.
func edgeTrees() []string {
	return []string{
		"*",
		"(a *)",
		"(h *)",
		"(e * * * *)",
		sixLeaves,
		"(a (b *) (c *) (d *) (e *) (f *) (g *))",
		twelveLeaves,
		"(d (a * * * * *) * (b (c * * * * * *)))",
		comb(11),
		chain(16, "*"),
		chain(15, sixLeaves),
		chain(13, twelveLeaves),
		chain(5, comb(11)),
		mirrorText(chain(5, comb(11))),
		comb(5),
		"(a (b * *) (c (d *) * (a * *)))",
	}
}

// treesUpTo returns all trees with at most so many nodes of at most three
// trees, and those at the limits.
func treesUpTo(nodes int) []string {
	list := edgeTrees()
	for n := 1; n <= nodes; n++ {
		for i, shape := range shapes(n) {
			list = append(list, lettered(shape, i))
		}
	}
	return list
}

// noTrees returns texts that are no tree.
func noTrees() []string {
	return []string{
		"", " ", "a", "(", ")", "()", "**", "* ", " *", "* *", "*)", "x", "?",
		"(a)", "(a )", "(a*)", "(a  *)", "(a * )", "( a *)", "( *)", "(*)", "(* *)",
		"(a *", "a *)", "a *", "(a *))", "((a *)", "((a *))", "(a *)*", "(a *) ", "(a *) *", "(a *)(b *)",
		"(i *)", "(A *)", "(` *)", "(z *)", "(1 *)", "(ab *)", "(aa * *)",
		"(a **)", "(a * *", "(a *(b *))", "(a (b *)*)", "(a (b *) )", "(a  (b *))", "(a ())", "(a (b))", "(a b)",
		"(a\t*)", "(a\n*)", "(a *)\n", "(a *)\x00", "\x00", "\xff", "(\xff *)", "(a \xff)", "(a,*)", "[a *]",
		"(a \u2217)", "(\u00e4 *)", "(a\u00a0*)",
		"(a * * * * * * *)",
		"(a (b *) (c *) (d *) (e *) (f *) (g *) (h *))",
		"(a * (b * * * * * *) (c * * * * * *))",
		"(a (b * * * * * *) (c * * * * * *) *)",
		"(a (b * * * * * *) (c * * * * * (d * *)))",
		comb(12),
		chain(17, "*"),
		chain(16, "(a *)"),
		chain(14, twelveLeaves),
		chain(6, comb(11)),
		strings.Repeat("*", 100000),
		strings.Repeat("(", 1000000),
		strings.Repeat("(a ", 1000000),
		strings.Repeat("(a ", 1000000) + "*" + strings.Repeat(")", 1000000),
		"(a" + strings.Repeat(" *", 100000) + ")",
		strings.Repeat(" ", 100000),
	}
}

// noIndexes returns indexes that something with so many has not.
func noIndexes(count int) []int {
	const most = int(^uint(0) >> 1)
	return []int{count, count + 1, count + 100, most, most - 1, -1, -2, -count - 1, -most, -most - 1}
}

// short cuts a text that is too long to be told.
func short(s string) string {
	if len(s) > 100 {
		return s[:100] + ".."
	}
	return s
}
