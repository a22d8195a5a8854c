package tests

import (
	"slices"
	"testing"

	"loop.example/operadtrees/impl"
)

// What the functions of chapter 8 return, worked out by hand. They are compared
// with what is told apart from the program in faces_promises_test.go.

func TestFaceValidTold(t *testing.T) {
	for _, s := range []string{
		"*", "(a * *)", "(a * * *)", "(a * * * *)", "(a * * * * *)", "(a * * * * * *)",
		"(a (a * *) *)", "(a * (a * *))", "(a (a * * *) (a * * *))", "(a (a * *) (a * *) (a * *))", "(a * * * * (a * *))",
		"(a (a (a (a (a * *) *) *) *) *)", "(a * (a * (a * (a * (a * *)))))", "(a (a * * * * *) *)",
	} {
		if !impl.FaceValid(s) {
			t.Errorf("FaceValid(%q) does not hold", s)
		}
	}
	for _, s := range []string{
		"", "a", "(a)", "(a * *", "(a  * *)", "(A * *)", "(b * *)", "(h * *)", "(a *)", "(a (a *) *)", "(a (a * *))", "(a * (b * *))", "(a (b * *) *)", "(b (a * *) *)",
		"(a (a * * * * * *) *)", "(a * * * * * (a * *))", "(a (a (a (a (a (a * *) *) *) *) *) *)", "(a * * * * * * *)", "* ", " (a * *)",
	} {
		if impl.FaceValid(s) {
			t.Errorf("FaceValid(%q) holds", s)
		}
	}
}

func TestFaceDimTold(t *testing.T) {
	for s, dim := range map[string]int{
		"*": 0, "(a * *)": 0, "(a * * *)": 1, "(a * * * *)": 2, "(a * * * * *)": 3, "(a * * * * * *)": 4,
		"(a (a * *) *)": 0, "(a (a * *) * *)": 1, "(a * (a * * *))": 1, "(a (a * * *) (a * * *))": 2, "(a (a * * *) * * *)": 3, "(a (a * *) (a * *) (a * *))": 1,
		"(a * (a * (a * (a * (a * *)))))": 0, "(a (a * * * * *) *)": 3, "(a * * (a * * * *))": 3, "(a * * (a * (a * * *)))": 2,
		"": -1, "(a *)": -1, "(b * *)": -1, "(a (a * * * * * *) *)": -1, "(a * (a *))": -1, "(a * * * * * * *)": -1, "**": -1,
	} {
		if n := impl.FaceDim(s); n != dim {
			t.Errorf("FaceDim(%q) is %d, not %d", s, n, dim)
		}
	}
}

func TestFaceListTold(t *testing.T) {
	for _, x := range []struct {
		leaves, dim int
		faces       []string
	}{
		{2, 0, []string{"(a * *)"}},
		{3, 0, []string{"(a * (a * *))", "(a (a * *) *)"}},
		{3, 1, []string{"(a * * *)"}},
		{4, 0, []string{"(a * (a * (a * *)))", "(a * (a (a * *) *))", "(a (a * *) (a * *))", "(a (a * (a * *)) *)", "(a (a (a * *) *) *)"}},
		{4, 1, []string{"(a * * (a * *))", "(a * (a * *) *)", "(a * (a * * *))", "(a (a * *) * *)", "(a (a * * *) *)"}},
		{4, 2, []string{"(a * * * *)"}},
		{5, 2, []string{
			"(a * * * (a * *))", "(a * * (a * *) *)", "(a * * (a * * *))", "(a * (a * *) * *)", "(a * (a * * *) *)", "(a * (a * * * *))",
			"(a (a * *) * * *)", "(a (a * * *) * *)", "(a (a * * * *) *)",
		}},
		{5, 3, []string{"(a * * * * *)"}},
		{6, 4, []string{"(a * * * * * *)"}},
	} {
		if list, ok := impl.FaceList(x.leaves, x.dim); !ok || !slices.Equal(list, x.faces) {
			t.Errorf("FaceList(%d, %d) returned %q and %v, not %q", x.leaves, x.dim, list, ok, x.faces)
		}
	}
	for _, x := range [][2]int{{2, -1}, {2, 1}, {3, -1}, {3, 2}, {6, -1}, {6, 5}, {0, 0}, {0, -2}, {1, 0}, {1, -1}, {7, 0}, {7, 5}, {-1, 0}, {-2, -4}} {
		if list, ok := impl.FaceList(x[0], x[1]); ok || len(list) > 0 {
			t.Errorf("FaceList(%d, %d) returned %q and %v", x[0], x[1], list, ok)
		}
	}
}

func TestFaceCountsTold(t *testing.T) {
	for leaves, want := range map[int][]int{2: {1}, 3: {2, 1}, 4: {5, 5, 1}, 5: {14, 21, 9, 1}, 6: {42, 84, 56, 14, 1}} {
		if counts, ok := impl.FaceCounts(leaves); !ok || !slices.Equal(counts, want) {
			t.Errorf("FaceCounts(%d) returned %v and %v, not %v", leaves, counts, ok, want)
		}
	}
	for _, leaves := range []int{-2, -1, 0, 1, 7, 8} {
		if counts, ok := impl.FaceCounts(leaves); ok || len(counts) > 0 {
			t.Errorf("FaceCounts(%d) returned %v and %v", leaves, counts, ok)
		}
	}
}

// toldBoundaries returns the boundaries of faces, each in descending order.
func toldBoundaries() map[string]string {
	return map[string]string{
		// Nothing to split.
		"*": "", "(a * *)": "", "(a (a * *) *)": "", "(a (a * *) (a * *))": "", "(a * (a * (a * (a * (a * *)))))": "",
		// One node.
		"(a * * *)":   "1 (a (a * *) *), 100 (a * (a * *))",
		"(a * * * *)": "100 (a (a * * *) *), 1 (a (a * *) * *), 100 (a * (a * * *)), 100 (a * (a * *) *), 1 (a * * (a * *))",
		"(a * * * * *)": "1 (a (a * * * *) *), 1 (a (a * * *) * *), 1 (a (a * *) * * *), 100 (a * (a * * * *)), 1 (a * (a * * *) *), 100 (a * (a * *) * *), " +
			"1 (a * * (a * * *)), 1 (a * * (a * *) *), 100 (a * * * (a * *))",
		// A node behind one without a degree.
		"(a * (a * * *))": "1 (a * (a (a * *) *)), 100 (a * (a * (a * *)))",
		"(a (a * * *) *)": "1 (a (a (a * *) *) *), 100 (a (a * (a * *)) *)",
		// Nodes without a degree, behind and in the trees.
		"(a (a * *) * *)": "1 (a (a (a * *) *) *), 100 (a (a * *) (a * *))",
		"(a * (a * *) *)": "1 (a (a * (a * *)) *), 100 (a * (a (a * *) *))",
		"(a * * (a * *))": "1 (a (a * *) (a * *)), 100 (a * (a * (a * *)))",
		// A node of an odd degree ahead turns the signs: below, and beside.
		"(a * * (a * * *))":       "1 (a (a * *) (a * * *)), 100 (a * (a * (a * * *))), 100 (a * * (a (a * *) *)), 1 (a * * (a * (a * *)))",
		"(a (a * * *) * *)":       "100 (a (a (a * *) *) * *), 1 (a (a (a * * *) *) *), 1 (a (a * (a * *)) * *), 100 (a (a * * *) (a * *))",
		"(a (a * * *) (a * * *))": "1 (a (a (a * *) *) (a * * *)), 100 (a (a * (a * *)) (a * * *)), 100 (a (a * * *) (a (a * *) *)), 1 (a (a * * *) (a * (a * *)))",
		"(a * (a * * (a * * *)))": "1 (a * (a (a * *) (a * * *))), 100 (a * (a * (a * (a * * *)))), 100 (a * (a * * (a (a * *) *))), 1 (a * (a * * (a * (a * *))))",
		// It does so for all nodes behind it, not for the next one alone.
		"(a (a * *) * (a * * *))": "1 (a (a (a * *) *) (a * * *)), 100 (a (a * *) (a * (a * * *))), 100 (a (a * *) * (a (a * *) *)), 1 (a (a * *) * (a * (a * *)))",
		"(a * * (a * * * *))": "1 (a (a * *) (a * * * *)), 100 (a * (a * (a * * * *))), 100 (a * * (a (a * *) * *)), 1 (a * * (a * (a * *) *)), 100 (a * * (a * * (a * *))), " +
			"1 (a * * (a (a * * *) *)), 1 (a * * (a * (a * * *)))",
		// One of an even degree does not.
		"(a * * * (a * * *))": "1 (a (a * *) * (a * * *)), 100 (a * (a * *) (a * * *)), 1 (a * * (a * (a * * *))), 100 (a (a * * *) (a * * *)), 100 (a * (a * * (a * * *))), " +
			"1 (a * * * (a (a * *) *)), 100 (a * * * (a * (a * *)))",
		// Three trees are split off behind a node of an odd degree: without it, the
		// sign of (a (a * * *) (a * * *)) would be the opposite one.
		"(a (a * * *) * * *)": "1 (a (a (a * * *) *) * *), 100 (a (a * * *) (a * *) *), 1 (a (a * * *) * (a * *)), 100 (a (a (a * * *) * *) *), 1 (a (a * * *) (a * * *)), " +
			"1 (a (a (a * *) *) * * *), 100 (a (a * (a * *)) * * *)",
		// Behind one without a degree, it is.
		"(a (a * *) * * *)": "1 (a (a (a * *) *) * *), 100 (a (a * *) (a * *) *), 1 (a (a * *) * (a * *)), 100 (a (a (a * *) * *) *), 100 (a (a * *) (a * * *))",
	}
}

func TestFaceBoundaryTold(t *testing.T) {
	for s, text := range toldBoundaries() {
		want := terms(text)
		slices.SortFunc(want, func(x, y impl.Term) int { return orderTexts(y.Tree, x.Tree) })
		if boundary, ok := impl.FaceBoundary(s); !ok || !slices.Equal(boundary, want) {
			t.Errorf("FaceBoundary(%q) returned %v and %v, not %v", s, boundary, ok, want)
		}
	}
	for _, s := range []string{"", "(b * * *)", "(a (a * * *))", "(a *)", "(a * * * (b * *))", "(a (a * * * * * *) *)", "(a * * * * * * *)", "(a * * *) "} {
		if boundary, ok := impl.FaceBoundary(s); ok || len(boundary) > 0 {
			t.Errorf("FaceBoundary(%q) returned %v and %v", s, boundary, ok)
		}
	}
}

func TestFaceSumTold(t *testing.T) {
	for _, x := range []struct{ a, sum string }{
		// Nothing, or nothing to split.
		{"", ""}, {"1 *", ""}, {"100 *", ""}, {"7 (a * *)", ""}, {"2 (a (a * *) *), 3 (a * (a * *))", ""},
		// One face, with other coefficients, too.
		{"1 (a * * *)", "1 (a (a * *) *), 100 (a * (a * *))"},
		{"100 (a * * *)", "100 (a (a * *) *), 1 (a * (a * *))"},
		{"2 (a * * *)", "2 (a (a * *) *), 99 (a * (a * *))"},
		{"51 (a * * *)", "51 (a (a * *) *), 50 (a * (a * *))"},
		// Faces of unlike dimensions.
		{"5 (a (a * *) *), 3 (a * * *)", "3 (a (a * *) *), 98 (a * (a * *))"},
		{"1 (a (a * * *) *), 1 (a * * * *)", "1 (a (a (a * *) *) *), 100 (a (a * (a * *)) *), 100 (a (a * * *) *), 1 (a (a * *) * *), 100 (a * (a * * *)), 100 (a * (a * *) *), 1 (a * * (a * *))"},
		// Two faces with a corner in common: it cancels, adds up, or comes to 0
		// modulo Prime.
		{"1 (a (a * * *) *), 100 (a (a * *) * *)", "100 (a (a * (a * *)) *), 1 (a (a * *) (a * *))"},
		{"2 (a (a * * *) *), 3 (a (a * *) * *)", "5 (a (a (a * *) *) *), 99 (a (a * (a * *)) *), 98 (a (a * *) (a * *))"},
		{"50 (a (a * * *) *), 51 (a (a * *) * *)", "51 (a (a * (a * *)) *), 50 (a (a * *) (a * *))"},
		// The boundary of a face.
		{"100 (a (a * * *) *), 1 (a (a * *) * *), 100 (a * (a * * *)), 100 (a * (a * *) *), 1 (a * * (a * *))", ""},
		{"2 (a (a * * *) *), 99 (a (a * *) * *), 2 (a * (a * * *)), 2 (a * (a * *) *), 99 (a * * (a * *))", ""},
		// With another sign, it would not cancel.
		{"100 (a (a * * *) *), 1 (a (a * *) * *), 100 (a * (a * * *)), 100 (a * (a * *) *), 100 (a * * (a * *))", "99 (a (a * *) (a * *)), 2 (a * (a * (a * *)))"},
	} {
		want := terms(x.sum)
		slices.SortFunc(want, func(x, y impl.Term) int { return orderTexts(y.Tree, x.Tree) })
		a := terms(x.a)
		slices.SortFunc(a, func(x, y impl.Term) int { return orderTexts(y.Tree, x.Tree) })
		if sum, ok := impl.FaceSum(a); !ok || !slices.Equal(sum, want) {
			t.Errorf("FaceSum(%v) returned %v and %v, not %v", a, sum, ok, want)
		}
	}
	for _, text := range []string{
		"1 (b * *)", "1 (a *)", "1 (b * * *), 1 (a * * *)", "1 (a * (b * *)), 1 (a * (a * *))", "0 (a * * *)", "101 (a * * *)", "1 (a * * *), 1 (a * * *)",
		"1 (a * (a * *)), 1 (a (a * *) *)", "1 (a * * *), 1 (a * *)", "1 (a * *), 1 *", "1 (a (a * * * * * *) *)", "1 (a (a *) *), 1 (a * *)", "1 x",
	} {
		if sum, ok := impl.FaceSum(terms(text)); ok || len(sum) > 0 {
			t.Errorf("FaceSum(%s) returned %v and %v", text, sum, ok)
		}
	}
}

func TestFaceInTold(t *testing.T) {
	for _, x := range []struct {
		a, b string
		in   bool
	}{
		{"*", "*", true}, {"(a * *)", "(a * *)", true}, {"*", "(a * *)", false}, {"(a * *)", "*", false}, {"(a * * *)", "*", false},
		{"(a (a * *) *)", "(a * * *)", true}, {"(a * (a * *))", "(a * * *)", true}, {"(a * * *)", "(a (a * *) *)", false},
		// Unlike ones with as many leaves and the same dimension.
		{"(a (a * *) *)", "(a * (a * *))", false}, {"(a (a * *) * *)", "(a (a * * *) *)", false}, {"(a * (a * *) *)", "(a * (a * * *))", false},
		{"(a (a * * *) (a * * *))", "(a (a * * *) * (a * *))", false},
		// One more dimension, but not in it.
		{"(a * (a * (a * *)))", "(a (a * * *) *)", false}, {"(a (a * *) (a * *))", "(a (a * * *) *)", false}, {"(a (a (a * *) *) *)", "(a * (a * *) *)", false},
		{"(a (a (a * *) *) *)", "(a (a * * *) *)", true}, {"(a (a (a * *) *) *)", "(a (a * *) * *)", true}, {"(a (a * *) (a * *))", "(a (a * *) * *)", true},
		{"(a (a * *) (a * *))", "(a * * (a * *))", true}, {"(a * (a (a * *) *))", "(a * (a * *) *)", true},
		// Several splits.
		{"(a (a * *) (a * *))", "(a * * * *)", true}, {"(a * (a * (a * (a * (a * *)))))", "(a * * * * * *)", true},
		{"(a * (a * (a * (a * (a * *)))))", "(a * (a * * * * *))", true}, {"(a * (a * (a * (a * (a * *)))))", "(a * * (a * * (a * *)))", true},
		{"(a * (a * (a * (a * (a * *)))))", "(a * * (a * *) * *)", false}, {"(a * (a * (a * (a * (a * *)))))", "(a (a * *) * * * *)", false},
		{"(a (a (a * *) *) (a * * *))", "(a (a * * *) * * *)", true}, {"(a (a (a * *) *) (a * * *))", "(a (a * * * *) * *)", false},
		// Unlike numbers of leaves: all nodes of the second one are in the first.
		{"(a (a * * *) * * *)", "(a * * *)", false}, {"(a (a (a * *) *) *)", "(a (a * *) *)", false}, {"(a * * * *)", "(a * * *)", false}, {"(a * * *)", "(a * * * *)", false},
		// No faces.
		{"(b * *)", "(b * *)", false}, {"(a * *)", "(b * *)", false}, {"(b * *)", "(a * *)", false}, {"", "", false}, {"(a *)", "(a *)", false}, {"(a (a *) *)", "(a * *)", false},
		{"(a (a * * * * * *) *)", "(a (a * * * * * *) *)", false}, {"*", "", false}, {"", "*", false}, {"(a *)", "*", false}, {"*", "(a *)", false},
	} {
		if in := impl.FaceIn(x.a, x.b); in != x.in {
			t.Errorf("FaceIn(%q, %q) is %v", x.a, x.b, in)
		}
	}
}

func TestFaceCornersTold(t *testing.T) {
	for s, want := range map[string][]string{
		"*":       {"*"},
		"(a * *)": {"(a * *)"}, "(a * (a (a * *) *))": {"(a * (a (a * *) *))"},
		"(a * * *)":         {"(a * (a * *))", "(a (a * *) *)"},
		"(a (a * * *) *)":   {"(a (a * (a * *)) *)", "(a (a (a * *) *) *)"},
		"(a (a * *) * *)":   {"(a (a * *) (a * *))", "(a (a (a * *) *) *)"},
		"(a * (a * *) *)":   {"(a * (a (a * *) *))", "(a (a * (a * *)) *)"},
		"(a * * * *)":       {"(a * (a * (a * *)))", "(a * (a (a * *) *))", "(a (a * *) (a * *))", "(a (a * (a * *)) *)", "(a (a (a * *) *) *)"},
		"(a * * (a * * *))": {"(a * (a * (a * (a * *))))", "(a * (a * (a (a * *) *)))", "(a (a * *) (a * (a * *)))", "(a (a * *) (a (a * *) *))"},
		"(a (a * * *) (a * * *))": {
			"(a (a * (a * *)) (a * (a * *)))", "(a (a * (a * *)) (a (a * *) *))", "(a (a (a * *) *) (a * (a * *)))", "(a (a (a * *) *) (a (a * *) *))",
		},
	} {
		if corners, ok := impl.FaceCorners(s); !ok || !slices.Equal(corners, want) {
			t.Errorf("FaceCorners(%q) returned %q and %v, not %q", s, corners, ok, want)
		}
	}
	for s, count := range map[string]int{"(a * * * * *)": 14, "(a * * * * * *)": 42, "(a (a * * * * *) *)": 14, "(a (a * * *) * * *)": 10, "(a * (a * *) * * *)": 14} {
		if corners, ok := impl.FaceCorners(s); !ok || len(corners) != count {
			t.Errorf("FaceCorners(%q) returned %q and %v, not %d faces", s, corners, ok, count)
		}
	}
	for _, s := range []string{"", "(b * *)", "(a *)", "(a (b * *) *)", "(a (a * * * * * *) *)", "(a * *)x"} {
		if corners, ok := impl.FaceCorners(s); ok || len(corners) > 0 {
			t.Errorf("FaceCorners(%q) returned %q and %v", s, corners, ok)
		}
	}
}
