package tests

import (
	"math"
	"slices"
	"testing"

	"loop.example/operadtrees/impl"
)

// The promises 57 to 64 of the document, one test each. Each test also compares
// the functions with what is told apart from the program, and checks that the
// condition of the promise does not hold where an argument is invalid.

func TestPromise57MirroredFaces(t *testing.T) {
	faces := allFaces()
	if len(faces) != 258 {
		t.Fatalf("there are %d faces", len(faces))
	}
	for _, s := range faces {
		if !impl.FaceValid(s) || !impl.FaceIn(s, s) {
			t.Errorf("FaceValid(%q) or FaceIn of it and itself does not hold", s)
		}
		mirrored := mustMirror(t, s)
		if !impl.FaceValid(mirrored) || impl.FaceDim(mirrored) != impl.FaceDim(s) {
			t.Errorf("FaceValid of %q, the mirrored %q, does not hold, or it has not the dimension %d", mirrored, s, impl.FaceDim(s))
		}
	}
	for _, s := range noFaces() {
		if impl.FaceValid(s) || impl.FaceIn(s, s) {
			t.Errorf("FaceValid(%q) or FaceIn of it and itself holds", short(s))
		}
	}
}

func TestPromise58Dimensions(t *testing.T) {
	for _, s := range allFaces() {
		dim := impl.FaceDim(s)
		if dim != dimOf(s) {
			t.Errorf("FaceDim(%q) is %d, not %d", s, dim, dimOf(s))
		}
		if dim+impl.TreeNodes(s) != impl.TreeLeaves(s)-1 {
			t.Errorf("FaceDim(%q) is %d, and it has %d nodes and %d leaves", s, dim, impl.TreeNodes(s), impl.TreeLeaves(s))
		}
	}
	for _, s := range noFaces() {
		if dim := impl.FaceDim(s); dim != -1 {
			t.Errorf("FaceDim(%q) is %d", short(s), dim)
		}
	}
}

func TestPromise59Lists(t *testing.T) {
	for leaves := 2; leaves <= 6; leaves++ {
		counts, ok := impl.FaceCounts(leaves)
		if !ok || len(counts) != leaves-1 {
			t.Fatalf("FaceCounts(%d) returned %v and %v", leaves, counts, ok)
		}
		for dim := 0; dim <= leaves-2; dim++ {
			list, ok := impl.FaceList(leaves, dim)
			if !ok || !slices.Equal(list, facesOf(leaves, dim)) {
				t.Errorf("FaceList(%d, %d) returned %q and %v, not %q", leaves, dim, list, ok, facesOf(leaves, dim))
			}
			if len(list) != counts[dim] {
				t.Errorf("FaceList(%d, %d) has %d faces, and FaceCounts is %v", leaves, dim, len(list), counts)
			}
			for i, s := range list {
				if !impl.FaceValid(s) || impl.TreeLeaves(s) != leaves || impl.FaceDim(s) != dim {
					t.Errorf("FaceList(%d, %d) has %q", leaves, dim, s)
				}
				if i > 0 && mustOrder(t, list[i-1], s) >= 0 {
					t.Errorf("FaceList(%d, %d) has %q ahead of %q", leaves, dim, list[i-1], s)
				}
			}
		}
	}
	fails := func(leaves, dim int) {
		t.Helper()
		if list, ok := impl.FaceList(leaves, dim); ok || len(list) > 0 {
			t.Errorf("FaceList(%d, %d) returned %q and %v", leaves, dim, list, ok)
		}
	}
	for leaves := 2; leaves <= 6; leaves++ {
		for _, dim := range noIndexes(leaves - 1) {
			fails(leaves, dim)
		}
	}
	for _, leaves := range append(noIndexes(7), 0, 1, math.MinInt, 1<<32+3) {
		for _, dim := range []int{-2, -1, 0, 1, 2, 3, 4, 5, 6, leaves - 2, leaves - 1, math.MaxInt, math.MinInt} {
			fails(leaves, dim)
		}
	}
}

func TestPromise60Counts(t *testing.T) {
	for leaves := 2; leaves <= 6; leaves++ {
		counts, ok := impl.FaceCounts(leaves)
		if !ok || len(counts) != leaves-1 || counts[len(counts)-1] != 1 {
			t.Fatalf("FaceCounts(%d) returned %v and %v", leaves, counts, ok)
		}
		sum, sign := 0, 1
		for dim, n := range counts {
			if n != len(facesOf(leaves, dim)) {
				t.Errorf("FaceCounts(%d) is %v, and there are %d faces of dimension %d", leaves, counts, len(facesOf(leaves, dim)), dim)
			}
			sum += sign * n
			sign = -sign
		}
		if sum != 1 {
			t.Errorf("FaceCounts(%d) is %v: with signs in turn, this is %d", leaves, counts, sum)
		}
	}
	for _, leaves := range append(noIndexes(7), 0, 1, math.MinInt, 1<<32+3) {
		if counts, ok := impl.FaceCounts(leaves); ok || len(counts) > 0 {
			t.Errorf("FaceCounts(%d) returned %v and %v", leaves, counts, ok)
		}
	}
}

func TestPromise61Boundaries(t *testing.T) {
	for _, s := range allFaces() {
		boundary, ok := impl.FaceBoundary(s)
		if !ok || !slices.Equal(boundary, boundaryOf(s)) {
			t.Errorf("FaceBoundary(%q) returned %v and %v, not %v", s, boundary, ok, boundaryOf(s))
		}
		if sum, ok := impl.FaceSum(boundary); !ok || len(sum) > 0 {
			t.Errorf("FaceBoundary(%q) is %v, and FaceSum of it returned %v and %v", s, boundary, sum, ok)
		}
		within := []string{}
		for _, u := range facesOf(leafCount(s), dimOf(s)-1) {
			if impl.FaceIn(u, s) {
				within = append(within, u)
			}
		}
		slices.Reverse(within)
		trees := []string{}
		for _, x := range boundary {
			trees = append(trees, x.Tree)
			if x.Coef != 1 && x.Coef != impl.Prime-1 {
				t.Errorf("FaceBoundary(%q) is %v", s, boundary)
			}
		}
		if !slices.Equal(trees, within) {
			t.Errorf("FaceBoundary(%q) has the trees %q, and the faces in it are %q", s, trees, within)
		}
	}
	for _, s := range noFaces() {
		if boundary, ok := impl.FaceBoundary(s); ok || len(boundary) > 0 {
			t.Errorf("FaceBoundary(%q) returned %v and %v", short(s), boundary, ok)
		}
	}
}

func TestPromise62Sums(t *testing.T) {
	told, zero, fails, open := 0, 0, 0, 0
	for leaves := 1; leaves <= 6; leaves++ {
		for _, a := range someFaceSums(leaves) {
			kept := slices.Clone(a)
			sum, ok := impl.FaceSum(a)
			want, isTold := faceSumOf(a)
			if ok != isTold || !slices.Equal(sum, want) {
				t.Errorf("FaceSum(%v) returned %v and %v, not %v and %v", a, sum, ok, want, isTold)
			}
			if !slices.Equal(a, kept) {
				t.Errorf("FaceSum(%v) left %v", kept, a)
			}
			switch {
			case !ok:
				fails++
				continue
			case len(sum) == 0:
				zero++
			default:
				told++
			}
			if again, ok := impl.FaceSum(sum); ok && len(again) > 0 {
				t.Errorf("FaceSum(%v) is %v, and FaceSum of it %v", a, sum, again)
			} else if !ok {
				open++
			}
			twice, ok := impl.FaceSum(mustScale(t, a, 2))
			if ok && !slices.Equal(twice, mustScale(t, sum, 2)) {
				t.Errorf("FaceSum(%v) is %v, and of twice the sum %v", a, sum, twice)
			}
			if !ok {
				t.Errorf("FaceSum of twice %v fails", a)
			}
		}
	}
	if told < 800 || zero < 500 || fails < 10 || open > 0 {
		t.Errorf("%d boundaries of sums are told, %d are 0, %d are not told, and %d boundaries of boundaries are not", told, zero, fails, open)
	}
	for _, a := range noFaceSums() {
		if sum, ok := impl.FaceSum(a); ok || len(sum) > 0 {
			t.Errorf("FaceSum of %d terms, such as %v, returned %v and %v", len(a), short(a[len(a)-1].Tree), sum, ok)
		}
	}
}

func TestPromise63FacesInFaces(t *testing.T) {
	within, beside := 0, 0
	for leaves := 1; leaves <= 6; leaves++ {
		corners := map[string]map[string]bool{}
		for _, s := range faceTexts(leaves) {
			list, ok := impl.FaceCorners(s)
			if !ok {
				t.Fatalf("FaceCorners(%q) fails", s)
			}
			corners[s] = map[string]bool{}
			for _, corner := range list {
				corners[s][corner] = true
			}
		}
		for _, a := range faceTexts(leaves) {
			wholes := wholesOf(a)
			for _, b := range faceTexts(leaves) {
				holds := impl.FaceIn(a, b)
				if holds != wholes[b] {
					t.Errorf("FaceIn(%q, %q) is %v", a, b, holds)
				}
				if !holds {
					if dimOf(a) <= dimOf(b) {
						beside++
					}
					continue
				}
				within++
				if impl.TreeLeaves(a) != impl.TreeLeaves(b) || impl.FaceDim(a) > impl.FaceDim(b) {
					t.Errorf("FaceIn(%q, %q) holds", a, b)
				}
				if !impl.FaceIn(mirrorText(a), mirrorText(b)) {
					t.Errorf("FaceIn(%q, %q) holds, but not of both mirrored", a, b)
				}
				for corner := range corners[a] {
					if !corners[b][corner] {
						t.Errorf("FaceIn(%q, %q) holds, but %q is a corner of the first one alone", a, b, corner)
					}
				}
			}
		}
	}
	if within < 1500 || beside < 15000 {
		t.Errorf("%d faces are in faces, and %d are not", within, beside)
	}
	for _, a := range allFaces() {
		for _, b := range []string{"*", "(a * *)", "(a * * *)", "(a * * * *)", "(a * * * * *)", "(a * * * * * *)", "(a (a * *) *)", "(a (a * * *) * *)"} {
			if leafCount(a) != leafCount(b) && (impl.FaceIn(a, b) || impl.FaceIn(b, a)) {
				t.Errorf("FaceIn of %q and %q, in one order, holds", a, b)
			}
		}
	}
	for _, s := range noFaces() {
		for _, b := range []string{"*", "(a * *)", "(a * * *)", "(a * * * * * *)", "(a (a * *) *)", s, onlyA(s)} {
			if impl.FaceIn(s, b) || impl.FaceIn(b, s) {
				t.Errorf("FaceIn of %q and %q, in one order, holds", short(s), short(b))
			}
		}
	}
}

func TestPromise64Corners(t *testing.T) {
	for leaves := 1; leaves <= 6; leaves++ {
		want := cornersIn(leaves)
		for _, s := range faceTexts(leaves) {
			corners, ok := impl.FaceCorners(s)
			if !ok || !slices.Equal(corners, want[s]) {
				t.Errorf("FaceCorners(%q) returned %q and %v, not %q", s, corners, ok, want[s])
			}
			for _, corner := range corners {
				if impl.FaceDim(corner) != 0 || !impl.FaceIn(corner, s) {
					t.Errorf("FaceCorners(%q) has %q", s, corner)
				}
			}
			if len(corners) == 0 || (len(corners) == 1) != (impl.FaceDim(s) == 0) {
				t.Errorf("FaceCorners(%q) has %d faces", s, len(corners))
			}
		}
	}
	for _, s := range noFaces() {
		if corners, ok := impl.FaceCorners(s); ok || len(corners) > 0 {
			t.Errorf("FaceCorners(%q) returned %q and %v", short(s), corners, ok)
		}
	}
}
