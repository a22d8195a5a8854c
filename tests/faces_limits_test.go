package tests

import (
	"runtime"
	"slices"
	"sync"
	"testing"

	"loop.example/operadtrees/impl"
)

// The limits of chapter 8, its invalid arguments, that results share no memory
// and that they do not depend on which goroutine is the faster one.

func TestNoFacesAreNone(t *testing.T) {
	for _, s := range noFaces() {
		if isFaceText(s) {
			t.Errorf("the corpus of texts that are no face has %q", s)
		}
	}
	for _, s := range noFaceTrees() {
		if !isTree(s) {
			t.Errorf("the corpus of trees that are no face has %q", s)
		}
	}
	for _, s := range allFaces() {
		if !isFaceText(s) {
			t.Errorf("the corpus of faces has %q", s)
		}
	}
	sums := 0
	for _, a := range noFaceSums() {
		if isFaceSum(a) {
			t.Errorf("the corpus of lists that are no sums of faces has %v", a)
		}
		if isSum(a) {
			sums++
		}
	}
	if sums < 900 {
		t.Errorf("only %d sums have a tree that is no face", sums)
	}
	for leaves := 1; leaves <= 6; leaves++ {
		for _, a := range someFaceSums(leaves) {
			if !isFaceSum(a) {
				t.Errorf("the corpus of sums of faces has %v", a)
			}
		}
	}
}

// TestGreatestFaces has faces of FaceMax leaves, and such that would be faces
// with one leaf less.
func TestGreatestFaces(t *testing.T) {
	if impl.FaceMax != 6 {
		t.Errorf("FaceMax is %d", impl.FaceMax)
	}
	for _, s := range faceTexts(6) {
		if impl.FaceDim(s)+nodeCount(s) != 5 {
			t.Errorf("FaceDim(%q) is %d", s, impl.FaceDim(s))
		}
		for k := range 6 {
			more := graftText(s, k, "(a * *)")
			boundary, told := impl.FaceBoundary(more)
			sum, ok := impl.FaceSum([]impl.Term{{Coef: 1, Tree: more}})
			corners, found := impl.FaceCorners(more)
			if impl.FaceValid(more) || impl.FaceDim(more) != -1 || told || ok || found || len(boundary)+len(sum)+len(corners) > 0 {
				t.Errorf("%q is a face of dimension %d, with the boundary %v and the corners %q", more, impl.FaceDim(more), boundary, corners)
			}
			if impl.FaceIn(more, more) || impl.FaceIn(more, "(a * * * * * * *)") || impl.FaceIn(more, s) || impl.FaceIn(s, more) {
				t.Errorf("FaceIn of %q and another one holds", more)
			}
		}
	}
}

// TestManyTerms has sums of faces whose boundaries have 60 terms or one more,
// and such with many more that cancel on the way.
func TestManyTerms(t *testing.T) {
	sizes := map[int]int{}
	cancelled := 0
	for dim := 1; dim <= 3; dim++ {
		faces := facesOf(6, dim)
		slices.Reverse(faces)
		for from := range faces {
			for to := from + 1; to <= min(len(faces), from+60); to++ {
				coefs := map[string]int{}
				for _, s := range faces[from:to] {
					boundaryCoefs(coefs, s, 1)
				}
				left := 0
				for _, n := range coefs {
					if remainder(n) != 0 {
						left++
					}
				}
				sizes[left]++
				if left <= 60 && len(coefs) > 60 {
					cancelled++
				}
				sum, ok := impl.FaceSum(onesOf(faces[from:to]))
				if ok != (left <= 60) || ok && len(sum) != left || !ok && len(sum) > 0 {
					t.Errorf("FaceSum of the faces %d to %d of dimension %d returned %d terms and %v, not %d", from, to, dim, len(sum), ok, left)
				}
			}
		}
	}
	if sizes[60] < 10 || sizes[61] < 10 || sizes[84] < 1 || cancelled < 100 {
		t.Errorf("%d boundaries have 60 terms, %d have 61, %d have all, and in %d trees cancel that are too many", sizes[60], sizes[61], sizes[84], cancelled)
	}
	corners := facesOf(6, 0)
	slices.Reverse(corners)
	if sum, ok := impl.FaceSum(onesOf(corners)); !ok || len(sum) > 0 {
		t.Errorf("FaceSum of %d corners returned %v and %v", len(corners), sum, ok)
	}
	edges := facesOf(6, 1)
	slices.Reverse(edges)
	sixty := sumFrom(edges, 0, 1, 60)
	want, told := faceSumOf(sixty)
	if sum, ok := impl.FaceSum(sixty); !ok || !told || !slices.Equal(sum, want) {
		t.Errorf("FaceSum of 60 edges returned %v and %v, not %v and %v", sum, ok, want, told)
	}
	if sum, ok := impl.FaceSum(sumFrom(edges, 0, 1, 61)); ok || len(sum) > 0 {
		t.Errorf("FaceSum of 61 edges returned %v and %v", sum, ok)
	}
}

func TestFacesShareNothing(t *testing.T) {
	for name, make := range map[string]func() ([]string, bool){
		"FaceList":              func() ([]string, bool) { return impl.FaceList(5, 1) },
		"FaceList of corners":   func() ([]string, bool) { return impl.FaceList(6, 0) },
		"FaceList of one":       func() ([]string, bool) { return impl.FaceList(4, 2) },
		"FaceCorners":           func() ([]string, bool) { return impl.FaceCorners("(a * (a * * *) *)") },
		"FaceCorners of itself": func() ([]string, bool) { return impl.FaceCorners("(a * (a * *))") },
	} {
		first, ok := make()
		second, _ := make()
		want := slices.Clone(second)
		if !ok || len(first) == 0 {
			t.Fatalf("%s fails", name)
		}
		for i := range first {
			first[i] = "x"
		}
		first = append(first[:len(first)-1], "y", "z")
		if third, _ := make(); !slices.Equal(second, want) || !slices.Equal(third, want) {
			t.Errorf("behind a change of one result %q, %s has returned %q and %q, not %q", first, name, second, third, want)
		}
	}
	counts, _ := impl.FaceCounts(4)
	counts[0], counts[2] = 7, 8
	if again, ok := impl.FaceCounts(4); !ok || !slices.Equal(again, []int{5, 5, 1}) {
		t.Errorf("behind a change of a result, FaceCounts returned %v and %v", again, ok)
	}
}

func TestFaceSumsShareNothing(t *testing.T) {
	a := slices.Repeat(terms("2 (a (a * * *) *), 3 (a (a * *) * *)"), 20)
	kept := slices.Clone(a)
	for name, make := range map[string]func() ([]impl.Term, bool){
		"FaceBoundary": func() ([]impl.Term, bool) { return impl.FaceBoundary("(a * * (a * * *))") },
		"FaceSum":      func() ([]impl.Term, bool) { return impl.FaceSum(a[:2]) },
		"FaceSum of 1": func() ([]impl.Term, bool) { return impl.FaceSum(a[:1]) },
	} {
		first, ok := make()
		second, _ := make()
		want := slices.Clone(second)
		if !ok || len(first) == 0 {
			t.Fatalf("%s fails", name)
		}
		for i := range first {
			first[i] = impl.Term{Coef: 9, Tree: "x"}
		}
		first = append(first[:len(first)-1], impl.Term{}, impl.Term{})
		if third, _ := make(); !slices.Equal(second, want) || !slices.Equal(third, want) {
			t.Errorf("behind a change of one result %v, %s has returned %v and %v, not %v", first, name, second, third, want)
		}
		// What is behind an argument must stay, too, and does not matter.
		if !slices.Equal(a, kept) {
			t.Fatalf("%s or a change of its result left %v", name, a)
		}
	}
}

// TestFacesAreAlwaysTheSame asks the same again and again, and at once.
func TestFacesAreAlwaysTheSame(t *testing.T) {
	edges := facesOf(6, 1)
	slices.Reverse(edges)
	sum := sumFrom(edges, 0, 1, 60)
	ask := func() ([]string, []int, []impl.Term, []impl.Term, []string) {
		list, _ := impl.FaceList(6, 1)
		counts, _ := impl.FaceCounts(5)
		boundary, _ := impl.FaceBoundary("(a * (a * * *) * *)")
		total, _ := impl.FaceSum(sum)
		corners, _ := impl.FaceCorners("(a * * * * * *)")
		return list, counts, boundary, total, corners
	}
	wantList, wantCounts, wantBoundary, wantTotal, wantCorners := ask()
	var workers sync.WaitGroup
	for range 8 {
		workers.Add(1)
		go func() {
			defer workers.Done()
			for range 20 {
				list, counts, boundary, total, corners := ask()
				if !slices.Equal(list, wantList) || !slices.Equal(counts, wantCounts) || !slices.Equal(boundary, wantBoundary) || !slices.Equal(total, wantTotal) || !slices.Equal(corners, wantCorners) {
					t.Errorf("asked again, the results are %q, %v, %v, %v and %q", list, counts, boundary, total, corners)
				}
			}
		}()
	}
	workers.Wait()
}

// TestNoGoroutineIsLeft counts the goroutines: if one of each call were left,
// there would be thousands.
func TestNoGoroutineIsLeft(t *testing.T) {
	before := runtime.NumGoroutine()
	faces, sums := append(allFaces(), "", "(b * *)", "(a *)"), append(someFaceSums(5), noFaceSums()...)
	for _, s := range faces {
		impl.FaceBoundary(s)
		impl.FaceCorners(s)
		impl.FaceIn(s, s)
	}
	for _, a := range sums {
		impl.FaceSum(a)
	}
	for leaves := -1; leaves <= 8; leaves++ {
		impl.FaceCounts(leaves)
		for dim := -1; dim <= 7; dim++ {
			impl.FaceList(leaves, dim)
		}
	}
	// One that has told that it is done may not have ended yet.
	if after := runtime.NumGoroutine(); after > before+50 {
		t.Errorf("of %d goroutines, %d are left", after, after-before)
	}
}
