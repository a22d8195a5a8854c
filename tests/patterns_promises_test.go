package tests

import (
	"slices"
	"testing"

	"loop.example/operadtrees/impl"
)

// The promises 28 to 34 of the document, one test each. Each test also checks
// that the condition of the promise holds where it must, and that it does not
// where an argument is invalid.

func mustPlaces(t *testing.T, pattern, s string) []impl.Place {
	t.Helper()
	places, ok := impl.PatternPlaces(pattern, s)
	if !ok {
		t.Fatalf("PatternPlaces(%q, %q) fails", pattern, s)
	}
	return places
}

// standsAt reports whether a pattern stands at a node of a tree.
func standsAt(t *testing.T, pattern, s string, node int) bool {
	t.Helper()
	return slices.ContainsFunc(mustPlaces(t, pattern, s), func(x impl.Place) bool { return x.Node == node })
}

func samePlace(a, b impl.Place) bool {
	return a.Node == b.Node && slices.Equal(a.Parts, b.Parts)
}

func TestPromise28Places(t *testing.T) {
	all := 0
	hosts := withWays(hostTrees())
	for _, p := range withWays(append(smallPatterns(), greatPatterns()...)) {
		for _, s := range hosts {
			places := mustPlaces(t, p.text, s.text)
			if want := placesOf(p.ways, s.ways); !slices.EqualFunc(places, want, samePlace) {
				t.Errorf("PatternPlaces(%q, %q) is %v, not %v", p.text, s.text, places, want)
			}
			for _, x := range places {
				all++
				whole, ok := impl.TreeWhole(p.text, x.Parts)
				part, there := impl.TreePart(s.text, x.Node)
				if !ok || !there || whole != part {
					t.Errorf("%q with %q is %q and %v, and the part %d of %q is %q and %v", p.text, x.Parts, whole, ok, x.Node, s.text, part, there)
				}
				if same, ok := impl.PatternPut(p.text, s.text, x.Node, p.text); !ok || same != s.text {
					t.Errorf("PatternPut(%q, %q, %d, %q) returned %q and %v", p.text, s.text, x.Node, p.text, same, ok)
				}
			}
		}
	}
	if all < 2500 {
		t.Errorf("there are only %d places", all)
	}
	for _, p := range noPatterns() {
		if places, ok := impl.PatternPlaces(p, "(a * *)"); ok {
			t.Errorf("PatternPlaces(%q, ..) returned %v", short(p), places)
		}
	}
}

func TestPromise29InNodes(t *testing.T) {
	holds := 0
	around := []string{"(a *)", "(b * *)", "(h * * *)"}
	hosts := withWays(hostTrees())
	for _, p := range withWays(append(smallPatterns(), greatPatterns()...)) {
		if !impl.PatternIn(p.text, p.text) {
			t.Errorf("%q does not stand in itself", p.text)
		}
		for _, s := range hosts {
			in := impl.PatternIn(p.text, s.text)
			if want := len(placesOf(p.ways, s.ways)) > 0; in != want {
				t.Errorf("PatternIn(%q, %q) is %v", p.text, s.text, in)
			}
			if !in {
				continue
			}
			for i, node := range around {
				if u := graftText(node, i, s.text); isTree(u) {
					holds++
					if !impl.PatternIn(p.text, u) {
						t.Errorf("%q stands in %q, and not in %q", p.text, s.text, u)
					}
				}
			}
		}
	}
	if holds < 3000 {
		t.Errorf("only %d trees are grafted in a node", holds)
	}
	for _, p := range noPatterns() {
		if impl.PatternIn(p, p) || impl.PatternIn(p, "(a * *)") {
			t.Errorf("%q is in a tree", short(p))
		}
	}
}

func TestPromise30Puts(t *testing.T) {
	back, leaves := 0, 0
	small := smallPatterns()
	others := append([]string{"*"}, append(small, greatPatterns()...)...)
	hosts := withWays(hostTrees())
	for i, p := range withWays(append(small, greatPatterns()...)) {
		for j, s := range hosts {
			for _, x := range placesOf(p.ways, s.ways) {
				for k, by := range others {
					if (i+j+k)%5 > 0 {
						continue
					}
					want, tree := "", false
					if leafCount(by) == leafCount(p.text) {
						want, tree = putOf(s.text, x, by)
					}
					u, ok := impl.PatternPut(p.text, s.text, x.Node, by)
					if ok != tree || u != want {
						t.Errorf("PatternPut(%q, %q, %d, %q) returned %q and %v", p.text, s.text, x.Node, by, u, ok)
					}
					if !ok {
						continue
					}
					if impl.TreeLeaves(u) != impl.TreeLeaves(s.text) {
						t.Errorf("PatternPut(%q, %q, %d, %q) is %q", p.text, s.text, x.Node, by, u)
					}
					if by == "*" {
						leaves++
						continue
					}
					back++
					if first, ok := impl.PatternPut(by, u, x.Node, p.text); !ok || first != s.text {
						t.Errorf("PatternPut(%q, %q, %d, %q) returned %q and %v, not %q", by, u, x.Node, p.text, first, ok, s.text)
					}
				}
			}
		}
	}
	if back < 3000 || leaves < 50 {
		t.Errorf("only %d patterns and %d leaves are put for others", back, leaves)
	}
	for _, p := range noPatterns() {
		if u, ok := impl.PatternPut(p, "(a *)", 0, "(a *)"); ok {
			t.Errorf("PatternPut(%q, ..) returned %q", short(p), u)
		}
	}
}

func TestPromise31Joins(t *testing.T) {
	outside, inside, unfit := 0, 0, 0
	list := withWays(append(smallPatterns(), greatPatterns()...))
	for _, p := range list {
		for _, q := range list {
			for v := range nodeCount(q.text) {
				want, fits := joinOf(p.ways, q.ways, v)
				s, ok := impl.PatternJoin(p.text, q.text, v)
				if ok != fits || s != want {
					t.Errorf("PatternJoin(%q, %q, %d) returned %q and %v, not %q", p.text, q.text, v, s, ok, want)
				}
				switch {
				case !ok:
					unfit++
					continue
				case v == 0:
					outside++
				default:
					inside++
				}
				if !standsAt(t, q.text, s, 0) || !standsAt(t, p.text, s, v) {
					t.Errorf("in PatternJoin(%q, %q, %d), %q, one of both does not stand", p.text, q.text, v, s)
				}
			}
		}
	}
	if outside < 1000 || inside < 1000 || unfit < 1000 {
		t.Errorf("%d patterns are joined outside, %d inside, and %d are not", outside, inside, unfit)
	}
	for _, p := range noPatterns() {
		if s, ok := impl.PatternJoin(p, "(a *)", 0); ok {
			t.Errorf("PatternJoin(%q, ..) returned %q", short(p), s)
		}
	}
}

func TestPromise32AllJoins(t *testing.T) {
	all, same := 0, 0
	list := withWays(append(smallPatterns(), greatPatterns()...))
	for _, p := range list {
		for _, q := range list {
			joined, ok := impl.PatternAll(p.text, q.text)
			if !ok {
				t.Fatalf("PatternAll(%q, %q) fails", p.text, q.text)
			}
			want := []string{}
			for v := range nodeCount(q.text) {
				if s, fits := joinOf(p.ways, q.ways, v); fits && (v > 0 || p.text != q.text) {
					want = append(want, s)
				}
			}
			if !slices.Equal(joined, want) || len(joined) > impl.TreeNodes(q.text) {
				t.Errorf("PatternAll(%q, %q) is %q, not %q", p.text, q.text, joined, want)
			}
			for _, s := range joined {
				if !impl.PatternIn(p.text, s) || !impl.PatternIn(q.text, s) {
					t.Errorf("in %q of PatternAll(%q, %q), one of both does not stand", s, p.text, q.text)
				}
			}
			all += len(joined)
			if p.text == q.text {
				same += len(joined)
			}
		}
	}
	if all < 3000 || same < 30 {
		t.Errorf("there are only %d trees, and %d of a pattern with itself", all, same)
	}
	for _, p := range noPatterns() {
		if joined, ok := impl.PatternAll(p, p); ok {
			t.Errorf("PatternAll(%q, ..) returned %q", short(p), joined)
		}
	}
}

// patternLists returns lists of 0 to 20 patterns.
func patternLists() [][]string {
	all := append(smallPatterns(), greatPatterns()...)
	lists := [][]string{{}, nil, {sixLeaves}, {combOf("a", 11)}, all[len(all)-20:], slices.Repeat([]string{"(h *)"}, 20)}
	for count := 1; count <= 20; count += 1 + count/4 {
		for first := 0; first < len(all); first += 13 {
			list := []string{}
			for i := range count {
				list = append(list, all[(first+i*11)%len(all)])
			}
			lists = append(lists, list)
		}
	}
	return lists
}

func TestPromise33Free(t *testing.T) {
	free, hosted := 0, 0
	hosts := withWays(hostTrees())
	for _, texts := range patternLists() {
		list := withWays(texts)
		for _, s := range hosts {
			in := slices.ContainsFunc(list, func(p wayed) bool { return len(placesOf(p.ways, s.ways)) > 0 })
			if impl.PatternFree(texts, s.text) == in {
				t.Errorf("PatternFree(%q, %q) is %v", texts, s.text, in)
			}
			if in {
				hosted++
				continue
			}
			free++
			for k := range nodeCount(s.text) {
				part, ok := impl.TreePart(s.text, k)
				if !ok || !impl.PatternFree(texts, part) {
					t.Errorf("%q is free of %q, and its part %q is not", s.text, texts, part)
				}
			}
			for _, p := range texts {
				if impl.PatternIn(p, s.text) {
					t.Errorf("%q is free of %q, and %q stands in it", s.text, texts, p)
				}
			}
		}
	}
	if free < 3000 || hosted < 3000 {
		t.Errorf("%d trees are free, and %d are not", free, hosted)
	}
	for _, p := range noPatterns() {
		if impl.PatternFree([]string{p}, "(a *)") || p != "*" && impl.PatternFree(nil, p) {
			t.Errorf("PatternFree of or for %q holds", short(p))
		}
	}
	if impl.PatternFree(slices.Repeat([]string{"(h *)"}, 21), "(a *)") {
		t.Error("PatternFree of 21 patterns holds")
	}
}

func TestPromise34Lists(t *testing.T) {
	kept, left := 0, 0
	for i, texts := range patternLists() {
		if i > 5 && i%5 > 0 {
			continue
		}
		for _, text := range []string{"", "a1", "a2", "a3b1", "a2b2", "b2a1", "a1b2c3"} {
			for leaves := 1; leaves <= 5; leaves++ {
				for nodes := 0; nodes <= 8; nodes += 1 + leaves%2 {
					trees, told := impl.TreeList(sign(text), leaves, nodes)
					list, ok := impl.PatternList(texts, sign(text), leaves, nodes)
					if ok != told {
						t.Errorf("PatternList(%q, %q, %d, %d) returned %v, and TreeList %v", texts, text, leaves, nodes, ok, told)
					}
					want := slices.DeleteFunc(slices.Clone(trees), func(s string) bool { return !impl.PatternFree(texts, s) })
					if !slices.Equal(list, want) {
						t.Errorf("PatternList(%q, %q, %d, %d) is %q, not %q", texts, text, leaves, nodes, list, want)
					}
					kept += len(want)
					left += len(trees) - len(want)
				}
			}
		}
	}
	if kept < 3000 || left < 3000 {
		t.Errorf("%d trees are in lists, and %d are left out", kept, left)
	}
	for _, p := range noPatterns() {
		if list, ok := impl.PatternList([]string{p}, sign("a2"), 3, 2); ok {
			t.Errorf("PatternList of %q returned %q", short(p), list)
		}
	}
	if list, ok := impl.PatternList(slices.Repeat([]string{"(h *)"}, 21), sign("a2"), 3, 2); ok {
		t.Errorf("PatternList of 21 patterns returned %q", list)
	}
}
