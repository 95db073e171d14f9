package tree_test

import (
	"errors"
	"fmt"
	"math"
	"slices"
	"testing"

	"orchardry/api"
	"orchardry/tree"
)

const (
	end   = api.MaxCell
	gone  = api.Nil
	least = math.MinInt
	great = math.MaxInt
)

// none stands for an error that is nil.
const none = api.OK

// told gives what an error tells; -1, if it is none of the program's, or OK, which no error may be.
func told(err error) api.Errno {
	var e api.Errno
	switch {
	case err == nil:
		return none
	case errors.As(err, &e) && e != api.OK:
		return e
	}
	return -1
}

// nodes of a tree.
type nodes = []api.Node

// leaf that says a value.
func leaf(value int) api.Node { return api.Node{Feature: api.Leaf, Value: value} }

// ask whether a feature is below a cut; what is not there goes to Right.
func ask(feature, cut, left, right int) api.Node {
	return api.Node{Feature: feature, Cut: cut, Left: left, Right: right}
}

// askLess is ask, but what is not there goes to Left.
func askLess(feature, cut, left, right int) api.Node {
	n := ask(feature, cut, left, right)
	n.Less = true
	return n
}

// changed gives a node with something of it changed.
func changed(n api.Node, change func(n *api.Node)) api.Node {
	change(&n)
	return n
}

// with another thing at a place.
func with[T any](l []T, place int, x T) []T {
	l = slices.Clone(l)
	l[place] = x
	return l
}

// small has one question.
func small() nodes { return nodes{ask(0, 5, 1, 2), leaf(-7), leaf(9)} }

// two has two questions, the second one below Left of the first.
func two() nodes {
	return nodes{ask(0, 5, 1, 4), askLess(2, -5, 2, 3), leaf(10), leaf(20), leaf(30)}
}

// even has leaves at one depth alone: below place i stand those at 2i+1 and 2i+2.
func even(count int) nodes {
	t := make(nodes, count)
	for i := range t {
		if 2*i+2 < count {
			t[i] = ask(i%8, i-20, 2*i+1, 2*i+2)
		} else {
			t[i] = leaf(i)
		}
	}
	return t
}

// chain is as deep as it is told; its longest way goes to Left where left says so, else to Right.
func chain(deep int, left func(level int) bool) nodes {
	var t nodes
	for level := range deep {
		here := len(t)
		on, off := here+2, here+1
		if left(level) {
			t = append(t, ask(0, level, on, off))
		} else {
			t = append(t, ask(0, level, off, on))
		}
		t = append(t, leaf(level))
	}
	return append(t, leaf(100))
}

func byLeft(int) bool         { return true }
func byRight(int) bool        { return false }
func toAndFro(level int) bool { return level%2 == 0 }

// noise: numbers that look as if they had no order, the same ones each time.
type noise uint64

func (s *noise) below(n int) int {
	*s = *s*6364136223846793005 + 1442695040888963407
	return int(uint64(*s) >> 33 % uint64(n))
}

// cell that may be, one in four not there.
func (s *noise) cell() int {
	switch s.below(4) {
	case 0:
		return gone
	case 1:
		return []int{-end, -end + 1, end - 1, end}[s.below(4)]
	}
	return s.below(9) - 4
}

func (s *noise) cells(count int) []int {
	l := make([]int, count)
	for i := range l {
		l[i] = s.cell()
	}
	return l
}

// tree of so many questions, in any order in which what is below stands behind; it may be deeper than a tree may be.
func (s *noise) tree(questions, features int) nodes {
	count := 2*questions + 1
	t := make(nodes, count)
	// free holds the places that are somebody's and are not yet laid.
	free := []int{0}
	next := 1
	for asked := 0; asked < questions; asked++ {
		pick := s.below(len(free))
		at := free[pick]
		left, right := next, next+1
		if s.below(2) == 0 {
			left, right = right, left
		}
		t[at] = ask(s.below(features), []int{-end, -3, -1, 0, 1, 3, end}[s.below(7)], left, right)
		t[at].Less = s.below(2) == 0
		next += 2
		free = append(slices.Delete(free, pick, pick+1), left, right)
	}
	for _, at := range free {
		t[at] = leaf(s.below(2*end+1) - end)
	}
	return t
}

// spoil changes some numbers of a tree to such as may be wrong.
func (s *noise) spoil(t nodes) {
	pick := []int{least, gone, -end - 1, -end, -2, -1, 0, 1, 2, len(t) - 2, len(t) - 1, len(t), 7, 8, end, end + 1, great}
	for range s.below(3) {
		n := &t[s.below(len(t))]
		x := pick[s.below(len(pick))]
		switch s.below(7) {
		case 0:
			n.Feature = x
		case 1:
			n.Cut = x
		case 2:
			n.Left = x
		case 3:
			n.Right = x
		case 4:
			n.Value = x
		case 5:
			n.Less = !n.Less
		case 6:
			*n = t[s.below(len(t))]
		}
	}
}

func TestNumbers(t *testing.T) {
	if api.MaxNodes != 63 || api.MaxDepth != 10 || api.MaxRow != 8 || api.MaxCell != 1000000 || api.Leaf != -1 {
		t.Errorf("MaxNodes is %d, MaxDepth %d, MaxRow %d, MaxCell %d, Leaf %d", api.MaxNodes, api.MaxDepth, api.MaxRow, api.MaxCell, api.Leaf)
	}
}

// checkTold holds Check to a place and an error.
func checkTold(t *testing.T, name string, n nodes, features, place int, want api.Errno) {
	t.Helper()
	if at, err := tree.Check(n, features); at != place || told(err) != want {
		t.Errorf("%s: Check with %d = %d, %v, want %d, %v", name, features, at, err, place, want)
	}
}

// checkAll holds every call to one error, all rows being of 8 cells; with it nothing else is told but the place.
func checkAll(t *testing.T, name string, n nodes, place int, want api.Errno) {
	t.Helper()
	checkTold(t, name, n, 8, place, want)
	if d, err := tree.Depth(n); told(err) != want || err != nil && d != 0 {
		t.Errorf("%s: Depth = %d, %v, want %v", name, d, err, want)
	}
	if l, err := tree.Leaves(n); told(err) != want || err != nil && l != nil {
		t.Errorf("%s: Leaves = %v, %v, want %v", name, l, err, want)
	}
	checkRow(t, name, n, make([]int, 8), want)
}

// checkRow holds Leaf and Eval to an error, and with it to nothing else.
func checkRow(t *testing.T, name string, n nodes, r []int, want api.Errno) {
	t.Helper()
	if at, err := tree.Leaf(n, r); told(err) != want || err != nil && at != 0 {
		t.Errorf("%s: Leaf of %v = %d, %v, want %v", name, r, at, err, want)
	}
	if v, err := tree.Eval(n, r); told(err) != want || err != nil && v != 0 {
		t.Errorf("%s: Eval of %v = %d, %v, want %v", name, r, v, err, want)
	}
}

func TestHowMany(t *testing.T) {
	wrong := api.Node{Feature: least, Cut: great, Left: least, Right: least, Less: true, Value: great}
	checkAll(t, "nil", nil, 0, api.ErrNone)
	checkAll(t, "empty", nodes{}, 0, api.ErrNone)
	checkAll(t, "1", nodes{leaf(4)}, 0, none)
	checkAll(t, "3", small(), 0, none)
	checkAll(t, "61", even(61), 0, none)
	checkAll(t, "63", even(63), 0, none)
	checkAll(t, "64", append(even(63), leaf(0)), 0, api.ErrFull)
	checkAll(t, "65", even(65), 0, api.ErrFull)
	checkAll(t, "64, all of them wrong", slices.Repeat(nodes{wrong}, 64), 0, api.ErrFull)
	checkAll(t, "100000", even(100001), 0, api.ErrFull)
	checkAll(t, "63, all of them wrong", slices.Repeat(nodes{wrong}, 63), 0, api.ErrRange)
	checkAll(t, "63, nobody's", slices.Repeat(nodes{leaf(0)}, 63), 1, api.ErrClash)
}

func TestFeatures(t *testing.T) {
	for _, features := range []int{least, least + 1, -2, -1, 9, 10, 63, great - 1, great} {
		checkTold(t, "one leaf", nodes{leaf(4)}, features, 0, api.ErrRange)
		checkTold(t, "a leaf of another shape", nodes{changed(leaf(4), func(n *api.Node) { n.Less = true })}, features, 0, api.ErrRange)
		checkTold(t, "the second one wrong", with(small(), 1, leaf(end+1)), features, 0, api.ErrRange)
		checkTold(t, "nobody's", append(small(), leaf(1)), features, 0, api.ErrRange)
		checkTold(t, "none", nil, features, 0, api.ErrNone)
		checkTold(t, "64", even(64), features, 0, api.ErrFull)
	}
	for features := range 9 {
		checkTold(t, "one leaf", nodes{leaf(4)}, features, 0, none)
	}
}

// TestLeafNodes lays each leaf as a tree of its own, and as the last of three.
func TestLeafNodes(t *testing.T) {
	for _, c := range []struct {
		name   string
		change func(n *api.Node)
		want   api.Errno
	}{
		{"as it is", func(n *api.Node) {}, none},
		{"Value 0", func(n *api.Node) { n.Value = 0 }, none},
		{"Value at the low end", func(n *api.Node) { n.Value = -end }, none},
		{"Value within the low end", func(n *api.Node) { n.Value = -end + 1 }, none},
		{"Value beyond the low end", func(n *api.Node) { n.Value = -end - 1 }, api.ErrRange},
		{"Value at the high end", func(n *api.Node) { n.Value = end }, none},
		{"Value within the high end", func(n *api.Node) { n.Value = end - 1 }, none},
		{"Value beyond the high end", func(n *api.Node) { n.Value = end + 1 }, api.ErrRange},
		{"Value Nil", func(n *api.Node) { n.Value = gone }, api.ErrRange},
		{"Value the least", func(n *api.Node) { n.Value = least }, api.ErrRange},
		{"Value the greatest", func(n *api.Node) { n.Value = great }, api.ErrRange},
		{"Cut 1", func(n *api.Node) { n.Cut = 1 }, api.ErrShape},
		{"Cut -1", func(n *api.Node) { n.Cut = -1 }, api.ErrShape},
		{"Cut the least", func(n *api.Node) { n.Cut = least }, api.ErrShape},
		{"Cut the greatest", func(n *api.Node) { n.Cut = great }, api.ErrShape},
		{"Left 1", func(n *api.Node) { n.Left = 1 }, api.ErrShape},
		{"Left -1", func(n *api.Node) { n.Left = -1 }, api.ErrShape},
		{"Left the least", func(n *api.Node) { n.Left = least }, api.ErrShape},
		{"Left the greatest", func(n *api.Node) { n.Left = great }, api.ErrShape},
		{"Right 1", func(n *api.Node) { n.Right = 1 }, api.ErrShape},
		{"Right -1", func(n *api.Node) { n.Right = -1 }, api.ErrShape},
		{"Right the least", func(n *api.Node) { n.Right = least }, api.ErrShape},
		{"Right the greatest", func(n *api.Node) { n.Right = great }, api.ErrShape},
		{"Left and Right that come to 0", func(n *api.Node) { n.Left, n.Right = 1, -1 }, api.ErrShape},
		{"Less", func(n *api.Node) { n.Less = true }, api.ErrShape},
		{"Less, and Value beyond", func(n *api.Node) { n.Less, n.Value = true, end+1 }, api.ErrRange},
		{"Cut 1, and Value beyond", func(n *api.Node) { n.Cut, n.Value = 1, -end-1 }, api.ErrRange},
		{"Left 1, and Value beyond", func(n *api.Node) { n.Left, n.Value = 1, great }, api.ErrRange},
		{"Right 1, and Value beyond", func(n *api.Node) { n.Right, n.Value = 1, least }, api.ErrRange},
		{"all of it", func(n *api.Node) {
			*n = api.Node{Feature: api.Leaf, Cut: 1, Left: 1, Right: 1, Less: true, Value: end + 1}
		}, api.ErrRange},
	} {
		n := changed(leaf(4), c.change)
		checkAll(t, c.name, nodes{n}, 0, c.want)
		place := 2
		if c.want == none {
			place = 0
		}
		checkAll(t, c.name+", the last one", with(small(), 2, n), place, c.want)
	}
}

// TestAskingNodes changes the second node of five, which stands at 1 and goes to 2 and 3; features are three.
func TestAskingNodes(t *testing.T) {
	for _, c := range []struct {
		name   string
		change func(n *api.Node)
		want   api.Errno
	}{
		{"as it is", func(n *api.Node) {}, none},
		{"not Less", func(n *api.Node) { n.Less = false }, none},
		{"Feature -2", func(n *api.Node) { n.Feature = -2 }, api.ErrRange},
		{"Feature 0", func(n *api.Node) { n.Feature = 0 }, none},
		{"Feature 1", func(n *api.Node) { n.Feature = 1 }, none},
		{"Feature the last", func(n *api.Node) { n.Feature = 2 }, none},
		{"Feature beyond", func(n *api.Node) { n.Feature = 3 }, api.ErrRange},
		{"Feature the least", func(n *api.Node) { n.Feature = least }, api.ErrRange},
		{"Feature the greatest", func(n *api.Node) { n.Feature = great }, api.ErrRange},
		{"Cut at the low end", func(n *api.Node) { n.Cut = -end }, none},
		{"Cut beyond the low end", func(n *api.Node) { n.Cut = -end - 1 }, api.ErrRange},
		{"Cut at the high end", func(n *api.Node) { n.Cut = end }, none},
		{"Cut beyond the high end", func(n *api.Node) { n.Cut = end + 1 }, api.ErrRange},
		{"Cut Nil", func(n *api.Node) { n.Cut = gone }, api.ErrRange},
		{"Cut the least", func(n *api.Node) { n.Cut = least }, api.ErrRange},
		{"Cut the greatest", func(n *api.Node) { n.Cut = great }, api.ErrRange},
		{"Left and Right changed round", func(n *api.Node) { n.Left, n.Right = 3, 2 }, none},
		{"Left the root", func(n *api.Node) { n.Left = 0 }, api.ErrRange},
		{"Left itself", func(n *api.Node) { n.Left = 1 }, api.ErrRange},
		{"Left beyond", func(n *api.Node) { n.Left = 5 }, api.ErrRange},
		{"Left below 0", func(n *api.Node) { n.Left = -1 }, api.ErrRange},
		{"Left the least", func(n *api.Node) { n.Left = least }, api.ErrRange},
		{"Left the greatest", func(n *api.Node) { n.Left = great }, api.ErrRange},
		{"Right the root", func(n *api.Node) { n.Right = 0 }, api.ErrRange},
		{"Right itself", func(n *api.Node) { n.Right = 1 }, api.ErrRange},
		{"Right beyond", func(n *api.Node) { n.Right = 5 }, api.ErrRange},
		{"Right below 0", func(n *api.Node) { n.Right = -1 }, api.ErrRange},
		{"Right the least", func(n *api.Node) { n.Right = least }, api.ErrRange},
		{"Right the greatest", func(n *api.Node) { n.Right = great }, api.ErrRange},
		{"Left is Right", func(n *api.Node) { n.Left = 3 }, api.ErrShape},
		{"Right is Left", func(n *api.Node) { n.Right = 2 }, api.ErrShape},
		{"Value 1", func(n *api.Node) { n.Value = 1 }, api.ErrShape},
		{"Value -1", func(n *api.Node) { n.Value = -1 }, api.ErrShape},
		{"Value beyond", func(n *api.Node) { n.Value = end + 1 }, api.ErrShape},
		{"Value the least", func(n *api.Node) { n.Value = least }, api.ErrShape},
		{"Value the greatest", func(n *api.Node) { n.Value = great }, api.ErrShape},
		{"Value 1, and Feature beyond", func(n *api.Node) { n.Value, n.Feature = 1, 3 }, api.ErrRange},
		{"Value 1, and Feature below", func(n *api.Node) { n.Value, n.Feature = 1, -2 }, api.ErrRange},
		{"Value 1, and Cut beyond", func(n *api.Node) { n.Value, n.Cut = 1, end+1 }, api.ErrRange},
		{"Value 1, and Left beyond", func(n *api.Node) { n.Value, n.Left = 1, 5 }, api.ErrRange},
		{"Value 1, and Right below", func(n *api.Node) { n.Value, n.Right = 1, -5 }, api.ErrRange},
		{"Left is Right, both beyond", func(n *api.Node) { n.Left, n.Right = 5, 5 }, api.ErrRange},
		{"Left is Right, both itself", func(n *api.Node) { n.Left, n.Right = 1, 1 }, api.ErrRange},
		{"Left is Right, both the root", func(n *api.Node) { n.Left, n.Right = 0, 0 }, api.ErrRange},
		{"Left is Right, and Cut beyond", func(n *api.Node) { n.Right, n.Cut = 2, -end-1 }, api.ErrRange},
		{"Left is Right, and Value 1", func(n *api.Node) { n.Right, n.Value = 2, 1 }, api.ErrShape},
	} {
		l := two()
		l[1] = changed(l[1], c.change)
		place := 1
		if c.want == none {
			place = 0
		}
		checkTold(t, c.name, l, 3, place, c.want)
		checkRow(t, c.name, l, make([]int, 3), c.want)
	}
}

// TestWhereTo moves Left and Right of the first of three to every place, and beyond.
func TestWhereTo(t *testing.T) {
	for left := -2; left <= 4; left++ {
		for right := -2; right <= 4; right++ {
			want := none
			switch {
			case left < 1 || left > 2 || right < 1 || right > 2:
				want = api.ErrRange
			case left == right:
				want = api.ErrShape
			}
			checkAll(t, fmt.Sprint("to ", left, " and ", right), with(small(), 0, ask(0, 5, left, right)), 0, want)
		}
	}
	l := two()
	l[0].Left, l[0].Right, l[1].Right, l[1].Left = 4, 1, 3, 2
	checkAll(t, "the last one at Left", l, 0, none)
	checkAll(t, "the last node asks", with(small(), 2, ask(0, 0, 1, 2)), 2, api.ErrRange)
	checkAll(t, "the last node but one asks", with(small(), 1, ask(0, 0, 2, 3)), 1, api.ErrRange)
	checkAll(t, "one node, and it asks", nodes{ask(0, 0, 0, 0)}, 0, api.ErrRange)
	checkAll(t, "one node, and it asks for more", nodes{ask(0, 0, 1, 2)}, 0, api.ErrRange)
	checkAll(t, "a node of zeros", nodes{{}}, 0, api.ErrRange)
}

// TestFeaturesAsked holds each feature against each count of features.
func TestFeaturesAsked(t *testing.T) {
	for feature := -3; feature <= 10; feature++ {
		for features := range 9 {
			l := with(small(), 0, ask(feature, 5, 1, 2))
			want := none
			switch {
			case feature == api.Leaf:
				want = api.ErrShape
			case feature < 0 || feature >= features:
				want = api.ErrRange
			}
			checkTold(t, fmt.Sprint("feature ", feature), l, features, 0, want)
			checkRow(t, fmt.Sprint("feature ", feature), l, make([]int, features), want)
		}
	}
}

// TestFirstNode has several nodes wrong: the first one is told.
func TestFirstNode(t *testing.T) {
	shape := changed(leaf(0), func(n *api.Node) { n.Less = true })
	beyond := leaf(end + 1)
	checkAll(t, "shape, then range", with(with(two(), 2, shape), 3, beyond), 2, api.ErrShape)
	checkAll(t, "range, then shape", with(with(two(), 2, beyond), 3, shape), 2, api.ErrRange)
	checkAll(t, "shape at the root, then range", with(with(two(), 0, changed(ask(0, 5, 1, 4), func(n *api.Node) { n.Value = 1 })), 4, beyond), 0, api.ErrShape)
	checkAll(t, "range at the root, then shape", with(with(two(), 0, ask(8, 5, 1, 4)), 1, shape), 0, api.ErrRange)
	checkAll(t, "the last one alone", with(two(), 4, shape), 4, api.ErrShape)
	for first := range 63 {
		l := slices.Clone(even(63))
		for i := first; i < len(l); i++ {
			l[i] = beyond
			if i%2 == 1 {
				l[i] = shape
			}
		}
		want := api.ErrRange
		if first%2 == 1 {
			want = api.ErrShape
		}
		checkAll(t, fmt.Sprint("wrong from ", first), l, first, want)
	}
}

func TestClash(t *testing.T) {
	checkAll(t, "the last one is nobody's", append(small(), leaf(0)), 3, api.ErrClash)
	checkAll(t, "two leaves", nodes{leaf(0), leaf(0)}, 1, api.ErrClash)
	checkAll(t, "the second one is nobody's", nodes{ask(0, 0, 2, 3), leaf(0), leaf(0), leaf(0)}, 1, api.ErrClash)
	checkAll(t, "one in the midst is nobody's", nodes{ask(0, 0, 1, 3), leaf(0), leaf(0), leaf(0)}, 2, api.ErrClash)
	checkAll(t, "a tree beside it", append(small(), ask(0, 0, 4, 5), leaf(0), leaf(0)), 3, api.ErrClash)
	checkAll(t, "Right of one, Left of another", nodes{ask(0, 0, 1, 2), ask(0, 0, 2, 3), leaf(0), leaf(0)}, 2, api.ErrClash)
	checkAll(t, "Left of two", nodes{ask(0, 0, 2, 1), ask(0, 0, 2, 3), leaf(0), leaf(0)}, 2, api.ErrClash)
	checkAll(t, "Right of two", nodes{ask(0, 0, 1, 3), ask(0, 0, 2, 3), leaf(0), leaf(0)}, 3, api.ErrClash)
	checkAll(t, "of three", nodes{ask(0, 0, 1, 4), ask(0, 0, 2, 4), ask(0, 0, 3, 4), leaf(0), leaf(0)}, 4, api.ErrClash)
	checkAll(t, "of two, then nobody's", nodes{ask(0, 0, 1, 2), ask(0, 0, 2, 4), leaf(0), leaf(0), leaf(0)}, 2, api.ErrClash)
	checkAll(t, "nobody's, then of two", nodes{ask(0, 0, 2, 3), leaf(0), ask(0, 0, 3, 4), leaf(0), leaf(0)}, 1, api.ErrClash)
	checkAll(t, "the last of 62", even(63)[:62], 30, api.ErrRange)
	checkAll(t, "63, the last one nobody's", append(append(even(61), leaf(0)), leaf(0)), 61, api.ErrClash)
}

// TestClashLast: the faults of all nodes go ahead of what is nobody's, or of two.
func TestClashLast(t *testing.T) {
	nobody := nodes{ask(0, 0, 2, 3), leaf(0), leaf(0), leaf(0)}
	both := nodes{ask(0, 0, 1, 2), ask(0, 0, 2, 3), leaf(0), leaf(0)}
	shape := changed(leaf(0), func(n *api.Node) { n.Cut = 1 })
	for place := 2; place <= 3; place++ {
		for _, l := range []nodes{nobody, both} {
			checkAll(t, "a value beyond", with(l, place, leaf(-end-1)), place, api.ErrRange)
			checkAll(t, "another shape", with(l, place, shape), place, api.ErrShape)
		}
	}
	checkAll(t, "the one that is nobody's is wrong itself", with(nobody, 1, shape), 1, api.ErrShape)
}

func TestDeep(t *testing.T) {
	for _, left := range []func(int) bool{byLeft, byRight, toAndFro} {
		for deep := range 11 {
			l := chain(deep, left)
			checkAll(t, fmt.Sprint("deep ", deep), l, 0, none)
			if got, err := tree.Depth(l); got != deep || err != nil {
				t.Errorf("Depth = %d, %v, want %d", got, err, deep)
			}
		}
		for deep := 11; deep <= 31; deep++ {
			l := chain(deep, left)
			checkAll(t, fmt.Sprint("deep ", deep), l, 0, api.ErrFull)
			checkTold(t, "deep, no features", l, 0, 0, api.ErrRange)
			checkTold(t, "deep, too many features", l, 9, 0, api.ErrRange)
			last := len(l) - 1
			checkAll(t, "deep, the last one wrong", with(l, last, leaf(great)), last, api.ErrRange)
			checkAll(t, "deep, the last one of another shape", with(l, last, changed(leaf(0), func(n *api.Node) { n.Less = true })), last, api.ErrShape)
			if last+1 < api.MaxNodes {
				checkAll(t, "deep, one nobody's", append(l, leaf(0)), last+1, api.ErrClash)
			}
		}
		checkAll(t, "deep 32", chain(32, left), 0, api.ErrFull)
	}
}

func TestDepth(t *testing.T) {
	for _, c := range []struct {
		name string
		l    nodes
		want int
	}{
		{"one leaf", nodes{leaf(3)}, 0},
		{"one question", small(), 1},
		{"two questions, by Left", two(), 2},
		{"two questions, by Right", nodes{ask(0, 0, 1, 2), leaf(0), ask(0, 0, 3, 4), leaf(0), leaf(0)}, 2},
		{"seven nodes", even(7), 2},
		{"nine nodes", even(9), 3},
		{"63", even(63), 5},
		{"61", even(61), 5},
		{"the deep way first, shallow ones behind", nodes{ask(0, 0, 1, 6), ask(0, 0, 2, 5), ask(0, 0, 3, 4), leaf(0), leaf(0), leaf(0), leaf(0)}, 3},
		{"the deep way last", nodes{ask(0, 0, 1, 2), leaf(0), ask(0, 0, 3, 4), leaf(0), ask(0, 0, 5, 6), leaf(0), leaf(0)}, 3},
		{"the deep way in the midst", nodes{ask(7, 0, 5, 1), ask(7, 0, 2, 6), ask(7, 0, 3, 4), leaf(0), leaf(0), ask(7, 0, 7, 8), leaf(0), leaf(0), leaf(0)}, 3},
	} {
		if got, err := tree.Depth(c.l); got != c.want || err != nil {
			t.Errorf("%s: Depth = %d, %v, want %d", c.name, got, err, c.want)
		}
	}
}

// TestOneQuestion asks for cells around cuts, and for one that is not there.
func TestOneQuestion(t *testing.T) {
	for _, cut := range []int{-end, -end + 1, -1, 0, 1, 5, end - 1, end} {
		for _, cell := range []int{cut - 1, cut, cut + 1, -end, end, 0} {
			if cell < -end || cell > end {
				continue
			}
			want := 2
			if cell < cut {
				want = 1
			}
			checkEnds(t, with(small(), 0, ask(0, cut, 1, 2)), []int{cell}, want)
			checkEnds(t, with(small(), 0, askLess(0, cut, 1, 2)), []int{cell}, want)
			checkEnds(t, with(small(), 0, ask(0, cut, 2, 1)), []int{cell}, 3-want)
			checkEnds(t, with(small(), 0, askLess(0, cut, 2, 1)), []int{cell}, 3-want)
		}
		checkEnds(t, with(small(), 0, ask(0, cut, 1, 2)), []int{gone}, 2)
		checkEnds(t, with(small(), 0, askLess(0, cut, 1, 2)), []int{gone}, 1)
		checkEnds(t, with(small(), 0, ask(0, cut, 2, 1)), []int{gone}, 1)
		checkEnds(t, with(small(), 0, askLess(0, cut, 2, 1)), []int{gone}, 2)
	}
}

// TestToLeft: which way a cell goes, whatever the node and the cell are.
func TestToLeft(t *testing.T) {
	for _, c := range []struct {
		name string
		node api.Node
		cell int
		want bool
	}{
		{"one below", ask(0, 5, 1, 2), 4, true},
		{"at the Cut", ask(0, 5, 1, 2), 5, false},
		{"one above", ask(0, 5, 1, 2), 6, false},
		{"one below, Less", askLess(0, 5, 1, 2), 4, true},
		{"at the Cut, Less", askLess(0, 5, 1, 2), 5, false},
		{"not there", ask(0, 5, 1, 2), gone, false},
		{"not there, Less", askLess(0, 5, 1, 2), gone, true},
		{"not there, the lowest Cut, Less", askLess(0, -end, 1, 2), gone, true},
		{"not there, the highest Cut", ask(0, end, 1, 2), gone, false},
		{"the least number", ask(0, 5, 1, 2), least, true},
		{"the greatest number, Less", askLess(0, 5, 1, 2), great, false},
		{"a node far beyond", ask(great, least, great, least), 0, false},
		{"a leaf", leaf(3), 0, false},
	} {
		if got := tree.ToLeft(c.node, c.cell); got != c.want {
			t.Errorf("%s: ToLeft(%v, %d) = %v, want %v", c.name, c.node, c.cell, got, c.want)
		}
	}
}

// checkEnds holds Leaf to a place, and Eval to its value.
func checkEnds(t *testing.T, l nodes, r []int, want int) {
	t.Helper()
	if got, err := tree.Leaf(l, r); got != want || err != nil {
		t.Errorf("Leaf(%v, %v) = %d, %v, want %d", l, r, got, err, want)
	}
	if got, err := tree.Eval(l, r); got != l[want].Value || err != nil {
		t.Errorf("Eval(%v, %v) = %d, %v, want %d", l, r, got, err, l[want].Value)
	}
}

func TestWays(t *testing.T) {
	l := two() // The first one asks whether cell 0 is below 5; the second one cell 2 below -5, and Less.
	checkEnds(t, l, []int{4, 0, -6}, 2)
	checkEnds(t, l, []int{4, 0, -5}, 3)
	checkEnds(t, l, []int{4, -100, -4}, 3)
	checkEnds(t, l, []int{4, 0, gone}, 2)
	checkEnds(t, l, []int{5, 0, -6}, 4)
	checkEnds(t, l, []int{gone, 0, -6}, 4)
	checkEnds(t, l, []int{gone, gone, gone}, 4)
	checkEnds(t, l, []int{-end, gone, gone}, 2)
	checkEnds(t, l, []int{-end, end, end, 1, 2, 3, 4, 5}, 3)
	checkEnds(t, nodes{leaf(-end)}, nil, 0)
	checkEnds(t, nodes{leaf(end)}, []int{}, 0)
	checkEnds(t, nodes{leaf(8)}, []int{gone}, 0)
	checkEnds(t, nodes{leaf(8)}, make([]int, 8), 0)
	// One feature, asked for several times on one way.
	again := nodes{ask(0, 0, 1, 4), ask(0, -10, 2, 3), leaf(1), leaf(2), ask(0, 10, 5, 6), leaf(3), leaf(4)}
	for cell, want := range map[int]int{-11: 2, -10: 3, -1: 3, 0: 5, 9: 5, 10: 6, gone: 6} {
		checkEnds(t, again, []int{cell}, want)
	}
	deep := chain(10, byLeft)
	checkEnds(t, deep, []int{-1}, 20)
	checkEnds(t, deep, []int{0}, 1)
	checkEnds(t, chain(10, byRight), []int{10}, 20)
	checkEnds(t, chain(10, byRight), []int{4}, 11)
}

// TestRows: the fault of a row goes ahead of that of a tree, and a tree may ask no more than the row has.
func TestRows(t *testing.T) {
	trees := []struct {
		name string
		l    nodes
	}{
		{"good", two()}, {"one leaf", nodes{leaf(1)}}, {"none", nil}, {"64", even(64)}, {"a value beyond", nodes{leaf(end + 1)}},
		{"another shape", nodes{changed(leaf(0), func(n *api.Node) { n.Less = true })}}, {"nobody's", nodes{leaf(0), leaf(0)}},
		{"deep", chain(11, byLeft)},
	}
	for _, c := range trees {
		checkRow(t, c.name+", 9 cells", c.l, make([]int, 9), api.ErrFull)
		checkRow(t, c.name+", 9 cells beyond", c.l, slices.Repeat([]int{great}, 9), api.ErrFull)
		checkRow(t, c.name+", 1000 cells", c.l, make([]int, 1000), api.ErrFull)
		for _, bad := range []int{least, gone - 1, gone + 1, -end - 1, end + 1, great} {
			for place := range 8 {
				checkRow(t, c.name+", a cell beyond", c.l, with(make([]int, 8), place, bad), api.ErrRange)
			}
			checkRow(t, c.name+", one cell beyond", c.l, []int{bad}, api.ErrRange)
		}
	}
	for cells, want := range []api.Errno{api.ErrRange, api.ErrRange, api.ErrRange, none} {
		checkRow(t, fmt.Sprint("cells ", cells), two(), make([]int, cells), want)
	}
	// The second node asks for more than there is, even where no row comes to it.
	checkRow(t, "two cells, another way", two(), []int{end, 0}, api.ErrRange)
	checkRow(t, "no cell, a question", small(), nil, api.ErrRange)
	checkRow(t, "no cell, no tree", nil, nil, api.ErrNone)
	checkRow(t, "no cell, 64 nodes", even(64), nil, api.ErrFull)
	checkRow(t, "no cell, deep", chain(11, byLeft), nil, api.ErrRange)
	checkRow(t, "no cell, nobody's", nodes{leaf(0), leaf(0)}, nil, api.ErrClash)
	checkRow(t, "one cell, deep", chain(11, byLeft), []int{gone}, api.ErrFull)
}

// TestEightFeatures: Depth and Leaves take trees that ask for all that a row may have, and no more.
func TestEightFeatures(t *testing.T) {
	checkAll(t, "the last feature", with(small(), 0, ask(7, 0, 1, 2)), 0, none)
	checkAll(t, "one more", with(small(), 0, ask(8, 0, 1, 2)), 0, api.ErrRange)
}

func TestLeaves(t *testing.T) {
	for _, c := range []struct {
		name string
		l    nodes
		want []int
	}{
		{"one leaf", nodes{leaf(3)}, []int{0}},
		{"one question", small(), []int{1, 2}},
		{"Left behind Right", with(small(), 0, ask(0, 0, 2, 1)), []int{1, 2}},
		{"two questions", two(), []int{2, 3, 4}},
		{"two questions, by Right", nodes{ask(0, 0, 1, 2), leaf(0), ask(0, 0, 3, 4), leaf(0), leaf(0)}, []int{1, 3, 4}},
		{"falling values", nodes{ask(0, 0, 4, 1), ask(0, 0, 3, 2), leaf(3), leaf(2), leaf(1)}, []int{2, 3, 4}},
		{"deep", chain(3, toAndFro), []int{1, 3, 5, 6}},
	} {
		if got, err := tree.Leaves(c.l); !slices.Equal(got, c.want) || err != nil {
			t.Errorf("%s: Leaves = %v, %v, want %v", c.name, got, err, c.want)
		}
	}
	if got, err := tree.Leaves(even(63)); len(got) != 32 || got[0] != 31 || got[31] != 62 || err != nil {
		t.Errorf("Leaves of 63 nodes = %v, %v", got, err)
	}
}

// plainNode works out what is wrong with one node, word by word.
func plainNode(l nodes, place, features int) api.Errno {
	n := l[place]
	cell := func(x int) bool { return -1000000 <= x && x <= 1000000 }
	if n.Feature == -1 {
		switch {
		case !cell(n.Value):
			return api.ErrRange
		case n.Cut != 0, n.Left != 0, n.Right != 0, n.Less:
			return api.ErrShape
		}
		return none
	}
	switch {
	case n.Feature < 0, n.Feature > features-1, !cell(n.Cut):
		return api.ErrRange
	case n.Left < place+1, n.Left > len(l)-1, n.Right < place+1, n.Right > len(l)-1:
		return api.ErrRange
	case n.Value != 0, n.Left == n.Right:
		return api.ErrShape
	}
	return none
}

// plainDepth goes down all ways.
func plainDepth(l nodes, at int) int {
	if l[at].Feature == -1 {
		return 0
	}
	return 1 + max(plainDepth(l, l[at].Left), plainDepth(l, l[at].Right))
}

// plainCheck works Check out anew for each node.
func plainCheck(l nodes, features int) (int, api.Errno) {
	switch {
	case len(l) > 63:
		return 0, api.ErrFull
	case len(l) == 0:
		return 0, api.ErrNone
	case features < 0, features > 8:
		return 0, api.ErrRange
	}
	for i := range l {
		if e := plainNode(l, i, features); e != none {
			return i, e
		}
	}
	for i := 1; i < len(l); i++ {
		count := 0
		for _, n := range l {
			if n.Feature != -1 && (n.Left == i || n.Right == i) {
				count++
			}
		}
		if count != 1 {
			return i, api.ErrClash
		}
	}
	if plainDepth(l, 0) > 10 {
		return 0, api.ErrFull
	}
	return 0, none
}

// plainLeaf goes down by itself.
func plainLeaf(l nodes, at int, r []int) int {
	n := l[at]
	switch {
	case n.Feature == -1:
		return at
	case r[n.Feature] == gone && n.Less, r[n.Feature] != gone && r[n.Feature] < n.Cut:
		return plainLeaf(l, n.Left, r)
	}
	return plainLeaf(l, n.Right, r)
}

// TestAgainstPlain holds trees that are good, and such as are spoiled, against what the chapter says word by word.
func TestAgainstPlain(t *testing.T) {
	var s noise = 4
	seen := map[api.Errno]int{}
	for range 60000 {
		l := s.tree(s.below(32), 1+s.below(8))
		s.spoil(l)
		features := s.below(9)
		place, want := plainCheck(l, features)
		seen[want]++
		checkTold(t, "spoiled", l, features, place, want)
		r := s.cells(features)
		if want != none {
			checkRow(t, "spoiled", l, r, want)
		} else {
			checkEnds(t, l, r, plainLeaf(l, 0, r))
		}
		checkWhole(t, l)
		if t.Failed() {
			t.Fatalf("tree %v", l)
		}
	}
	for _, e := range []api.Errno{none, api.ErrRange, api.ErrShape, api.ErrClash, api.ErrFull} {
		if seen[e] < 100 {
			t.Errorf("only %d trees come to %v", seen[e], e)
		}
	}
}

// checkWhole holds Depth and Leaves of any tree to what they are.
func checkWhole(t *testing.T, l nodes) {
	t.Helper()
	_, want := plainCheck(l, 8)
	deep, leaves := 0, []int(nil)
	if want == none {
		deep = plainDepth(l, 0)
		for i, n := range l {
			if n.Feature == -1 {
				leaves = append(leaves, i)
			}
		}
	}
	if got, err := tree.Depth(l); got != deep || told(err) != want {
		t.Errorf("Depth = %d, %v, want %d, %v", got, err, deep, want)
	}
	if got, err := tree.Leaves(l); !slices.Equal(got, leaves) || told(err) != want {
		t.Errorf("Leaves = %v, %v, want %v, %v", got, err, leaves, want)
	}
}

// TestSmallTrees tries all trees of four nodes of some kinds.
func TestSmallTrees(t *testing.T) {
	kinds := nodes{leaf(1), leaf(end + 1), changed(leaf(0), func(n *api.Node) { n.Less = true })}
	for left := range 5 {
		for right := range 5 {
			kinds = append(kinds, ask(0, 0, left, right))
		}
	}
	l := make(nodes, 4)
	var lay func(place int)
	lay = func(place int) {
		if place == len(l) {
			at, want := plainCheck(l, 1)
			if got, err := tree.Check(l, 1); got != at || told(err) != want {
				t.Fatalf("Check(%v) = %d, %v, want %d, %v", l, got, err, at, want)
			}
			return
		}
		for _, k := range kinds {
			l[place] = k
			lay(place + 1)
		}
	}
	lay(0)
}

// guarded gives a list with memory behind its length, and all of that memory.
func guarded[T any](l []T, behind T) (list, all []T) {
	all = append(slices.Clone(l), slices.Repeat([]T{behind}, 8)...)
	return all[:len(l)], all
}

// TestListsStay: what is handed in, and what stands behind it, is as it was, and what stands behind it is not read.
func TestListsStay(t *testing.T) {
	behind := leaf(great)
	for _, l := range []nodes{nil, {leaf(1)}, small(), two(), even(63), even(64), chain(11, byLeft), with(two(), 1, leaf(end+1)), append(small(), leaf(0))} {
		for _, r := range [][]int{nil, {4, gone, 3}, make([]int, 8), make([]int, 9), {great}} {
			list, allNodes := guarded(l, behind)
			cells, allCells := guarded(r, least)
			wasNodes, wasCells := slices.Clone(allNodes), slices.Clone(allCells)
			at, err := tree.Check(list, len(cells))
			if place, want := plainCheck(l, len(r)); at != place || told(err) != want {
				t.Errorf("Check = %d, %v, want %d, %v", at, err, place, want)
			}
			checkWhole(t, list)
			tree.Leaf(list, cells)
			tree.Eval(list, cells)
			if !slices.Equal(allNodes, wasNodes) || !slices.Equal(allCells, wasCells) {
				t.Errorf("%v and %v were written into: %v, %v", l, r, allNodes, allCells)
			}
		}
	}
}

// TestAnswersAreFresh: writing into what came out changes nothing that comes later.
func TestAnswersAreFresh(t *testing.T) {
	l := two()
	first, err := tree.Leaves(l)
	if err != nil {
		t.Fatal(err)
	}
	first = first[:cap(first)]
	for i := range first {
		first[i] = 77
	}
	if again, err := tree.Leaves(l); !slices.Equal(again, []int{2, 3, 4}) || err != nil {
		t.Errorf("Leaves, once more = %v, %v", again, err)
	}
	if !slices.Equal(l, two()) {
		t.Errorf("the tree is %v", l)
	}
}
