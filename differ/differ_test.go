package differ_test

import (
	"errors"
	"fmt"
	"math"
	"slices"
	"testing"

	"orchardry/api"
	"orchardry/differ"
	"orchardry/flat"
	"orchardry/grove"
	"orchardry/path"
	"orchardry/prune"
	"orchardry/row"
	"orchardry/tree"
)

const (
	end   = api.MaxCell
	gone  = api.Nil
	least = math.MinInt
	great = math.MaxInt
)

// none stands for an error that is nil.
const none = api.OK

// told gives what an error tells; -1, if it is none of the program's, or OK, which no error may be.
func told(err error) api.Errno {
	var e api.Errno
	switch {
	case err == nil:
		return none
	case errors.As(err, &e) && e != api.OK:
		return e
	}
	return -1
}

// nodes of a tree.
type nodes = []api.Node

// leaf that says a value.
func leaf(value int) api.Node { return api.Node{Feature: api.Leaf, Value: value} }

// ask whether a feature is below a cut; what is not there goes to Right.
func ask(feature, cut, left, right int) api.Node {
	return api.Node{Feature: feature, Cut: cut, Left: left, Right: right}
}

// askLess is ask, but what is not there goes to Left.
func askLess(feature, cut, left, right int) api.Node {
	n := ask(feature, cut, left, right)
	n.Less = true
	return n
}

// says is a tree that says one value of every row.
func says(value int) nodes { return nodes{leaf(value)} }

// behind gives nodes that stand so many places further back.
func behind(n nodes, by int) nodes {
	n = slices.Clone(n)
	for i := range n {
		if n[i].Feature != api.Leaf {
			n[i].Left += by
			n[i].Right += by
		}
	}
	return n
}

// fork asks ahead of two trees; what is not there goes to Right.
func fork(feature, cut int, left, right nodes) nodes {
	return slices.Concat(nodes{ask(feature, cut, 1, 1+len(left))}, behind(left, 1), behind(right, 1+len(left)))
}

// forkLess is fork, but what is not there goes to Left.
func forkLess(feature, cut int, left, right nodes) nodes {
	n := fork(feature, cut, left, right)
	n[0].Less = true
	return n
}

// small has one question.
func small(feature, cut, left, right int) nodes { return fork(feature, cut, says(left), says(right)) }

// smallLess is small, but what is not there goes to Left.
func smallLess(feature, cut, left, right int) nodes {
	return forkLess(feature, cut, says(left), says(right))
}

// two has two questions, of features 0 and 2.
func two() nodes { return fork(0, 5, smallLess(2, -5, 10, 20), says(30)) }

// even has below place i those at 2i+1 and 2i+2; to some of its leaves no row comes.
func even(count int) nodes {
	t := make(nodes, count)
	for i := range t {
		if 2*i+2 < count {
			t[i] = ask(i%8, i-20, 2*i+1, 2*i+2)
		} else {
			t[i] = leaf(i)
		}
	}
	return t
}

// level asks for one feature on each level; its leaves say a number of their own each, from first on.
func level(features []int, cut, first int) nodes {
	if len(features) == 0 {
		return says(first)
	}
	half := 1 << (len(features) - 1)
	return fork(features[0], cut, level(features[1:], cut, first), level(features[1:], cut, first+half))
}

// chain is as deep as it is told: below 0 comes to 0, each further number to one more, and what is at the last cut or above it to 100.
func chain(deep int) nodes {
	var t nodes
	for level := range deep {
		t = append(t, ask(0, level, len(t)+1, len(t)+2), leaf(level))
	}
	return append(t, leaf(100))
}

// with another thing at a place.
func with[T any](l []T, place int, x T) []T {
	l = slices.Clone(l)
	l[place] = x
	return l
}

// saying gives a tree with another Value at a leaf.
func saying(n nodes, at, value int) nodes { return with(n, at, leaf(value)) }

// ones gives so many Weights of 1.
func ones(count int) []int { return slices.Repeat([]int{1}, count) }

// wood lays a grove.
func wood(features, way int, weights []int, trees ...nodes) api.Grove {
	return api.Grove{Features: features, Way: way, Weights: weights, Trees: trees}
}

// three trees that are right, of three features.
func three(way int) api.Grove {
	return wood(3, way, []int{2, 3, 4}, small(0, 5, -7, 9), fork(1, 0, smallLess(2, -5, 10, 20), says(30)), says(6))
}

// copied gives a grove that shares nothing with another, whatever it is.
func copied(g api.Grove) api.Grove {
	g.Weights = slices.Clone(g.Weights)
	g.Trees = slices.Clone(g.Trees)
	for i, t := range g.Trees {
		g.Trees[i] = slices.Clone(t)
	}
	return g
}

// changed gives a grove with something of it changed.
func changed(g api.Grove, change func(g *api.Grove)) api.Grove {
	g = copied(g)
	change(&g)
	return g
}

// ways in which trees come together.
func ways() []int { return []int{api.Sum, api.Mean, api.Vote} }

// noise: numbers that look as if they had no order, the same ones each time.
type noise uint64

func (s *noise) below(n int) int {
	*s = *s*6364136223846793005 + 1442695040888963407
	return int(uint64(*s) >> 33 % uint64(n))
}

// cut from few, so that questions often ask the same.
func (s *noise) cut() int { return []int{-end, -end + 1, -1, 0, 1, 2, end}[s.below(7)] }

// value from few, so that several leaves often say the same.
func (s *noise) value() int { return []int{-end, 0, 1, end}[s.below(4)] }

// tree of so many questions, in any order in which what is below stands behind; it may be deeper than a tree may be.
func (s *noise) tree(questions, features int) nodes {
	t := make(nodes, 2*questions+1)
	// open holds the places that are somebody's and are not yet laid.
	open := []int{0}
	next := 1
	for range questions {
		pick := s.below(len(open))
		at := open[pick]
		left, right := next, next+1
		if s.below(2) == 0 {
			left, right = right, left
		}
		t[at] = ask(s.below(features), s.cut(), left, right)
		t[at].Less = s.below(2) == 0
		next += 2
		open = append(slices.Delete(open, pick, pick+1), left, right)
	}
	for _, at := range open {
		t[at] = leaf(s.value())
	}
	return t
}

// isTree tells whether a tree is right.
func isTree(n nodes, features int) bool {
	_, err := tree.Check(n, features)
	return err == nil
}

// good tree of at most so many questions.
func (s *noise) good(questions, features int) nodes {
	if features == 0 {
		return says(s.value())
	}
	for {
		if t := s.tree(s.below(questions+1), features); isTree(t, features) {
			return t
		}
	}
}

// shuffled gives the same tree at other places.
func (s *noise) shuffled(n nodes) nodes {
	type open struct{ from, above int }
	var laid nodes
	ready := []open{{0, -1}}
	for len(ready) > 0 {
		pick := s.below(len(ready))
		next := ready[pick]
		ready = slices.Delete(ready, pick, pick+1)
		q, here := n[next.from], len(laid)
		// Left and Right are told by those below, as soon as they are laid.
		if next.above >= 0 && laid[next.above].Left == -1-next.from {
			laid[next.above].Left = here
		} else if next.above >= 0 {
			laid[next.above].Right = here
		}
		if q.Feature != api.Leaf {
			ready = append(ready, open{q.Left, here}, open{q.Right, here})
			q.Left, q.Right = -1-q.Left, -1-q.Right
		}
		laid = append(laid, q)
	}
	return laid
}

// grown gives a tree with a question in a leaf's place, and behind all others two leaves for it.
func grown(n nodes, at int, q api.Node, left, right int) nodes {
	q.Left, q.Right = len(n), len(n)+1
	return append(with(n, at, q), leaf(left), leaf(right))
}

// pickLeaf gives the place of a leaf.
func (s *noise) pickLeaf(n nodes) int {
	for {
		if at := s.below(len(n)); n[at].Feature == api.Leaf {
			return at
		}
	}
}

// longer gives a tree that says the same with a question more at a leaf: one whose leaves say the same, or one that has been asked on the way, whose other leaf says anything.
func (s *noise) longer(n nodes, features int) nodes {
	at := s.pickLeaf(n)
	value := n[at].Value
	q := api.Node{Feature: s.below(features), Cut: s.cut(), Less: s.below(2) == 0}
	for place, up := range n {
		if up.Feature != api.Leaf && up.Left == at && s.below(2) == 0 {
			return grown(n, at, n[place], value, s.value())
		}
		if up.Feature != api.Leaf && up.Right == at && s.below(2) == 0 {
			return grown(n, at, n[place], s.value(), value)
		}
	}
	return grown(n, at, q, value, value)
}

// goesLeft by itself.
func goesLeft(q api.Node, cell int) bool {
	if cell == gone {
		return q.Less
	}
	return cell < q.Cut
}

// comesTo goes down by itself.
func comesTo(n nodes, r []int) int {
	at := 0
	for n[at].Feature != api.Leaf {
		if goesLeft(n[at], r[n[at].Feature]) {
			at = n[at].Left
		} else {
			at = n[at].Right
		}
	}
	return at
}

// cells that tell all questions of two trees for a feature apart: the ends, the cuts, one below them, and what is not there.
func cells(a, b nodes, feature int) []int {
	l := []int{-end, end, gone}
	for _, q := range slices.Concat(a, b) {
		if q.Feature == feature {
			l = append(l, max(q.Cut-1, -end), q.Cut)
		}
	}
	slices.Sort(l)
	return slices.Compact(l)
}

// allCells gives these of each feature.
func allCells(a, b nodes, features int) [][]int {
	l := make([][]int, features)
	for i := range l {
		l[i] = cells(a, b, i)
	}
	return l
}

// allRows gives all rows of such cells.
func allRows(a, b nodes, features int) [][]int {
	rows := [][]int{{}}
	for _, may := range allCells(a, b, features) {
		var longer [][]int
		for _, r := range rows {
			for _, cell := range may {
				longer = append(longer, append(slices.Clone(r), cell))
			}
		}
		rows = longer
	}
	return rows
}

// someRows gives some of them.
func (s *noise) someRows(a, b nodes, features, count int) [][]int {
	may := allCells(a, b, features)
	rows := make([][]int, count)
	for i := range rows {
		for _, l := range may {
			rows[i] = append(rows[i], l[s.below(len(l))])
		}
	}
	return rows
}

// triedMoved counts the pairs of leaves with different Values to which rows come, tried one by one.
func triedMoved(a, b nodes, features int) int {
	pairs := map[[2]int]int{}
	for _, r := range allRows(a, b, features) {
		x, y := comesTo(a, r), comesTo(b, r)
		if a[x].Value != b[y].Value {
			pairs[[2]int{x, y}]++
		}
	}
	return len(pairs)
}

// walk goes down a tree with all cells that rows may still have there, and does something at each leaf to which some come.
func walk(n nodes, at int, may [][]int, do func(at int, may [][]int)) {
	q := n[at]
	if q.Feature == api.Leaf {
		do(at, may)
		return
	}
	var left, right []int
	for _, cell := range may[q.Feature] {
		if goesLeft(q, cell) {
			left = append(left, cell)
		} else {
			right = append(right, cell)
		}
	}
	if len(left) > 0 {
		walk(n, q.Left, with(may, q.Feature, left), do)
	}
	if len(right) > 0 {
		walk(n, q.Right, with(may, q.Feature, right), do)
	}
}

// walkedMoved counts the same pairs down one tree and then the other, where there are too many rows to try.
func walkedMoved(a, b nodes, features int) int {
	count := 0
	walk(a, 0, allCells(a, b, features), func(x int, may [][]int) {
		walk(b, 0, may, func(y int, _ [][]int) {
			if a[x].Value != b[y].Value {
				count++
			}
		})
	})
	return count
}

// checkRow holds a row to be one of so many cells of which two trees differ.
func checkRow(t *testing.T, name string, a, b nodes, features int, r []int) {
	t.Helper()
	if len(r) != features {
		t.Errorf("%s: %v, %v: the row %v has %d cells, want %d", name, a, b, r, len(r), features)
		return
	}
	if err := row.Check(r); err != nil {
		t.Errorf("%s: %v, %v: the row %v is wrong: %v", name, a, b, r, err)
		return
	}
	x, err := tree.Eval(a, r)
	y, bad := tree.Eval(b, r)
	if err != nil || bad != nil || x == y {
		t.Errorf("%s: Evals of %v by %v and %v are %d, %v and %d, %v", name, r, a, b, x, err, y, bad)
	}
	if a[comesTo(a, r)].Value == b[comesTo(b, r)].Value {
		t.Errorf("%s: %v comes to leaves of %v and %v that say the same", name, r, a, b)
	}
}

// checkMoved holds Moved to a count, either way round.
func checkMoved(t *testing.T, name string, a, b nodes, features, want int) {
	t.Helper()
	if got, err := differ.Moved(a, b, features); got != want || err != nil {
		t.Errorf("%s: Moved of %v, %v, %d = %d, %v, want %d", name, a, b, features, got, err, want)
	}
	if got, err := differ.Moved(b, a, features); got != want || err != nil {
		t.Errorf("%s: Moved of %v, %v, %d = %d, %v, want %d", name, b, a, features, got, err, want)
	}
}

// checkApart holds two trees to differ in so many pairs, either way round; it gives the rows that came.
func checkApart(t *testing.T, name string, a, b nodes, features, pairs int) [2][]int {
	t.Helper()
	checkMoved(t, name, a, b, features, pairs)
	r, err := differ.Trees(a, b, features)
	if err != nil {
		t.Errorf("%s: Trees of %v, %v, %d: %v", name, a, b, features, err)
		return [2][]int{}
	}
	checkRow(t, name, a, b, features, r)
	other, err := differ.Trees(b, a, features)
	if err != nil {
		t.Errorf("%s: Trees of %v, %v, %d: %v", name, b, a, features, err)
		return [2][]int{}
	}
	checkRow(t, name, b, a, features, other)
	return [2][]int{r, other}
}

// checkOnly holds two trees to differ in one row alone, and in so many pairs.
func checkOnly(t *testing.T, name string, a, b nodes, pairs int, want []int) {
	t.Helper()
	for _, r := range checkApart(t, name, a, b, len(want), pairs) {
		if !slices.Equal(r, want) {
			t.Errorf("%s: %v, %v differ in %v, want %v", name, a, b, r, want)
		}
	}
}

// checkSame holds two trees to differ in nothing, either way round, and these rows to come to the same.
func checkSame(t *testing.T, name string, a, b nodes, features int, rows [][]int) {
	t.Helper()
	checkMoved(t, name, a, b, features, 0)
	if r, err := differ.Trees(a, b, features); r != nil || told(err) != api.ErrNone {
		t.Errorf("%s: Trees of %v, %v, %d = %v, %v, want ErrNone", name, a, b, features, r, err)
	}
	if r, err := differ.Trees(b, a, features); r != nil || told(err) != api.ErrNone {
		t.Errorf("%s: Trees of %v, %v, %d = %v, %v, want ErrNone", name, b, a, features, r, err)
	}
	for _, r := range rows {
		x, err := tree.Eval(a, r)
		y, bad := tree.Eval(b, r)
		if x != y || err != nil || bad != nil {
			t.Fatalf("%s: Evals of %v by %v and %v are %d, %v and %d, %v", name, r, a, b, x, err, y, bad)
		}
	}
}

// checkWrong holds Trees and Moved to an error, and with it to nothing else.
func checkWrong(t *testing.T, name string, a, b nodes, features int, want api.Errno) {
	t.Helper()
	if r, err := differ.Trees(a, b, features); r != nil || told(err) != want {
		t.Errorf("%s: Trees = %v, %v, want %v", name, r, err, want)
	}
	if count, err := differ.Moved(a, b, features); count != 0 || told(err) != want {
		t.Errorf("%s: Moved = %d, %v, want %v", name, count, err, want)
	}
}

// fault is something that is wrong with a tree of three features.
type fault struct {
	name string
	tree nodes
	want api.Errno
}

func faults() []fault {
	return []fault{
		{"64 nodes", append(even(63), leaf(1)), api.ErrFull},
		{"65 nodes", even(65), api.ErrFull},
		{"100000 nodes", make(nodes, 100000), api.ErrFull},
		{"no nodes", nil, api.ErrNone},
		{"an empty list of nodes", nodes{}, api.ErrNone},
		{"a Value beyond", says(end + 1), api.ErrRange},
		{"a Value beyond, below 0", says(-end - 1), api.ErrRange},
		{"a Value far beyond", says(least), api.ErrRange},
		{"a leaf with a Cut", nodes{{Feature: api.Leaf, Cut: 1}}, api.ErrShape},
		{"a leaf with a Left", nodes{{Feature: api.Leaf, Left: 1}}, api.ErrShape},
		{"a leaf with a Right", nodes{{Feature: api.Leaf, Right: 1}}, api.ErrShape},
		{"a leaf with Less", nodes{{Feature: api.Leaf, Less: true}}, api.ErrShape},
		{"a Feature below", small(-2, 0, 1, 2), api.ErrRange},
		{"a Feature beyond", small(3, 0, 1, 2), api.ErrRange},
		{"a Feature far beyond", small(great, 0, 1, 2), api.ErrRange},
		{"a Cut beyond", small(0, end+1, 1, 2), api.ErrRange},
		{"a Cut beyond, below 0", small(0, -end-1, 1, 2), api.ErrRange},
		{"a Cut that is not there", small(0, gone, 1, 2), api.ErrRange},
		{"a Left that is not behind", nodes{ask(0, 0, 0, 1), leaf(1)}, api.ErrRange},
		{"a Right that is not behind", nodes{ask(0, 0, 1, 0), leaf(1)}, api.ErrRange},
		{"a Left ahead", nodes{ask(0, 0, 1, 2), ask(0, 0, 0, 3), leaf(1), leaf(2)}, api.ErrRange},
		{"a Left beyond", nodes{ask(0, 0, 3, 1), leaf(1), leaf(2)}, api.ErrRange},
		{"a Left below", nodes{ask(0, 0, -1, 1), leaf(1), leaf(2)}, api.ErrRange},
		{"a Right far beyond", nodes{ask(0, 0, 1, great), leaf(1), leaf(2)}, api.ErrRange},
		{"one that asks with a Value", nodes{{Left: 1, Right: 2, Value: 1}, leaf(1), leaf(2)}, api.ErrShape},
		{"Left that is Right", nodes{ask(0, 0, 1, 1), leaf(1)}, api.ErrShape},
		{"a leaf that is nobody's", append(small(0, 0, 1, 2), leaf(3)), api.ErrClash},
		{"a leaf that is two's", nodes{ask(0, 0, 1, 2), ask(0, 0, 2, 3), leaf(1), leaf(2)}, api.ErrClash},
		{"too deep", chain(11), api.ErrFull},
		{"a Value beyond where nobody comes", small(0, -end, end+1, 1), api.ErrRange},
		{"a Feature beyond where nobody comes", fork(0, -end, small(3, 0, 1, 2), says(3)), api.ErrRange},
		{"a leaf with Less where nobody comes", nodes{ask(0, -end, 1, 2), {Feature: api.Leaf, Less: true}, leaf(1)}, api.ErrShape},
	}
}

// TestWrong: one tree that is wrong, the other one, and both: what is wrong with the first is told first.
func TestWrong(t *testing.T) {
	for _, f := range faults() {
		if _, err := tree.Check(f.tree, 3); told(err) != f.want {
			t.Errorf("%s: Check = %v, want %v", f.name, err, f.want)
		}
		for _, n := range []nodes{says(1), small(0, 5, 1, 2), two(), smallLess(2, 5, 1, 1), chain(10)} {
			checkWrong(t, "a: "+f.name, f.tree, n, 3, f.want)
			checkWrong(t, "b: "+f.name, n, f.tree, 3, f.want)
		}
		for _, h := range faults() {
			checkWrong(t, "a: "+f.name+"; b: "+h.name, f.tree, h.tree, 3, f.want)
		}
	}
}

// TestWrongFeatures: how many features there are is told of the first tree, behind how many nodes it has; so of the second it is never told.
func TestWrongFeatures(t *testing.T) {
	for _, features := range []int{least, -2, -1, 9, 10, 63, great} {
		for _, n := range []nodes{says(1), small(0, 5, 1, 2), two(), says(end + 1), small(-2, 0, 1, 2), append(small(0, 0, 1, 2), leaf(3)), chain(11)} {
			for _, m := range []nodes{n, says(1), says(2), nil, even(65), says(least)} {
				checkWrong(t, fmt.Sprint(features, " features"), n, m, features, api.ErrRange)
			}
		}
		checkWrong(t, fmt.Sprint(features, " features, no nodes"), nil, says(1), features, api.ErrNone)
		checkWrong(t, fmt.Sprint(features, " features, no nodes, then too many"), nodes{}, even(65), features, api.ErrNone)
		checkWrong(t, fmt.Sprint(features, " features, 65 nodes"), even(65), nil, features, api.ErrFull)
	}
	for asked := range 8 {
		for features := range 9 {
			name := fmt.Sprint("feature ", asked, " of ", features)
			if asked < features {
				checkApart(t, name, small(asked, 0, 1, 2), says(1), features, 1)
				continue
			}
			checkWrong(t, name, small(asked, 0, 1, 2), says(1), features, api.ErrRange)
			checkWrong(t, name, says(1), small(asked, 0, 1, 2), features, api.ErrRange)
			checkWrong(t, name, says(1), small(asked, 0, 1, 1), features, api.ErrRange)
		}
	}
}

// TestNoFeatures: there is one row, without cells.
func TestNoFeatures(t *testing.T) {
	for _, value := range []int{-end, -1, 0, 1, end} {
		for _, other := range []int{-end, -1, 0, 1, end} {
			for features := range 9 {
				name := fmt.Sprint(value, " and ", other, ", features: ", features)
				if value == other {
					checkSame(t, name, says(value), says(other), features, [][]int{make([]int, features)})
				} else {
					checkApart(t, name, says(value), says(other), features, 1)
				}
			}
		}
	}
}

// TestSame: trees that stand otherwise and say the same.
func TestSame(t *testing.T) {
	n := fork(0, 5, smallLess(1, -5, 1, 2), small(1, 0, 3, 4))
	for _, c := range []struct {
		name string
		a, b nodes
	}{
		{"other places", small(0, 5, 1, 2), nodes{ask(0, 5, 2, 1), leaf(2), leaf(1)}},
		{"other places, two levels", fork(0, 5, small(1, 3, 1, 2), says(3)), nodes{ask(0, 5, 2, 1), leaf(3), ask(1, 3, 4, 3), leaf(2), leaf(1)}},
		{"level by level", n, nodes{ask(0, 5, 1, 2), askLess(1, -5, 3, 4), ask(1, 0, 5, 6), leaf(1), leaf(2), leaf(3), leaf(4)}},
		{"a question whose leaves say the same", says(7), small(2, 3, 7, 7)},
		{"one more below", small(0, 5, 1, 2), fork(0, 5, smallLess(1, 9, 1, 1), says(2))},
		{"one ahead whose trees say the same", n, fork(2, 8, n, n)},
		{"one ahead whose trees stand otherwise", small(0, 5, 1, 2), fork(1, 8, small(0, 5, 1, 2), nodes{ask(0, 5, 2, 1), leaf(2), leaf(1)})},
		{"the same question once more", small(0, 5, 1, 2), fork(0, 5, small(0, 5, 1, 9), says(2))},
		{"the same question once more, to Right", smallLess(0, 5, 1, 2), forkLess(0, 5, says(1), smallLess(0, 5, 9, 2))},
		{"a question of a Cut above, Nil elsewhere", small(0, 5, 1, 2), fork(0, 5, small(0, 8, 1, 9), says(2))},
		{"a leaf to which no number and no Nil comes", says(1), small(0, -end, 9, 1)},
		{"a tree to which no row comes", says(1), fork(0, -end, fork(1, 3, small(2, 3, 7, 8), says(9)), says(1))},
		{"nothing between two Cuts", small(0, 5, 1, 2), fork(0, 5, says(1), fork(0, 5, says(9), says(2)))},
		{"leaves to which no row comes in both", fork(0, -end, says(8), small(1, 0, 1, 2)), fork(1, 0, fork(0, -end, says(9), says(1)), says(2))},
		{"another order", fork(0, 5, small(1, 3, 1, 2), small(1, 3, 3, 4)), fork(1, 3, small(0, 5, 1, 3), small(0, 5, 2, 4))},
		{"another order, Less", forkLess(0, 5, small(1, 3, 1, 2), small(1, 3, 3, 4)), fork(1, 3, smallLess(0, 5, 1, 3), smallLess(0, 5, 2, 4))},
		{"another order of one feature", fork(0, 5, small(0, 3, 1, 2), says(3)), fork(0, 3, says(1), small(0, 5, 2, 3))},
		{"another order of one feature, Less", forkLess(0, 3, says(1), small(0, 5, 2, 3)), forkLess(0, 5, smallLess(0, 3, 1, 2), says(3))},
		{"three Cuts, from either end", fork(0, 1, says(1), fork(0, 2, says(2), small(0, 3, 3, 4))), fork(0, 3, fork(0, 2, small(0, 1, 1, 2), says(3)), says(4))},
		{"Less where Nil has gone", fork(0, 5, small(0, 3, 1, 2), says(3)), fork(0, 5, smallLess(0, 3, 1, 2), says(3))},
	} {
		for _, features := range []int{3, 4} {
			checkSame(t, c.name, c.a, c.b, features, allRows(c.a, c.b, features))
			checkSame(t, c.name+", against itself", c.b, c.b, features, nil)
		}
	}
}

// TestItself: a tree does not differ from itself, nor from a copy.
func TestItself(t *testing.T) {
	for _, n := range []nodes{says(-end), small(7, 0, 1, 2), two(), even(31), even(63), chain(10), level([]int{0, 1, 2, 3, 4}, 0, 0)} {
		checkSame(t, "itself", n, n, 8, nil)
		checkSame(t, "a copy", n, slices.Clone(n), 8, nil)
	}
	var s noise = 1
	for range 300 {
		features := s.below(9)
		n := s.good(31, features)
		checkSame(t, "itself", n, n, features, s.someRows(n, n, features, 5))
		checkSame(t, "a copy", n, slices.Clone(n), features, nil)
	}
}

// TestManySame: trees at other places, with a question more, pruned, and all of that: nothing differs, also where rows are tried one by one.
func TestManySame(t *testing.T) {
	var s noise = 2
	for range 400 {
		features := 1 + s.below(8)
		n := s.good(25, features)
		checkSame(t, "other places", n, s.shuffled(n), features, s.someRows(n, n, features, 20))
		long := s.longer(n, features)
		for range 5 {
			if next := s.longer(long, features); isTree(next, features) {
				long = next
			}
		}
		if !isTree(long, features) {
			continue
		}
		checkSame(t, "questions more", n, long, features, s.someRows(n, long, features, 20))
		checkSame(t, "questions more at other places", n, s.shuffled(long), features, nil)
		short, err := prune.Tree(long, features)
		if err != nil {
			t.Fatal(err)
		}
		checkSame(t, "pruned", short, long, features, s.someRows(short, long, features, 20))
		if features < 4 {
			checkSame(t, "all rows", n, long, features, allRows(n, long, features))
		}
		if t.Failed() {
			t.FailNow()
		}
	}
}

// edges are cells at and by the ends, and some between.
func edges() []int { return []int{-end, -end + 1, -2, -1, 0, 1, 5, end - 1, end} }

// just says one value of rows with just this cell, and another of all others.
func just(feature, cell, value, other int) nodes {
	if cell == gone {
		return smallLess(feature, -end, value, other)
	}
	if cell == end {
		return smallLess(feature, end, other, value)
	}
	return forkLess(feature, cell, says(other), small(feature, cell+1, value, other))
}

// TestOneCell: trees that differ in one cell alone.
func TestOneCell(t *testing.T) {
	for _, cell := range append(edges(), gone) {
		name := fmt.Sprint("just ", cell)
		checkOnly(t, name, says(1), just(0, cell, 2, 1), 1, []int{cell})
		checkOnly(t, name+", both ask", small(0, 5, 1, 1), just(0, cell, 2, 1), 1, []int{cell})
		for feature := range 8 {
			r := checkApart(t, name, says(1), just(feature, cell, 2, 1), 8, 1)[0]
			if r[feature] != cell {
				t.Errorf("%s of feature %d: %v", name, feature, r)
			}
		}
	}
}

// TestByACut: Cuts that are one apart differ in the number between them; and what is one below a Cut is not at it.
func TestByACut(t *testing.T) {
	for _, cut := range edges() {
		if cut == end {
			continue
		}
		name := fmt.Sprint("Cuts at ", cut, " and one above")
		checkOnly(t, name, small(0, cut, 1, 2), small(0, cut+1, 1, 2), 1, []int{cut})
		checkOnly(t, name+", Less", smallLess(0, cut, 1, 2), smallLess(0, cut+1, 1, 2), 1, []int{cut})
		below := fork(0, cut, says(1), fork(0, cut+1, says(1), says(2)))
		checkOnly(t, name+", one leaf more", small(0, cut, 1, 2), below, 1, []int{cut})
		checkSame(t, name+", one leaf more", small(0, cut+1, 1, 2), below, 1, allRows(below, below, 1))
	}
	checkOnly(t, "a Cut and the highest", fork(0, end, says(1), says(2)), fork(0, end-1, says(1), small(0, end, 2, 2)), 1, []int{end - 1})
	checkOnly(t, "the lowest Cut, and one above", smallLess(0, -end, 1, 2), smallLess(0, -end+1, 1, 2), 1, []int{-end})
}

// TestNotThere: trees that differ only where a cell is not there.
func TestNotThere(t *testing.T) {
	for _, cut := range edges() {
		name := fmt.Sprint("Less at ", cut)
		checkOnly(t, name, small(0, cut, 1, 2), smallLess(0, cut, 1, 2), 1, []int{gone})
	}
	// What is not there is no number, however low.
	checkOnly(t, "below the lowest", says(1), smallLess(0, -end, 2, 1), 1, []int{gone})
	checkSame(t, "below the lowest, but not Less", says(1), small(0, -end, 2, 1), 1, [][]int{{gone}, {-end}, {end}})
	both := forkLess(0, -end, smallLess(1, -end, 2, 1), says(1))
	checkOnly(t, "two cells that are not there", says(1), both, 1, []int{gone, gone})
	checkOnly(t, "one of two that are not there", smallLess(0, -end, 1, 3), forkLess(0, -end, just(1, 7, 2, 1), says(3)), 1, []int{gone, 7})
	checkOnly(t, "not there, once more", forkLess(0, 5, smallLess(0, 5, 1, 9), says(2)), forkLess(0, 5, small(0, 5, 1, 9), says(2)), 1, []int{gone})
}

// must gives the one cell that allOf lets by.
func must(feature int) int { return []int{end, -end, gone}[feature%3] }

// musts gives the one row of them.
func musts(count int) []int {
	r := make([]int, count)
	for i := range r {
		r[i] = must(i)
	}
	return r
}

// allOf asks of each of some features whether its cell is as it must be, and goes on to a tree if all of them are.
func allOf(features []int, n nodes, other int) nodes {
	for _, feature := range slices.Backward(features) {
		switch must(feature) {
		case end:
			n = forkLess(feature, end, says(other), n)
		case -end:
			n = fork(feature, -end+1, n, says(other))
		case gone:
			n = forkLess(feature, -end, n, says(other))
		}
	}
	return n
}

// TestSeveralCells: trees that differ only where several cells are at once as they must be.
func TestSeveralCells(t *testing.T) {
	order := []int{0, 1, 2, 3, 4, 5, 6, 7}
	for count := range 9 {
		n := allOf(order[:count], says(2), 1)
		back := slices.Clone(order[:count])
		slices.Reverse(back)
		other := allOf(back, says(2), 1)
		checkOnly(t, fmt.Sprint(count, " cells"), says(1), n, 1, musts(count))
		checkSame(t, fmt.Sprint(count, " cells, asked in another order"), n, other, count, [][]int{musts(count), make([]int, count)})
		checkOnly(t, fmt.Sprint(count, " cells, asked in another order, another Value"), n, allOf(back, says(3), 1), 1, musts(count))
		half := count / 2
		some, rest := order[:half], order[half:count]
		checkOnly(t, fmt.Sprint(count, " cells, of which the one asks for ", half), allOf(some, says(2), 1), allOf(some, allOf(rest, says(3), 2), 1), 1, musts(count))
		checkOnly(t, fmt.Sprint(count, " cells, the first ", half, " behind"), allOf(rest, says(2), 1), allOf(rest, allOf(some, says(3), 2), 1), 1, musts(count))
	}
}

// TestOneValue: one leaf that says something else; the row comes to it, and there is none if no row does.
func TestOneValue(t *testing.T) {
	for _, n := range []nodes{says(3), two(), even(31), even(63), chain(10), level([]int{3, 1, 0, 2}, 7, -8), smallLess(0, -end, 1, 2), small(0, -end, 1, 2)} {
		reached, err := path.Reach(n, 8)
		if err != nil {
			t.Fatal(err)
		}
		for at, q := range n {
			if q.Feature != api.Leaf {
				continue
			}
			for _, value := range []int{q.Value - 1, q.Value + 1, -end, end} {
				name := fmt.Sprint(value, " at ", at)
				other := saying(n, at, value)
				if !slices.Contains(reached, at) {
					checkSame(t, name, n, other, 8, nil)
					continue
				}
				for _, r := range checkApart(t, name, n, other, 8, 1) {
					if r != nil && comesTo(n, r) != at {
						t.Errorf("%s: %v comes to %d of %v", name, r, comesTo(n, r), n)
					}
				}
			}
		}
	}
}

// TestMoved: how many pairs there are.
func TestMoved(t *testing.T) {
	for _, c := range []struct {
		name  string
		a, b  nodes
		pairs int
	}{
		{"two leaves", says(1), says(2), 1},
		{"a leaf and two others", says(1), small(0, 5, 2, 3), 2},
		{"a leaf and two others that say the same", says(1), small(0, 5, 2, 2), 2},
		{"a leaf and two, one of them the same", says(1), small(0, 5, 1, 3), 1},
		{"one Cut", small(0, 5, 1, 2), small(0, 5, 3, 4), 2},
		{"one Cut, turned", small(0, 5, 1, 2), small(0, 5, 2, 1), 2},
		{"two Cuts", small(0, 5, 1, 2), small(0, 8, 3, 4), 3},
		{"two Cuts, the same Values", small(0, 5, 1, 2), small(0, 8, 1, 2), 1},
		{"two Cuts, turned", small(0, 5, 1, 2), small(0, 8, 2, 1), 2},
		{"one Cut, Nil elsewhere", small(0, 5, 1, 2), smallLess(0, 5, 3, 4), 3},
		{"two Cuts, Nil elsewhere", small(0, 5, 1, 2), smallLess(0, 8, 3, 4), 3},
		{"two Cuts, Nil elsewhere, the other way", smallLess(0, 5, 1, 2), small(0, 8, 3, 4), 4},
		{"two features", small(0, 5, 1, 2), small(1, 5, 3, 4), 4},
		{"two features, the same Values", small(0, 5, 1, 2), small(1, 5, 1, 2), 2},
		{"two features, one Value", small(0, 5, 1, 1), small(1, 5, 1, 1), 0},
		{"only Nil comes to Left", smallLess(0, -end, 1, 2), smallLess(0, -end, 3, 4), 2},
		{"only Nil comes to Left, or nothing", smallLess(0, -end, 1, 2), small(0, -end, 3, 4), 2},
		{"nothing comes to Left", small(0, -end, 1, 2), small(0, -end, 3, 4), 1},
		{"nothing comes to Left, of another feature", small(0, -end, 1, 2), small(1, -end, 3, 4), 1},
		{"nothing comes to Left of the one", small(0, -end, 1, 2), small(0, 5, 3, 4), 2},
		{"a leaf to which no row comes", says(1), fork(0, 5, says(1), fork(0, 5, says(9), says(1))), 0},
		{"only the highest comes to Right", small(0, end, 1, 2), small(0, end, 3, 4), 2},
		{"only the highest and Nil, or the highest", small(0, end, 1, 2), smallLess(0, end, 3, 4), 3},
		{"all of 256", level([]int{0, 1, 2, 3}, 0, 0), level([]int{4, 5, 6, 7}, 9, 16), 256},
		{"256 less those with the same Value", level([]int{0, 1, 2, 3}, 0, 0), level([]int{4, 5, 6, 7}, 9, 0), 240},
		{"32 of 32 and 32", level([]int{0, 1, 2, 3, 4}, 0, 0), level([]int{4, 3, 2, 1, 0}, 0, 32), 32},
	} {
		checkMoved(t, c.name, c.a, c.b, 8, c.pairs)
		if got := walkedMoved(c.a, c.b, 8); got != c.pairs {
			t.Errorf("%s: %d pairs come when both trees are walked, want %d", c.name, got, c.pairs)
		}
		checkMoved(t, c.name+", the one against itself", c.a, c.a, 8, 0)
		checkMoved(t, c.name+", the other against itself", c.b, c.b, 8, 0)
		if c.pairs > 0 {
			checkApart(t, c.name, c.a, c.b, 8, c.pairs)
		} else {
			checkSame(t, c.name, c.a, c.b, 8, nil)
		}
	}
}

// checkCounted holds two trees to differ in so many pairs, or to be the same if there are none.
func checkCounted(t *testing.T, name string, a, b nodes, features, pairs int, rows [][]int) {
	t.Helper()
	if pairs > 0 {
		checkApart(t, name, a, b, features, pairs)
	} else {
		checkSame(t, name, a, b, features, rows)
	}
}

// TestAgainstTrying: many small trees, all rows tried one by one.
func TestAgainstTrying(t *testing.T) {
	var s noise = 3
	same, apart := 0, 0
	for range 1500 {
		features := s.below(4)
		a, b := s.good(4, features), s.good(4, features)
		pairs := triedMoved(a, b, features)
		if walked := walkedMoved(a, b, features); walked != pairs {
			t.Fatalf("%v, %v: %d pairs when walked, %d when tried", a, b, walked, pairs)
		}
		checkCounted(t, "small", a, b, features, pairs, allRows(a, b, features))
		if pairs == 0 {
			same++
		} else {
			apart++
		}
		if t.Failed() {
			t.FailNow()
		}
	}
	if same < 20 || apart < 20 {
		t.Errorf("%d are the same and %d differ: one kind is hardly tried", same, apart)
	}
}

// TestAgainstWalking: trees of up to 63 nodes and eight features, one against another, and one against itself with one thing changed.
func TestAgainstWalking(t *testing.T) {
	var s noise = 4
	for range 300 {
		features := 1 + s.below(8)
		a, b := s.good(31, features), s.good(31, features)
		checkCounted(t, "wide", a, b, features, walkedMoved(a, b, features), s.someRows(a, b, features, 20))
		for range 3 {
			c := s.shuffled(a)
			s.touch(c, features)
			checkCounted(t, "one thing changed", a, c, features, walkedMoved(a, c, features), s.someRows(a, c, features, 20))
		}
		if t.Failed() {
			t.FailNow()
		}
	}
}

// touch changes one thing of a tree, which stays right.
func (s *noise) touch(n nodes, features int) {
	q := &n[s.below(len(n))]
	switch {
	case q.Feature == api.Leaf:
		q.Value = s.value()
	case s.below(3) == 0:
		q.Less = !q.Less
	case s.below(2) == 0:
		q.Feature = s.below(features)
	default:
		q.Cut = s.cut()
	}
}

// checkGroves holds Groves to a place, either way round.
func checkGroves(t *testing.T, name string, a, b api.Grove, place int) {
	t.Helper()
	if got, err := differ.Groves(a, b); got != place || err != nil {
		t.Errorf("%s: Groves of %v, %v = %d, %v, want %d", name, a, b, got, err, place)
	}
	if got, err := differ.Groves(b, a); got != place || err != nil {
		t.Errorf("%s: Groves of %v, %v = %d, %v, want %d", name, b, a, got, err, place)
	}
}

// checkNoGroves holds Groves to an error, and with it to nothing else.
func checkNoGroves(t *testing.T, name string, a, b api.Grove, want api.Errno) {
	t.Helper()
	if got, err := differ.Groves(a, b); got != 0 || told(err) != want {
		t.Errorf("%s: Groves = %d, %v, want %v", name, got, err, want)
	}
}

// flaw is something that is wrong with a grove of three trees and three features.
type flaw struct {
	name   string
	change func(g *api.Grove)
	want   api.Errno
}

func flaws() []flaw {
	l := []flaw{
		{"Features -1", func(g *api.Grove) { g.Features = -1 }, api.ErrRange},
		{"Features 9", func(g *api.Grove) { g.Features = 9 }, api.ErrRange},
		{"Features far beyond", func(g *api.Grove) { g.Features = great }, api.ErrRange},
		{"Features far below", func(g *api.Grove) { g.Features = least }, api.ErrRange},
		{"Features too few for what is asked", func(g *api.Grove) { g.Features = 2 }, api.ErrRange},
		{"Way 0", func(g *api.Grove) { g.Way = 0 }, api.ErrRange},
		{"Way 4", func(g *api.Grove) { g.Way = 4 }, api.ErrRange},
		{"Way far below", func(g *api.Grove) { g.Way = least }, api.ErrRange},
		{"no trees", func(g *api.Grove) { g.Trees = nil }, api.ErrNone},
		{"no trees and no Weights", func(g *api.Grove) { g.Trees, g.Weights = nil, nil }, api.ErrNone},
		{"13 trees", func(g *api.Grove) { g.Trees, g.Weights = slices.Repeat([]nodes{says(1)}, 13), ones(13) }, api.ErrFull},
		{"100000 trees", func(g *api.Grove) { g.Trees, g.Weights = make([]nodes, 100000), nil }, api.ErrFull},
		{"no Weights", func(g *api.Grove) { g.Weights = nil }, api.ErrShape},
		{"a Weight too few", func(g *api.Grove) { g.Weights = g.Weights[1:] }, api.ErrShape},
		{"a Weight too many", func(g *api.Grove) { g.Weights = append(g.Weights, 1) }, api.ErrShape},
		{"the first Weight 0", func(g *api.Grove) { g.Weights[0] = 0 }, api.ErrRange},
		{"a Weight below 0", func(g *api.Grove) { g.Weights[1] = least }, api.ErrRange},
		{"the last Weight 1001", func(g *api.Grove) { g.Weights[len(g.Weights)-1] = 1001 }, api.ErrRange},
	}
	for _, f := range faults() {
		for place := range 3 {
			l = append(l, flaw{fmt.Sprint(f.name, " at ", place), func(g *api.Grove) { g.Trees[place] = f.tree }, f.want})
		}
	}
	return l
}

// shapes are groves that are right, and are or are not of the shape of three.
func shapes(way int) []api.Grove {
	g := three(way)
	return []api.Grove{
		g,
		changed(g, func(g *api.Grove) { g.Weights[0] = 9 }),
		changed(g, func(g *api.Grove) { g.Trees[0] = says(1) }),
		changed(g, func(g *api.Grove) { g.Features = 4 }),
		changed(g, func(g *api.Grove) { g.Way = way%3 + 1 }),
		changed(g, func(g *api.Grove) { g.Trees, g.Weights = g.Trees[:2], g.Weights[:2] }),
		wood(0, way, ones(12), slices.Repeat([]nodes{says(1)}, 12)...),
	}
}

// TestGrovesOfWrong: what is wrong with the first is told first, then what is wrong with the second, and only then how they differ.
func TestGrovesOfWrong(t *testing.T) {
	for _, way := range ways() {
		for _, f := range flaws() {
			wrong := changed(three(way), f.change)
			if err := grove.Check(wrong); told(err) != f.want {
				t.Errorf("%s: Check = %v, want %v", f.name, err, f.want)
			}
			for _, g := range shapes(way) {
				checkNoGroves(t, "a: "+f.name, wrong, g, f.want)
				checkNoGroves(t, "b: "+f.name, g, wrong, f.want)
			}
			checkNoGroves(t, "a: "+f.name+"; b: nothing at all", wrong, api.Grove{}, f.want)
			checkNoGroves(t, "a: nothing at all; b: "+f.name, api.Grove{}, wrong, api.ErrRange)
		}
	}
	for _, f := range flaws() {
		for _, h := range flaws() {
			a, b := changed(three(api.Sum), f.change), changed(three(api.Vote), h.change)
			checkNoGroves(t, "a: "+f.name+"; b: "+h.name, a, b, f.want)
		}
	}
}

// TestGrovesOfTwoFlaws: of two things that are wrong with one grove the one is told that Check tells.
func TestGrovesOfTwoFlaws(t *testing.T) {
	for _, f := range flaws()[:18] {
		for _, h := range flaws()[:18] {
			g := copied(three(api.Mean))
			f.change(&g)
			if len(g.Weights) == 0 {
				continue
			}
			h.change(&g)
			want := told(grove.Check(g))
			if want == none {
				continue
			}
			checkNoGroves(t, "a: "+f.name+", "+h.name, g, three(api.Mean), want)
			checkNoGroves(t, "b: "+f.name+", "+h.name, three(api.Mean), g, want)
		}
	}
}

// TestGrovesOfOtherShape: groves that differ in Features, Way or how many trees, whatever their Weights and trees are.
func TestGrovesOfOtherShape(t *testing.T) {
	for _, way := range ways() {
		for kinds := 1; kinds < 8; kinds++ {
			for _, also := range []func(g *api.Grove){
				func(*api.Grove) {},
				func(g *api.Grove) { g.Weights[0] = 1000 },
				func(g *api.Grove) { g.Trees[0] = says(7) },
				func(g *api.Grove) { g.Weights[1], g.Trees[0] = 7, small(2, 2, 2, 2) },
				func(g *api.Grove) { g.Trees[len(g.Trees)-1] = says(end) },
			} {
				for _, count := range []int{1, 2, 4, 12} {
					a := three(way)
					b := changed(a, func(g *api.Grove) {
						if kinds&1 != 0 {
							g.Features = 8
						}
						if kinds&2 != 0 {
							g.Way = way%3 + 1
						}
						if kinds&4 != 0 {
							g.Trees = slices.Repeat(g.Trees, 4)[:count]
							g.Weights = slices.Repeat(g.Weights, 4)[:count]
						}
						if len(g.Trees) > 1 {
							also(g)
						}
					})
					name := fmt.Sprint("kinds ", kinds, ", trees ", count)
					checkNoGroves(t, name, a, b, api.ErrShape)
					checkNoGroves(t, name, b, a, api.ErrShape)
				}
			}
		}
	}
	leaves := wood(0, api.Sum, ones(1), says(1))
	for features := 1; features < 9; features++ {
		other := wood(features, api.Sum, ones(1), says(1))
		checkNoGroves(t, "features alone", leaves, other, api.ErrShape)
		checkNoGroves(t, "features alone", other, leaves, api.ErrShape)
	}
}

// twelve trees that are right, of eight features.
func twelve(way int) api.Grove {
	g := api.Grove{Features: 8, Way: way}
	for i := range 12 {
		g.Weights = append(g.Weights, 1+i*90)
		g.Trees = append(g.Trees, fork(i%8, i, smallLess((i+3)%8, -i, 1, 2), says(i)))
	}
	return g
}

// TestGrovesAtAPlace: a Weight that differs, a tree, both, and two of them; the first is told.
func TestGrovesAtAPlace(t *testing.T) {
	kinds := []func(g *api.Grove, place int){
		func(g *api.Grove, place int) { g.Weights[place]++ },
		func(g *api.Grove, place int) { g.Weights[place] = 1000 },
		func(g *api.Grove, place int) { g.Trees[place] = says(77) },
		func(g *api.Grove, place int) { g.Trees[place][2].Feature = api.Leaf; g.Trees[place][2].Value = 78 },
		func(g *api.Grove, place int) { g.Trees[place][0].Less = true },
		func(g *api.Grove, place int) { g.Trees[place][0].Cut++ },
		func(g *api.Grove, place int) { g.Weights[place], g.Trees[place] = 2, says(3) },
	}
	for _, way := range ways() {
		a := twelve(way)
		for i, change := range kinds {
			for place := range 12 {
				b := changed(a, func(g *api.Grove) { change(g, place) })
				checkGroves(t, fmt.Sprint("kind ", i, " at ", place), a, b, place)
				for further := place + 1; further < 12; further += 2 {
					for j, other := range kinds {
						c := changed(b, func(g *api.Grove) { other(g, further) })
						checkGroves(t, fmt.Sprint("kind ", i, " at ", place, ", kind ", j, " at ", further), a, c, place)
					}
				}
			}
		}
		all := changed(a, func(g *api.Grove) {
			for place := range 12 {
				g.Weights[place], g.Trees[place] = 13, says(99)
			}
		})
		checkGroves(t, "all", a, all, 0)
	}
}

// TestGrovesThatSayTheSame: they are told by their trees and Weights, place by place, not by what they say together.
func TestGrovesThatSayTheSame(t *testing.T) {
	a := wood(1, api.Mean, []int{2, 2}, small(0, 5, 1, 2), says(7))
	checkGroves(t, "the trees in another order", a, wood(1, api.Mean, []int{2, 2}, says(7), small(0, 5, 1, 2)), 0)
	checkGroves(t, "Weights half as great", a, wood(1, api.Mean, []int{1, 1}, small(0, 5, 1, 2), says(7)), 0)
	b := wood(0, api.Sum, []int{1, 1, 1}, says(1), says(2), says(0))
	checkGroves(t, "the same sum", b, wood(0, api.Sum, []int{1, 1, 1}, says(1), says(0), says(2)), 1)
	checkGroves(t, "a Weight of a tree that says 0", b, wood(0, api.Sum, []int{1, 1, 2}, says(1), says(2), says(0)), 2)
	c := wood(0, api.Vote, []int{9, 1}, says(1), says(2))
	checkGroves(t, "a vote that counts little", c, wood(0, api.Vote, []int{9, 1}, says(1), says(3)), 1)
}

// TestGrovesThatDifferInOneCell: what Trees tells, of a tree of a grove.
func TestGrovesThatDifferInOneCell(t *testing.T) {
	for _, cell := range append(edges(), gone) {
		for place := range 3 {
			a := wood(3, api.Vote, ones(3), says(1), says(1), says(1))
			b := changed(a, func(g *api.Grove) { g.Trees[place] = just(2, cell, 2, 1) })
			checkGroves(t, fmt.Sprint("just ", cell, " at ", place), a, b, place)
			c := changed(a, func(g *api.Grove) { g.Trees[place] = just(2, cell, 1, 1) })
			checkNoGroves(t, fmt.Sprint(cell, " at ", place, " says the same"), a, c, api.ErrNone)
			checkGroves(t, fmt.Sprint("just ", cell, " at ", place, ", both ask"), b, c, place)
		}
	}
}

// TestGrovesOfOneShape: a grove against itself, laid flat, pruned, and with trees that stand otherwise.
func TestGrovesOfOneShape(t *testing.T) {
	var s noise = 5
	for _, way := range ways() {
		groves := append(shapes(way), twelve(way), wood(8, way, []int{1000}, even(63)))
		for range 20 {
			groves = append(groves, s.grove(s.below(9), way))
		}
		for _, g := range groves {
			checkNoGroves(t, "itself", g, g, api.ErrNone)
			checkNoGroves(t, "a copy", g, copied(g), api.ErrNone)
			f, err := flat.New(g)
			if err != nil {
				t.Fatal(err)
			}
			short, err := prune.Grove(g)
			if err != nil {
				t.Fatal(err)
			}
			otherwise := changed(g, func(g *api.Grove) {
				for i, n := range g.Trees {
					g.Trees[i] = s.shuffled(n)
				}
			})
			for _, b := range []api.Grove{f.Grove(), short, otherwise} {
				checkNoGroves(t, "otherwise", g, b, api.ErrNone)
				checkNoGroves(t, "otherwise", b, g, api.ErrNone)
			}
		}
	}
}

// grove of at most twelve trees.
func (s *noise) grove(features, way int) api.Grove {
	g := api.Grove{Features: features, Way: way}
	for range 1 + s.below(12) {
		g.Weights = append(g.Weights, 1+s.below(1000))
		g.Trees = append(g.Trees, s.good(12, features))
	}
	return g
}

// plainGroves gives the first place that differs, each tree by walking; -1, if there is none.
func plainGroves(a, b api.Grove) int {
	for i := range a.Trees {
		if a.Weights[i] != b.Weights[i] || walkedMoved(a.Trees[i], b.Trees[i], a.Features) > 0 {
			return i
		}
	}
	return -1
}

// TestGrovesAgainstPlain: many groves, with a few things changed, some of which change nothing that is said.
func TestGrovesAgainstPlain(t *testing.T) {
	var s noise = 6
	seen := map[int]int{}
	for range 400 {
		features := s.below(9)
		a := s.grove(features, ways()[s.below(3)])
		b := changed(a, func(g *api.Grove) {
			for range s.below(3) {
				place := s.below(len(g.Trees))
				if s.below(4) == 0 {
					g.Weights[place] = 1 + s.below(1000)
				} else if features > 0 {
					s.touch(g.Trees[place], features)
				}
			}
		})
		want := plainGroves(a, b)
		seen[want]++
		if want < 0 {
			checkNoGroves(t, "many", a, b, api.ErrNone)
			checkNoGroves(t, "many", b, a, api.ErrNone)
		} else {
			checkGroves(t, "many", a, b, want)
		}
	}
	if seen[-1] < 20 || seen[0] < 20 || seen[5] == 0 {
		t.Errorf("these places came so often: %v", seen)
	}
}

// guarded gives a list with memory behind its length, and all of that memory.
func guarded[T any](l []T, behind T) (list, all []T) {
	all = append(slices.Clone(l), slices.Repeat([]T{behind}, 8)...)
	return all[:len(l)], all
}

// manyTrees gives trees that are right and trees that are not.
func manyTrees() []nodes {
	l := []nodes{says(1), small(0, 5, 1, 2), smallLess(2, 5, 2, 2), two(), even(63), chain(10)}
	for _, f := range faults() {
		if len(f.tree) < 1000 {
			l = append(l, f.tree)
		}
	}
	return l
}

// TestTreesStay: what is handed in, and what stands behind it, is as it was, and what stands behind it is not read.
func TestTreesStay(t *testing.T) {
	for _, a := range manyTrees() {
		for _, b := range manyTrees() {
			for _, features := range []int{-1, 0, 3, 8} {
				x, allX := guarded(a, leaf(great))
				y, allY := guarded(b, leaf(great))
				wasX, wasY := slices.Clone(allX), slices.Clone(allY)
				r, err := differ.Trees(x, y, features)
				count, bad := differ.Moved(x, y, features)
				if !slices.Equal(allX, wasX) || !slices.Equal(allY, wasY) {
					t.Fatalf("%v, %v were written into", a, b)
				}
				want, wrong := differ.Trees(a, b, features)
				pairs, ill := differ.Moved(a, b, features)
				if !slices.Equal(r, want) || told(err) != told(wrong) || count != pairs || told(bad) != told(ill) {
					t.Fatalf("%v, %v, %d with memory behind: %v, %v, %d, %v, want %v, %v, %d, %v", a, b, features, r, err, count, bad, want, wrong, pairs, ill)
				}
			}
		}
	}
}

// TestGrovesStay: the same of groves.
func TestGrovesStay(t *testing.T) {
	groves := append(shapes(api.Mean), api.Grove{})
	for _, f := range flaws() {
		if g := changed(three(api.Mean), f.change); len(g.Trees) < 1000 {
			groves = append(groves, g)
		}
	}
	for _, c := range groves {
		for _, other := range append(shapes(api.Mean), groves[len(groves)-1]) {
			a, b := copied(c), copied(other)
			weights, allWeights := guarded(c.Weights, 5)
			trees, allTrees := guarded(a.Trees, says(great))
			wasWeights := slices.Clone(allWeights)
			wasTrees := copied(api.Grove{Trees: allTrees}).Trees
			a.Weights, a.Trees = weights, trees
			place, err := differ.Groves(a, b)
			back, bad := differ.Groves(b, a)
			if !slices.Equal(allWeights, wasWeights) || !slices.EqualFunc(allTrees, wasTrees, slices.Equal[nodes]) {
				t.Fatalf("%v was written into, beside %v", c, other)
			}
			if !slices.Equal(b.Weights, other.Weights) || !slices.EqualFunc(b.Trees, other.Trees, slices.Equal[nodes]) {
				t.Fatalf("%v was written into, beside %v", other, c)
			}
			want, wrong := differ.Groves(c, other)
			wantBack, ill := differ.Groves(other, c)
			if place != want || told(err) != told(wrong) || back != wantBack || told(bad) != told(ill) {
				t.Fatalf("%v, %v with memory behind: %d, %v and %d, %v", c, other, place, err, back, bad)
			}
		}
	}
}

// scribble writes into all the memory of a list, also behind its length.
func scribble[T any](l []T, x T) {
	for i := range l[:cap(l)] {
		l[:cap(l)][i] = x
	}
}

// TestFresh: changing what came changes nothing of what was handed in, nor of what comes next, nor the other way round.
func TestFresh(t *testing.T) {
	var s noise = 7
	for range 200 {
		features := s.below(9)
		a, b := s.good(15, features), s.good(15, features)
		x, y := slices.Clone(a), slices.Clone(b)
		r, err := differ.Trees(x, y, features)
		if err != nil {
			continue
		}
		want := slices.Clone(r)
		scribble(r, 77)
		if !slices.Equal(x, a) || !slices.Equal(y, b) {
			t.Fatalf("%v, %v changed as the row was written into", a, b)
		}
		r, err = differ.Trees(x, y, features)
		if !slices.Equal(r, want) || err != nil {
			t.Fatalf("Trees of %v, %v is %v, %v then, want %v", a, b, r, err, want)
		}
		scribble(x, leaf(78))
		scribble(y, leaf(79))
		if !slices.Equal(r, want) {
			t.Fatalf("the row of %v, %v is %v, as these were written into, want %v", a, b, r, want)
		}
	}
}

// TestAlike: one list handed in twice, as both trees or as several of a grove.
func TestAlike(t *testing.T) {
	n := two()
	checkSame(t, "one list", n, n, 3, nil)
	g := wood(3, api.Sum, ones(3), n, n, n)
	checkNoGroves(t, "one list", g, g, api.ErrNone)
	other := changed(g, func(g *api.Grove) { g.Trees[1] = says(1) })
	checkGroves(t, "one list, but for one", g, other, 1)
}
