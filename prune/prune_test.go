package prune_test

import (
	"errors"
	"fmt"
	"math"
	"reflect"
	"slices"
	"testing"

	"orchardry/api"
	"orchardry/grove"
	"orchardry/path"
	"orchardry/prune"
	"orchardry/tree"
)

const (
	end   = api.MaxCell
	gone  = api.Nil
	least = math.MinInt
	great = math.MaxInt
)

// none stands for an error that is nil.
const none = api.OK

// told gives what an error tells; -1, if it is none of the program's, or OK, which no error may be.
func told(err error) api.Errno {
	var e api.Errno
	switch {
	case err == nil:
		return none
	case errors.As(err, &e) && e != api.OK:
		return e
	}
	return -1
}

// nodes of a tree.
type nodes = []api.Node

// twig is a node with all below it, wherever that stands. It is never changed.
type twig struct {
	node        api.Node
	left, right *twig
}

// says is a leaf.
func says(value int) *twig { return &twig{node: api.Node{Feature: api.Leaf, Value: value}} }

// ask whether a feature is below a cut; what is not there goes to Right.
func ask(feature, cut int, left, right *twig) *twig {
	return &twig{api.Node{Feature: feature, Cut: cut}, left, right}
}

// askLess is ask, but what is not there goes to Left.
func askLess(feature, cut int, left, right *twig) *twig {
	return asking(feature, cut, true, left, right)
}

func asking(feature, cut int, less bool, left, right *twig) *twig {
	return &twig{api.Node{Feature: feature, Cut: cut, Less: less}, left, right}
}

func (w *twig) isLeaf() bool { return w.node.Feature == api.Leaf }

func (w *twig) size() int {
	if w.isLeaf() {
		return 1
	}
	return 1 + w.left.size() + w.right.size()
}

// moved gives nodes as they are with so many others ahead of them.
func moved(l nodes, by int) nodes {
	l = slices.Clone(l)
	for i, n := range l {
		if n.Feature != api.Leaf {
			l[i].Left, l[i].Right = n.Left+by, n.Right+by
		}
	}
	return l
}

// lay gives the nodes in the order of Sort, put together from those of both sides.
func (w *twig) lay() nodes {
	if w.isLeaf() {
		return nodes{w.node}
	}
	l, r := w.left.lay(), w.right.lay()
	n := w.node
	n.Left, n.Right = 1, 1+len(l)
	return slices.Concat(nodes{n}, moved(l, 1), moved(r, 1+len(l)))
}

// layBy gives the nodes in an order in which what is below stands behind: pick tells which of those that may stand next does. Those that were so first stand first, Left ahead of Right.
func (w *twig) layBy(pick func(ready []*twig) int) nodes {
	var order []*twig
	place := map[*twig]int{}
	ready := []*twig{w}
	for len(ready) > 0 {
		which := pick(ready)
		next := ready[which]
		ready = slices.Delete(ready, which, which+1)
		place[next] = len(order)
		order = append(order, next)
		if !next.isLeaf() {
			ready = append(ready, next.left, next.right)
		}
	}
	l := make(nodes, len(order))
	for i, x := range order {
		l[i] = x.node
		if !x.isLeaf() {
			l[i].Left, l[i].Right = place[x.left], place[x.right]
		}
	}
	return l
}

// apart gives the same with no twig in two places, so that each has a place of its own.
func (w *twig) apart() *twig {
	if w.isLeaf() {
		return &twig{node: w.node}
	}
	return &twig{w.node, w.left.apart(), w.right.apart()}
}

// lays gives the nodes in many orders: that of Sort, level by level, turned round below, leaves last, leaves first, and some that have no rule.
func (w *twig) lays() []nodes {
	w = w.apart()
	all := []nodes{
		w.lay(),
		w.layBy(func([]*twig) int { return 0 }),
		w.layBy(func(ready []*twig) int { return len(ready) - 1 }),
		w.layBy(func(ready []*twig) int {
			return max(0, slices.IndexFunc(ready, func(x *twig) bool { return !x.isLeaf() }))
		}),
		w.layBy(func(ready []*twig) int { return max(0, slices.IndexFunc(ready, (*twig).isLeaf)) }),
	}
	var s noise = 5
	for range 3 {
		all = append(all, w.layBy(func(ready []*twig) int { return s.below(len(ready)) }))
	}
	return all
}

// twigOf reads a tree that is right.
func twigOf(t nodes, at int) *twig {
	n := t[at]
	if n.Feature == api.Leaf {
		return &twig{node: n}
	}
	left, right := twigOf(t, n.Left), twigOf(t, n.Right)
	n.Left, n.Right = 0, 0
	return &twig{n, left, right}
}

// steps gives all that comes by leaving out one node, as chapter 8 says it; at is where the twig stands in the order of Sort, and comes tells whether a row comes to any of the nodes from a place to ahead of another.
func (w *twig) steps(at int, comes func(from, to int) bool) []*twig {
	if w.isLeaf() {
		return nil
	}
	l, r, behind := at+1, at+1+w.left.size(), at+w.size()
	var all []*twig
	if !comes(l, r) {
		all = append(all, w.right)
	}
	if !comes(r, behind) {
		all = append(all, w.left)
	}
	if w.left.isLeaf() && w.right.isLeaf() && w.left.node.Value == w.right.node.Value {
		all = append(all, w.left)
	}
	for _, x := range w.left.steps(l, comes) {
		all = append(all, &twig{w.node, x, w.right})
	}
	for _, x := range w.right.steps(r, comes) {
		all = append(all, &twig{w.node, w.left, x})
	}
	return all
}

// pruned leaves out node after node, one of those that may be at a time, with Reach of what is there asked anew each time.
func (s *noise) pruned(t *testing.T, w *twig, features int) *twig {
	t.Helper()
	for {
		reached, err := path.Reach(w.lay(), features)
		if err != nil {
			t.Fatalf("Reach of %v: %v", w.lay(), err)
		}
		all := w.steps(0, func(from, to int) bool {
			return slices.ContainsFunc(reached, func(leaf int) bool { return leaf >= from && leaf < to })
		})
		if len(all) == 0 {
			return w
		}
		w = all[s.below(len(all))]
	}
}

// even has so many questions on each way, none of them twice.
func even(levels, at int) *twig {
	if levels == 0 {
		return says(at)
	}
	return asking(levels%8, at, at%3 == 0, even(levels-1, 2*at+1), even(levels-1, 2*at+2))
}

// chain is as deep as it is told, deeper to the right; a row comes to each of its leaves.
func chain(deep int) *twig {
	w := says(100)
	for level := deep - 1; level >= 0; level-- {
		w = ask(0, level, says(level), w)
	}
	return w
}

// wood lays a grove of trees in the order of Sort.
func wood(features, way int, weights []int, trees ...*twig) api.Grove {
	g := api.Grove{Features: features, Way: way, Weights: weights}
	for _, w := range trees {
		g.Trees = append(g.Trees, w.lay())
	}
	return g
}

// ones gives so many Weights of 1.
func ones(count int) []int { return slices.Repeat([]int{1}, count) }

// three trees that are right, of three features; from the second one a question can be left out, and the third comes to one leaf.
func three(way int) api.Grove {
	return wood(3, way, []int{2, 3, 4},
		ask(0, 5, says(-7), says(9)),
		ask(1, 0, askLess(2, -5, says(10), says(20)), ask(1, -1, says(40), says(30))),
		askLess(2, 3, says(6), says(6)))
}

// threePruned is what is left of three.
func threePruned(way int) api.Grove {
	return wood(3, way, []int{2, 3, 4},
		ask(0, 5, says(-7), says(9)),
		ask(1, 0, askLess(2, -5, says(10), says(20)), says(30)),
		says(6))
}

// copied gives a grove that shares nothing with another, whatever it is.
func copied(g api.Grove) api.Grove {
	g.Weights = slices.Clone(g.Weights)
	g.Trees = slices.Clone(g.Trees)
	for i, t := range g.Trees {
		g.Trees[i] = slices.Clone(t)
	}
	return g
}

// changed gives a grove with something of it changed.
func changed(g api.Grove, change func(g *api.Grove)) api.Grove {
	g = copied(g)
	change(&g)
	return g
}

// ways in which trees come together.
func ways() []int { return []int{api.Sum, api.Mean, api.Vote} }

// noise: numbers that look as if they had no order, the same ones each time.
type noise uint64

func (s *noise) below(n int) int {
	*s = *s*6364136223846793005 + 1442695040888963407
	return int(uint64(*s) >> 33 % uint64(n))
}

func (s *noise) cut() int { return []int{-end, -end + 1, -1, 0, 1, 2, end - 1, end}[s.below(8)] }

// twig of so many questions, not deeper than a tree may be; with few cuts and few values much can be left out.
func (s *noise) twig(questions, features, deepest int) *twig {
	if questions == 0 || deepest == 0 {
		return says(s.below(3))
	}
	left := s.below(questions)
	return asking(s.below(features), s.cut(), s.below(2) == 0,
		s.twig(left, features, deepest-1), s.twig(questions-1-left, features, deepest-1))
}

// cells of a feature that lie by the cuts of a tree, at and one below, and one that is not there. So there is a row of these for each way that a row can go.
func cellsBy(t nodes, feature int) []int {
	cells := []int{gone, -end, end}
	for _, n := range t {
		if n.Feature == feature {
			cells = append(cells, n.Cut, max(n.Cut-1, -end))
		}
	}
	slices.Sort(cells)
	return slices.Compact(cells)
}

// allRows gives all rows of such cells.
func allRows(t nodes, features int) [][]int {
	rows := [][]int{{}}
	for feature := range features {
		var longer [][]int
		for _, r := range rows {
			for _, cell := range cellsBy(t, feature) {
				longer = append(longer, append(slices.Clone(r), cell))
			}
		}
		rows = longer
	}
	return rows
}

// someRows gives so many of them.
func (s *noise) someRows(t nodes, features, count int) [][]int {
	rows := make([][]int, count)
	for i := range rows {
		for feature := range features {
			cells := cellsBy(t, feature)
			rows[i] = append(rows[i], cells[s.below(len(cells))])
		}
	}
	return rows
}

// treeOf gives Tree of a tree that is right.
func treeOf(t *testing.T, n nodes, features int) nodes {
	t.Helper()
	got, err := prune.Tree(n, features)
	if err != nil {
		t.Fatalf("Tree of %v, %d: %v", n, features, err)
	}
	return got
}

// sortOf gives Sort of a tree that is right.
func sortOf(t *testing.T, n nodes, features int) nodes {
	t.Helper()
	got, err := prune.Sort(n, features)
	if err != nil {
		t.Fatalf("Sort of %v, %d: %v", n, features, err)
	}
	return got
}

// checkTells holds a tree to say of rows what another one does.
func checkTells(t *testing.T, got, want nodes, rows [][]int) {
	t.Helper()
	for _, r := range rows {
		v, err := tree.Eval(got, r)
		if w, wrong := tree.Eval(want, r); v != w || err != nil || wrong != nil {
			t.Fatalf("%v says %d, %v of %v; it was made of %v, which says %d, %v", got, v, err, r, want, w, wrong)
		}
	}
}

// checkInOrder holds a tree to have each node's Left right behind it, and its Right right behind all below Left.
func checkInOrder(t *testing.T, n nodes) {
	t.Helper()
	var behind func(at int) int
	behind = func(at int) int {
		if n[at].Feature == api.Leaf {
			return at + 1
		}
		if n[at].Left != at+1 {
			t.Fatalf("%v: Left of %d is %d", n, at, n[at].Left)
		}
		next := behind(n[at].Left)
		if n[at].Right != next {
			t.Fatalf("%v: Right of %d is %d, want %d", n, at, n[at].Right, next)
		}
		return behind(next)
	}
	if last := behind(0); last != len(n) {
		t.Fatalf("%v: it ends at %d", n, last)
	}
}

// checkLeast holds a tree to be right, with no leaf to which no row comes, and no two leaves of one Value side by side.
func checkLeast(t *testing.T, n nodes, features int) {
	t.Helper()
	if at, err := tree.Check(n, features); err != nil {
		t.Fatalf("Check of %v = %d, %v", n, at, err)
	}
	leaves, err := tree.Leaves(n)
	reached, wrong := path.Reach(n, features)
	if err != nil || wrong != nil || !slices.Equal(leaves, reached) {
		t.Fatalf("%v has leaves %v, %v, of which are reached %v, %v", n, leaves, err, reached, wrong)
	}
	for at, x := range n {
		if x.Feature == api.Leaf {
			continue
		}
		if a, b := n[x.Left], n[x.Right]; a.Feature == api.Leaf && a == b {
			t.Fatalf("%v: below %d stand two leaves of %d", n, at, a.Value)
		}
	}
}

// checkPruned holds Tree and Sort of a tree, in each order in which it may lie, to what is to come of it.
func checkPruned(t *testing.T, name string, w *twig, features int, want *twig) {
	t.Helper()
	for i, n := range w.lays() {
		got := treeOf(t, n, features)
		if !slices.Equal(got, want.lay()) {
			t.Errorf("%s, %d features, order %d: Tree of %v = %v, want %v", name, features, i, n, got, want.lay())
		}
		if sorted := sortOf(t, n, features); !slices.Equal(sorted, w.lay()) {
			t.Errorf("%s, %d features, order %d: Sort of %v = %v, want %v", name, features, i, n, sorted, w.lay())
		}
		if again := treeOf(t, got, features); !slices.Equal(again, got) {
			t.Errorf("%s, order %d: Tree of what Tree gave, %v, = %v", name, i, got, again)
		}
		checkInOrder(t, got)
		checkLeast(t, got, features)
	}
}

// drawn is a tree, and what is to be left of it.
type drawn struct {
	name    string
	w, want *twig
}

// checkDrawn holds Tree to each of them; what is asked of one feature is asked of others too, and with other features beside.
func checkDrawn(t *testing.T, all []drawn) {
	t.Helper()
	for _, c := range all {
		checkPruned(t, c.name, c.w, 3, c.want)
		checkPruned(t, c.name, c.w, 8, c.want)
		checkPruned(t, c.name+", other features", c.w.of(5), 8, c.want.of(5))
		checkTells(t, treeOf(t, c.w.lay(), 3), c.w.lay(), allRows(c.w.lay(), 3))
	}
}

// of gives the same questions, of features so much higher.
func (w *twig) of(more int) *twig {
	if w.isLeaf() {
		return w
	}
	n := w.node
	n.Feature += more
	return &twig{n, w.left.of(more), w.right.of(more)}
}

// turned gives the same with Left and Right in each other's places, and with the other Less.
func (w *twig) turned() *twig {
	if w.isLeaf() {
		return w
	}
	n := w.node
	n.Less = !n.Less
	return &twig{n, w.right.turned(), w.left.turned()}
}

func TestOneLeaf(t *testing.T) {
	for _, value := range []int{-end, -1, 0, 1, 4, end} {
		for features := range 9 {
			checkPruned(t, fmt.Sprint("says ", value), says(value), features, says(value))
		}
	}
}

// TestNothingToLeaveOut: these stay as they are.
func TestNothingToLeaveOut(t *testing.T) {
	for _, c := range []struct {
		name string
		w    *twig
	}{
		{"one question", ask(0, 5, says(-7), says(9))},
		{"one question, Less", askLess(0, 5, says(-7), says(9))},
		{"one question, values that differ in the sign alone", ask(2, 0, says(-1), says(1))},
		{"the lowest Cut that a cell can be below", ask(0, -end+1, says(1), says(2))},
		{"the highest Cut", ask(0, end, says(1), says(2))},
		{"another feature below, with the same Cut", ask(0, 5, ask(1, 5, says(1), says(2)), ask(2, 5, says(3), says(4)))},
		{"a lower Cut to the left", ask(0, 5, ask(0, 4, says(1), says(2)), says(3))},
		{"a higher Cut to the right", ask(0, 5, says(1), ask(0, 6, says(2), says(3)))},
		{"between two", ask(0, 0, says(1), ask(0, 2, ask(0, 1, says(2), says(3)), says(4)))},
		{"leaves of one Value, one level apart", ask(0, 5, says(1), ask(1, 5, says(1), says(2)))},
		{"leaves of one Value, on two sides", ask(0, 5, ask(1, 5, says(1), says(2)), ask(2, 5, says(1), says(2)))},
		{"leaves of one Value, next to each other but not of one node", ask(0, 5, ask(1, 5, says(2), says(1)), ask(2, 5, says(1), says(2)))},
		{"both sides ask the same", ask(0, 5, ask(1, 5, says(1), says(2)), ask(1, 5, says(1), says(2)))},
		{"a chain", chain(10)},
		{"63 nodes", even(5, 0)},
	} {
		checkPruned(t, c.name, c.w, 8, c.w)
	}
	for deep := range 11 {
		checkPruned(t, fmt.Sprint("a chain of ", deep), chain(deep), 1, chain(deep))
	}
}

// TestAtTheEnds: no cell is below the lowest Cut, so only one that is not there can go to Left.
func TestAtTheEnds(t *testing.T) {
	checkDrawn(t, []drawn{
		{"the lowest Cut", ask(0, -end, says(1), says(2)), says(2)},
		{"the lowest Cut, Less", askLess(0, -end, says(1), says(2)), askLess(0, -end, says(1), says(2))},
		{"the lowest Cut, questions on either side", ask(1, -end, ask(0, 0, says(1), says(2)), ask(2, 0, says(3), says(4))), ask(2, 0, says(3), says(4))},
		{"the lowest Cut but one, and what is below it", ask(0, -end+1, ask(0, -end, says(1), says(2)), says(3)), ask(0, -end+1, says(2), says(3))},
		{"the highest Cut, and it again to the right", ask(0, end, says(1), ask(0, end, says(2), says(3))), ask(0, end, says(1), says(3))},
		{"the highest Cut to the right of the one before", askLess(0, end-1, says(1), ask(0, end, says(2), says(3))), askLess(0, end-1, says(1), ask(0, end, says(2), says(3)))},
		{"the highest Cut to the left of itself", askLess(0, end, askLess(0, end, says(1), says(2)), says(3)), askLess(0, end, says(1), says(3))},
	})
}

// TestTwiceOnAWay: the same question once more below; only a cell that is not there can answer it otherwise.
func TestTwiceOnAWay(t *testing.T) {
	one, two, three := says(1), says(2), says(3)
	checkDrawn(t, []drawn{
		{"to the left, both not Less", ask(0, 5, ask(0, 5, one, two), three), ask(0, 5, one, three)},
		{"to the left, both Less", askLess(0, 5, askLess(0, 5, one, two), three), askLess(0, 5, one, three)},
		{"to the left, the second one Less", ask(0, 5, askLess(0, 5, one, two), three), ask(0, 5, one, three)},
		{"to the left, the first one Less", askLess(0, 5, ask(0, 5, one, two), three), askLess(0, 5, ask(0, 5, one, two), three)},
		{"to the right, both not Less", ask(0, 5, one, ask(0, 5, two, three)), ask(0, 5, one, three)},
		{"to the right, both Less", askLess(0, 5, one, askLess(0, 5, two, three)), askLess(0, 5, one, three)},
		{"to the right, the first one Less", askLess(0, 5, one, ask(0, 5, two, three)), askLess(0, 5, one, three)},
		{"to the right, the second one Less", ask(0, 5, one, askLess(0, 5, two, three)), ask(0, 5, one, askLess(0, 5, two, three))},
		{"on both sides", ask(0, 5, ask(0, 5, one, two), ask(0, 5, two, three)), ask(0, 5, one, three)},
		{"with another between",
			ask(0, 5, ask(1, 5, ask(0, 5, one, two), three), two),
			ask(0, 5, ask(1, 5, one, three), two)},
		{"with another below",
			ask(0, 5, ask(0, 5, ask(1, 5, one, two), three), two),
			ask(0, 5, ask(1, 5, one, two), two)},
		{"three times",
			ask(0, 5, ask(0, 5, ask(0, 5, one, two), three), two),
			ask(0, 5, one, two)},
		{"three times, of which the last goes otherwise for what is not there",
			askLess(0, 5, askLess(0, 5, ask(0, 5, one, two), three), two),
			askLess(0, 5, ask(0, 5, one, two), two)},
		{"of two features by turns",
			ask(0, 5, ask(1, 5, ask(0, 5, ask(1, 5, one, two), three), two), three),
			ask(0, 5, ask(1, 5, one, two), three)},
	})
}

// TestTwiceForEachCut does the same at all kinds of Cut, with all kinds of Less; what is left is told by whether what is not there comes to the other side.
func TestTwiceForEachCut(t *testing.T) {
	for _, cut := range []int{-end + 1, -1, 0, 1, end - 1, end} {
		for _, first := range []bool{false, true} {
			for _, second := range []bool{false, true} {
				name := fmt.Sprint("Cut ", cut, ", Less ", first, " and ", second)
				w := asking(0, cut, first, asking(0, cut, second, says(1), says(2)), says(3))
				want := asking(0, cut, first, says(1), says(3))
				if first && !second {
					want = w
				}
				checkPruned(t, name+", to the left", w, 1, want)
				checkPruned(t, name+", to the right", w.turned(), 1, want.turned())
			}
		}
	}
}

// TestNobodyComes: a Cut above leaves no number for one side.
func TestNobodyComes(t *testing.T) {
	one, two, three := says(1), says(2), says(3)
	deep := ask(1, 0, ask(2, 0, one, two), ask(2, 1, two, three))
	checkDrawn(t, []drawn{
		{"to the left, a higher Cut", ask(0, 5, ask(0, 6, one, two), three), ask(0, 5, one, three)},
		{"to the left, a much higher Cut", ask(0, -5, ask(0, end, one, two), three), ask(0, -5, one, three)},
		{"to the left, a lower Cut", ask(0, 5, ask(0, 4, one, two), three), ask(0, 5, ask(0, 4, one, two), three)},
		{"to the right, a lower Cut", ask(0, 5, one, ask(0, 4, two, three)), ask(0, 5, one, three)},
		{"to the right, a much lower Cut", ask(0, 5, one, ask(0, -end+1, two, three)), ask(0, 5, one, three)},
		{"to the right, a higher Cut", ask(0, 5, one, ask(0, 6, two, three)), ask(0, 5, one, ask(0, 6, two, three))},
		{"to the left, a higher Cut of another feature", ask(0, 5, ask(1, 6, one, two), three), ask(0, 5, ask(1, 6, one, two), three)},
		{"to the right, a lower Cut of another feature", ask(0, 5, one, ask(1, 4, two, three)), ask(0, 5, one, ask(1, 4, two, three))},
		{"what nobody comes to is deep", ask(0, 5, ask(0, 6, one, deep), three), ask(0, 5, one, three)},
		{"what stays is deep", ask(0, 5, ask(0, 6, deep, one), three), ask(0, 5, deep, three)},
		{"what nobody comes to, on the right, is deep", ask(0, 5, one, ask(0, 4, deep, three)), ask(0, 5, one, three)},
		{"with another feature between",
			ask(0, 5, ask(1, 0, ask(0, 6, one, two), ask(0, 4, two, three)), three),
			ask(0, 5, ask(1, 0, one, ask(0, 4, two, three)), three)},
		{"two above leave one number",
			ask(0, 0, one, ask(0, 1, ask(0, 1, two, deep), three)),
			ask(0, 0, one, ask(0, 1, two, three))},
		{"two above leave one number, which a lower Cut does not part",
			ask(0, 0, one, ask(0, 1, ask(0, 0, deep, two), three)),
			ask(0, 0, one, ask(0, 1, two, three))},
		{"two above leave two numbers, which a Cut parts",
			ask(0, 0, one, ask(0, 2, ask(0, 1, two, one), three)),
			ask(0, 0, one, ask(0, 2, ask(0, 1, two, one), three))},
		{"below what nobody comes to is asked what would be reached elsewhere",
			ask(0, 5, ask(0, 6, one, ask(0, 9, two, three)), two),
			ask(0, 5, one, two)},
		{"below what nobody comes to stand leaves of one Value",
			ask(0, 5, ask(0, 6, one, ask(1, 9, three, three)), two),
			ask(0, 5, one, two)},
		{"a Cut of one feature, then of the other, neither of the third",
			ask(0, 5, ask(1, 5, ask(0, 7, ask(2, 7, one, two), three), two), ask(1, 3, ask(1, 4, one, two), three)),
			ask(0, 5, ask(1, 5, ask(2, 7, one, two), two), ask(1, 3, one, three))},
	})
}

// TestOneValue: two leaves of one Value side by side come to one.
func TestOneValue(t *testing.T) {
	one, two, three := says(1), says(2), says(3)
	checkDrawn(t, []drawn{
		{"one question", ask(0, 5, one, one), one},
		{"one question, Less", askLess(0, 5, two, two), two},
		{"of 0", ask(0, 5, says(0), says(0)), says(0)},
		{"at the ends", ask(0, 5, ask(1, 0, says(end), says(end)), ask(1, 0, says(-end), says(-end))), ask(0, 5, says(end), says(-end))},
		{"at the bottom, to the left", ask(0, 5, ask(1, 5, one, one), two), ask(0, 5, one, two)},
		{"at the bottom, to the right", ask(0, 5, one, ask(1, 5, two, two)), ask(0, 5, one, two)},
		{"on both sides", ask(0, 5, ask(1, 5, one, one), ask(2, 5, two, two)), ask(0, 5, one, two)},
		{"all the way up", ask(0, 5, ask(1, 5, one, one), ask(2, 5, one, one)), one},
		{"all the way up from the left", ask(0, 5, ask(1, 5, ask(2, 5, one, one), one), one), one},
		{"all the way up from the right", ask(0, 5, one, ask(1, 5, one, ask(2, 5, one, one))), one},
		{"part of the way up", ask(0, 5, ask(1, 5, ask(2, 5, one, one), one), two), ask(0, 5, one, two)},
		{"part of the way up, from the right", ask(0, 5, two, ask(1, 5, one, ask(2, 5, one, one))), ask(0, 5, two, one)},
		{"alike, but not side by side",
			ask(0, 5, one, ask(1, 5, one, two)), ask(0, 5, one, ask(1, 5, one, two))},
		{"alike on two sides, but not side by side",
			ask(0, 5, ask(1, 5, three, one), ask(2, 5, one, three)), ask(0, 5, ask(1, 5, three, one), ask(2, 5, one, three))},
		{"two alike, side by side with a third that is not", ask(0, 5, ask(1, 5, one, one), ask(1, 5, one, two)), ask(0, 5, one, ask(1, 5, one, two))},
	})
	for levels := range 6 {
		checkPruned(t, fmt.Sprint("even ", levels, ", of one Value"), even(levels, 0).saying(7), 8, says(7))
	}
	for deep := range 11 {
		checkPruned(t, fmt.Sprint("a chain of ", deep, ", of one Value"), chain(deep).saying(7), 1, says(7))
		checkPruned(t, fmt.Sprint("a chain of ", deep, ", of one Value, turned"), chain(deep).saying(7).turned(), 1, says(7))
	}
}

// saying gives the same questions, with leaves of one Value alone.
func (w *twig) saying(value int) *twig {
	if w.isLeaf() {
		return says(value)
	}
	return &twig{w.node, w.left.saying(value), w.right.saying(value)}
}

// TestAgainAndAgain: what is left out makes others needless.
func TestAgainAndAgain(t *testing.T) {
	one, two, three := says(1), says(2), says(3)
	checkDrawn(t, []drawn{
		{"a side nobody comes to, then leaves of one Value",
			ask(0, 5, ask(0, 6, one, two), one), one},
		{"the same, on the right",
			ask(0, 5, one, ask(0, 4, two, one)), one},
		{"leaves of one Value, then again those with the one above",
			ask(0, 5, ask(1, 5, ask(0, 5, one, two), one), three), ask(0, 5, one, three)},
		{"by turns",
			ask(0, 5, ask(1, 5, ask(0, 9, ask(2, 0, one, one), two), ask(1, 3, three, one)), ask(2, 0, one, ask(0, 1, two, one))), one},
		{"a side is left out that holds the only other Value, twice",
			ask(0, 5, ask(0, 6, one, ask(1, 0, two, three)), ask(0, 4, ask(1, 0, two, three), one)), one},
		{"only on one side of the root",
			ask(2, 0, ask(0, 5, ask(0, 6, one, two), one), ask(0, 5, ask(0, 4, one, two), one)),
			ask(2, 0, one, ask(0, 5, ask(0, 4, one, two), one))},
		{"a question in place of the one above it, and that again",
			ask(0, 9, ask(0, 10, ask(0, 11, ask(1, 0, one, two), two), two), three),
			ask(0, 9, ask(1, 0, one, two), three)},
		{"what comes up is itself to be left out",
			ask(0, 5, ask(0, 6, ask(0, 7, one, two), two), three), ask(0, 5, one, three)},
		{"the root itself, and what comes in its place",
			ask(0, -end, three, ask(0, -end, two, ask(1, 5, one, one))), one},
		{"the root, its Right a question",
			ask(0, -end, three, ask(1, 5, one, two)), ask(1, 5, one, two)},
	})
	// To the left a Cut that is lower than those above parts what is left, and one that is higher does not; to the right it is the other way round.
	rising, falling := []int{1, 2, 3, 4, 5, 6, 7, 8, 9, 10}, []int{10, 9, 8, 7, 6, 5, 4, 3, 2, 1}
	checkPruned(t, "higher and higher to the left", toLeft(rising), 1, ask(0, 1, says(0), says(1)))
	checkPruned(t, "lower and lower to the right", toRight(falling), 1, askLess(0, 10, says(10), says(0)))
	checkPruned(t, "lower and lower to the left", toLeft(falling), 1, toLeft(falling))
	checkPruned(t, "higher and higher to the right", toRight(rising), 1, toRight(rising))
	checkPruned(t, "lower and lower to the left, of one Value", toLeft(falling).saying(3), 1, says(3))
	checkPruned(t, "up and down to the left", toLeft([]int{5, 7, 3, 4, 3, 1, 9, 1}), 1, toLeft([]int{5, 3, 1}))
	checkPruned(t, "up and down to the right", toRight([]int{5, 3, 7, 6, 7, 9, 1, 9}), 1, toRight([]int{5, 7, 9}))
}

// toLeft asks one feature by these Cuts, each to the left of the one ahead; what goes to Right comes to a leaf that says the Cut.
func toLeft(cuts []int) *twig {
	w := says(0)
	for _, cut := range slices.Backward(cuts) {
		w = ask(0, cut, w, says(cut))
	}
	return w
}

// toRight is the same to the right; what is not there goes to Left.
func toRight(cuts []int) *twig { return toLeft(cuts).turned() }

// TestOnlyWhatIsNotThere: a node to which only a row with a cell that is not there comes stays.
func TestOnlyWhatIsNotThere(t *testing.T) {
	one, two, three := says(1), says(2), says(3)
	checkDrawn(t, []drawn{
		{"to the left of the lowest Cut", askLess(0, -end, one, two), askLess(0, -end, one, two)},
		{"to the left, then to the right",
			askLess(0, 5, ask(0, 9, one, two), three), askLess(0, 5, ask(0, 9, one, two), three)},
		{"to the right, then to the left",
			ask(0, 5, one, askLess(0, 1, two, three)), ask(0, 5, one, askLess(0, 1, two, three))},
		{"it goes on to other features",
			askLess(0, 5, ask(0, 9, one, ask(1, 0, two, askLess(2, 0, one, three))), three),
			askLess(0, 5, ask(0, 9, one, ask(1, 0, two, askLess(2, 0, one, three))), three)},
		{"below it the same feature is asked: by not Less only Right is come to",
			askLess(0, 5, ask(0, 9, one, ask(0, 7, two, three)), two),
			askLess(0, 5, ask(0, 9, one, three), two)},
		{"below it the same feature is asked: by Less only Left is come to",
			askLess(0, 5, ask(0, 9, one, askLess(0, 7, two, three)), one),
			askLess(0, 5, ask(0, 9, one, two), one)},
		{"it has gone elsewhere above",
			ask(0, 5, ask(0, 9, one, two), three), ask(0, 5, one, three)},
		{"it has gone elsewhere far above",
			ask(0, 9, ask(1, 0, askLess(0, 9, one, two), two), three), ask(0, 9, ask(1, 0, one, two), three)},
		{"both sides are for it alone, which goes one way",
			askLess(0, -end, ask(0, 0, one, two), three), askLess(0, -end, two, three)},
		{"it is as the rest, so nobody need ask",
			askLess(0, -end, one, one), one},
		{"of two features",
			askLess(0, -end, askLess(1, -end, one, two), three), askLess(0, -end, askLess(1, -end, one, two), three)},
		{"each of two features goes its way",
			askLess(0, -end, ask(1, -end, one, two), three), askLess(0, -end, two, three)},
	})
}

// smallTrees gives all trees of so many questions, with few features, cuts and values.
func smallTrees(questions, features int, cuts []int) []*twig {
	if questions == 0 {
		return []*twig{says(0), says(1)}
	}
	var all []*twig
	for left := range questions {
		for _, l := range smallTrees(left, features, cuts) {
			for _, r := range smallTrees(questions-1-left, features, cuts) {
				for feature := range features {
					for _, cut := range cuts {
						all = append(all, ask(feature, cut, l, r), askLess(feature, cut, l, r))
					}
				}
			}
		}
	}
	return all
}

// checkAgainstSteps holds Tree to what comes by leaving out one node at a time, of whichever may be left out, and to all else that is to be so of it.
func (s *noise) checkAgainstSteps(t *testing.T, w *twig, n nodes, features int, rows [][]int) {
	t.Helper()
	got := treeOf(t, n, features)
	want := s.pruned(t, w, features).lay()
	if !slices.Equal(got, want) {
		t.Fatalf("Tree of %v, %d = %v, want %v", n, features, got, want)
	}
	checkInOrder(t, got)
	checkLeast(t, got, features)
	checkTells(t, got, n, rows)
	if again := treeOf(t, got, features); !slices.Equal(again, got) {
		t.Fatalf("Tree of what Tree gave, %v, = %v", got, again)
	}
	sorted := sortOf(t, n, features)
	if !slices.Equal(sorted, w.lay()) {
		t.Fatalf("Sort of %v, %d = %v, want %v", n, features, sorted, w.lay())
	}
	checkInOrder(t, sorted)
	checkTells(t, sorted, n, rows)
	if again := sortOf(t, sorted, features); !slices.Equal(again, sorted) {
		t.Fatalf("Sort of what Sort gave, %v, = %v", sorted, again)
	}
}

func TestAllSmall(t *testing.T) {
	var s noise = 11
	for _, c := range []struct {
		questions, features int
		cuts                []int
	}{
		{1, 2, []int{-end, -end + 1, 0, end}},
		{2, 2, []int{-end, 0, 1}},
		{3, 1, []int{-end, 0, 1}},
	} {
		for _, w := range smallTrees(c.questions, c.features, c.cuts) {
			s.checkAgainstSteps(t, w, w.lay(), c.features, allRows(w.lay(), c.features))
		}
	}
}

// TestEveryRow: of trees of few features all rows that can go different ways are asked; and of what is left each leaf is come to by one of them.
func TestEveryRow(t *testing.T) {
	var s noise = 12
	for range 1500 {
		features := 1 + s.below(2)
		w := s.twig(s.below(12), features, api.MaxDepth)
		n := w.apart().layBy(func(ready []*twig) int { return s.below(len(ready)) })
		rows := allRows(n, features)
		s.checkAgainstSteps(t, w, n, features, rows)
		got := treeOf(t, n, features)
		come := map[int]int{}
		for _, r := range rows {
			at, err := tree.Leaf(got, r)
			if err != nil {
				t.Fatal(err)
			}
			come[at]++
		}
		if leaves := (len(got) + 1) / 2; len(come) != leaves {
			t.Fatalf("%v: %d of %d leaves are come to", got, len(come), leaves)
		}
	}
}

// TestWide: trees of up to 63 nodes and eight features.
func TestWide(t *testing.T) {
	var s noise = 13
	left := map[int]int{}
	for i := range 1500 {
		features := 1 + s.below(8)
		w := s.twig([]int{3, 8, 20, 31}[i%4], features, api.MaxDepth)
		n := w.apart().layBy(func(ready []*twig) int { return s.below(len(ready)) })
		s.checkAgainstSteps(t, w, n, features, s.someRows(n, features, 20))
		left[len(n)-len(treeOf(t, n, features))]++
	}
	if len(left) < 20 {
		t.Errorf("so many nodes were left out of trees, and so often: %v", left)
	}
}

// TestDeep: at the greatest depth, with nothing left out and with nearly all of it.
func TestDeep(t *testing.T) {
	var s noise = 14
	for range 300 {
		w := says(s.below(3))
		for range api.MaxDepth {
			w = asking(s.below(2), s.cut(), s.below(2) == 0, w, says(s.below(3)))
			if s.below(2) == 0 {
				w = w.turned()
			}
		}
		n := w.apart().layBy(func(ready []*twig) int { return s.below(len(ready)) })
		s.checkAgainstSteps(t, w, n, 2, s.someRows(n, 2, 50))
	}
}

// TestMoreFeatures: features that nobody asks for change nothing.
func TestMoreFeatures(t *testing.T) {
	var s noise = 15
	for range 200 {
		n := s.twig(10, 2, api.MaxDepth).lay()
		want, sorted := treeOf(t, n, 2), sortOf(t, n, 2)
		for features := 3; features <= api.MaxRow; features++ {
			if got := treeOf(t, n, features); !slices.Equal(got, want) {
				t.Fatalf("Tree of %v, %d = %v, want %v", n, features, got, want)
			}
			if got := sortOf(t, n, features); !slices.Equal(got, sorted) {
				t.Fatalf("Sort of %v, %d = %v, want %v", n, features, got, sorted)
			}
		}
	}
}

// leaf that says a value, as a node.
func leaf(value int) api.Node { return says(value).node }

// node that asks, as it stands.
func node(feature, cut, left, right int) api.Node {
	return api.Node{Feature: feature, Cut: cut, Left: left, Right: right}
}

// TestSort: how trees stand that lie otherwise.
func TestSort(t *testing.T) {
	less := func(n api.Node) api.Node {
		n.Less = true
		return n
	}
	for _, c := range []struct {
		name    string
		n, want nodes
	}{
		{"one leaf", nodes{leaf(4)}, nodes{leaf(4)}},
		{"one question", nodes{node(0, 5, 1, 2), leaf(1), leaf(2)}, nodes{node(0, 5, 1, 2), leaf(1), leaf(2)}},
		{"one question, turned round", nodes{node(0, 5, 2, 1), leaf(2), leaf(1)}, nodes{node(0, 5, 1, 2), leaf(1), leaf(2)}},
		{"level by level",
			nodes{node(0, 0, 1, 2), node(1, 1, 3, 4), less(node(2, 2, 5, 6)), leaf(1), leaf(2), leaf(3), leaf(4)},
			nodes{node(0, 0, 1, 4), node(1, 1, 2, 3), leaf(1), leaf(2), less(node(2, 2, 5, 6)), leaf(3), leaf(4)}},
		{"in order already",
			nodes{node(0, 0, 1, 4), node(1, 1, 2, 3), leaf(1), leaf(2), less(node(2, 2, 5, 6)), leaf(3), leaf(4)},
			nodes{node(0, 0, 1, 4), node(1, 1, 2, 3), leaf(1), leaf(2), less(node(2, 2, 5, 6)), leaf(3), leaf(4)}},
		{"turned round below",
			nodes{node(0, 0, 4, 1), less(node(2, 2, 3, 2)), leaf(4), leaf(3), node(1, 1, 6, 5), leaf(2), leaf(1)},
			nodes{node(0, 0, 1, 4), node(1, 1, 2, 3), leaf(1), leaf(2), less(node(2, 2, 5, 6)), leaf(3), leaf(4)}},
		{"leaves last, the last one first",
			nodes{node(0, 0, 1, 2), node(1, 1, 6, 5), less(node(2, 2, 4, 3)), leaf(4), leaf(3), leaf(2), leaf(1)},
			nodes{node(0, 0, 1, 4), node(1, 1, 2, 3), leaf(1), leaf(2), less(node(2, 2, 5, 6)), leaf(3), leaf(4)}},
		{"deeper to the left, leaves ahead",
			nodes{node(0, 9, 2, 1), leaf(40), node(1, 8, 4, 3), leaf(30), less(node(2, 7, 6, 5)), leaf(20), leaf(10)},
			nodes{node(0, 9, 1, 6), node(1, 8, 2, 5), less(node(2, 7, 3, 4)), leaf(10), leaf(20), leaf(30), leaf(40)}},
		{"deeper to the right, leaves last",
			nodes{node(0, 1, 6, 1), less(node(1, 2, 5, 2)), node(2, 3, 4, 3), leaf(40), leaf(30), leaf(20), leaf(10)},
			nodes{node(0, 1, 1, 2), leaf(10), less(node(1, 2, 3, 4)), leaf(20), node(2, 3, 5, 6), leaf(30), leaf(40)}},
		{"what could be left out is not",
			nodes{node(0, 5, 2, 1), leaf(1), node(0, 5, 4, 3), leaf(1), node(1, -end, 6, 5), leaf(1), leaf(1)},
			nodes{node(0, 5, 1, 6), node(0, 5, 2, 5), node(1, -end, 3, 4), leaf(1), leaf(1), leaf(1), leaf(1)}},
	} {
		got := sortOf(t, c.n, 3)
		if !slices.Equal(got, c.want) {
			t.Errorf("%s: Sort = %v, want %v", c.name, got, c.want)
		}
		if again := sortOf(t, got, 3); !slices.Equal(again, got) {
			t.Errorf("%s: Sort of what Sort gave = %v, want %v", c.name, again, got)
		}
		checkInOrder(t, got)
		checkTells(t, got, c.n, allRows(c.n, 3))
	}
}

// TestSortKeepsAll: the same tree comes, of as many nodes, from whichever order.
func TestSortKeepsAll(t *testing.T) {
	var s noise = 16
	trees := []*twig{even(5, 0), even(5, 0).saying(1), chain(10), chain(10).turned(), chain(10).saying(1)}
	for range 200 {
		trees = append(trees, s.twig(s.below(32), 8, api.MaxDepth))
	}
	for _, w := range trees {
		for i, n := range w.lays() {
			got := sortOf(t, n, 8)
			if len(got) != len(n) || !slices.Equal(got, w.lay()) || !reflect.DeepEqual(twigOf(got, 0), twigOf(n, 0)) {
				t.Fatalf("order %d: Sort of %v = %v", i, n, got)
			}
			checkInOrder(t, got)
			checkTells(t, got, n, s.someRows(n, 8, 10))
		}
	}
}

// fault of a tree, and what chapter 4 tells of it where features are three.
type fault struct {
	name string
	tree nodes
	want api.Errno
}

func faults() []fault {
	small := func(feature, cut int) nodes { return ask(feature, cut, says(1), says(2)).lay() }
	l := []fault{
		{"64 nodes", append(even(5, 0).lay(), leaf(1)), api.ErrFull},
		{"65 nodes", ask(0, 0, says(1), even(5, 0)).lay(), api.ErrFull},
		{"127 nodes of which one leaf would be left", even(6, 0).saying(1).lay(), api.ErrFull},
		{"100000 nodes", make(nodes, 100000), api.ErrFull},
		{"no nodes", nil, api.ErrNone},
		{"an empty list of nodes", nodes{}, api.ErrNone},
		{"a Value beyond", says(end + 1).lay(), api.ErrRange},
		{"a Value beyond, below 0", says(-end - 1).lay(), api.ErrRange},
		{"a Value far beyond", says(least).lay(), api.ErrRange},
		{"a leaf with a Cut", nodes{{Feature: api.Leaf, Cut: 1}}, api.ErrShape},
		{"a leaf with a Left", nodes{{Feature: api.Leaf, Left: 1}}, api.ErrShape},
		{"a leaf with a Right", nodes{{Feature: api.Leaf, Right: 1}}, api.ErrShape},
		{"a leaf with Less", nodes{{Feature: api.Leaf, Less: true}}, api.ErrShape},
		{"a Feature below", small(-2, 0), api.ErrRange},
		{"a Feature beyond", small(3, 0), api.ErrRange},
		{"a Feature far beyond", small(great, 0), api.ErrRange},
		{"a Cut beyond", small(0, end+1), api.ErrRange},
		{"a Cut beyond, below 0", small(0, -end-1), api.ErrRange},
		{"a Cut that is not there", small(0, gone), api.ErrRange},
		{"a Left that is not behind", nodes{node(0, 0, 0, 1), leaf(1)}, api.ErrRange},
		{"a Right that is not behind", nodes{node(0, 0, 1, 0), leaf(1)}, api.ErrRange},
		{"a Left ahead", nodes{node(0, 0, 1, 2), node(0, 0, 0, 3), leaf(1), leaf(2)}, api.ErrRange},
		{"a Left beyond", nodes{node(0, 0, 3, 1), leaf(1), leaf(2)}, api.ErrRange},
		{"a Left below", nodes{node(0, 0, -1, 1), leaf(1), leaf(2)}, api.ErrRange},
		{"a Right far beyond", nodes{node(0, 0, 1, great), leaf(1), leaf(2)}, api.ErrRange},
		{"one that asks with a Value", nodes{{Left: 1, Right: 2, Value: 1}, leaf(1), leaf(2)}, api.ErrShape},
		{"Left that is Right", nodes{node(0, 0, 1, 1), leaf(1)}, api.ErrShape},
		{"a leaf that is nobody's", append(small(0, 0), leaf(3)), api.ErrClash},
		{"a question that is nobody's", append(says(1).lay(), moved(small(0, 0), 1)...), api.ErrClash},
		{"a leaf that is two's", nodes{node(0, 0, 1, 2), node(0, 0, 2, 3), leaf(1), leaf(2)}, api.ErrClash},
		{"too deep", chain(11).lay(), api.ErrFull},
		{"too deep, though one leaf would be left", chain(11).saying(1).lay(), api.ErrFull},
	}
	// What would be left out must be right too.
	for _, w := range []*twig{says(end + 1), ask(3, 0, says(1), says(1)), ask(0, end+1, says(1), says(1))} {
		l = append(l, fault{"a fault where nobody comes", ask(0, -end, w, says(1)).lay(), api.ErrRange})
	}
	return append(l, fault{"a leaf with Less where nobody comes",
		nodes{node(0, -end, 1, 2), {Feature: api.Leaf, Less: true}, leaf(1)}, api.ErrShape})
}

// checkTold holds Tree and Sort to what Check tells, and with an error to nothing else.
func checkTold(t *testing.T, name string, n nodes, features int) {
	t.Helper()
	_, wrong := tree.Check(n, features)
	want := told(wrong)
	if l, err := prune.Tree(n, features); told(err) != want || (l == nil) != (want != none) {
		t.Errorf("%s, %d features: Tree = %v, %v, want %v", name, features, l, err, want)
	}
	if l, err := prune.Sort(n, features); told(err) != want || (l == nil) != (want != none) {
		t.Errorf("%s, %d features: Sort = %v, %v, want %v", name, features, l, err, want)
	}
}

func TestOfWrong(t *testing.T) {
	for _, f := range faults() {
		if _, err := tree.Check(f.tree, 3); told(err) != f.want {
			t.Errorf("%s: Check = %v, want %v", f.name, err, f.want)
		}
		for _, features := range []int{least, -1, 0, 1, 2, 3, 4, 8, 9, great} {
			checkTold(t, f.name, f.tree, features)
		}
	}
	for _, features := range []int{least, least + 1, -2, -1, 9, 10, 63, 64, great - 1, great} {
		for _, w := range []*twig{says(1), ask(0, 0, says(1), says(2)), ask(0, 0, says(1), says(1)), even(5, 0)} {
			if _, err := prune.Tree(w.lay(), features); told(err) != api.ErrRange {
				t.Errorf("%d features: Tree = %v", features, err)
			}
			checkTold(t, "right but for the features", w.lay(), features)
		}
	}
	for asked := range 8 {
		for features := range 9 {
			checkTold(t, fmt.Sprint("feature ", asked), ask(asked, 0, says(1), says(2)).lay(), features)
		}
	}
}

// spoil changes some numbers of a tree to such as may be wrong.
func (s *noise) spoil(t nodes) {
	pick := []int{least, gone, -end - 1, -end, -2, -1, 0, 1, 2, len(t) - 2, len(t) - 1, len(t), 7, 8, end, end + 1, great}
	for range 1 + s.below(3) {
		n := &t[s.below(len(t))]
		x := pick[s.below(len(pick))]
		switch s.below(7) {
		case 0:
			n.Feature = x
		case 1:
			n.Cut = x
		case 2:
			n.Left = x
		case 3:
			n.Right = x
		case 4:
			n.Value = x
		case 5:
			n.Less = !n.Less
		case 6:
			*n = t[s.below(len(t))]
		}
	}
}

// TestOfSpoiled: trees with faults of any kind, several at once: the one that Check tells is told.
func TestOfSpoiled(t *testing.T) {
	var s noise = 17
	tellings := map[api.Errno]int{}
	for range 30000 {
		n := s.twig(s.below(12), 3, 12).lay()
		s.spoil(n)
		checkTold(t, fmt.Sprint(n), n, 3)
		_, err := tree.Check(n, 3)
		tellings[told(err)]++
		g := api.Grove{Features: 3, Way: api.Sum, Weights: ones(2), Trees: []nodes{says(1).lay(), n}}
		if got, err := prune.Grove(g); told(err) != told(grove.Check(g)) || err != nil && !reflect.DeepEqual(got, api.Grove{}) {
			t.Fatalf("Grove of %v = %v, %v", g, got, err)
		}
	}
	for _, e := range []api.Errno{none, api.ErrRange, api.ErrShape, api.ErrClash} {
		if tellings[e] < 50 {
			t.Errorf("%v was told %d times", e, tellings[e])
		}
	}
}

// flaw is something that is wrong with a grove.
type flaw struct {
	name   string
	change func(g *api.Grove)
	want   api.Errno
}

func flaws() []flaw {
	l := []flaw{
		{"Features -1", func(g *api.Grove) { g.Features = -1 }, api.ErrRange},
		{"Features 9", func(g *api.Grove) { g.Features = 9 }, api.ErrRange},
		{"Features far beyond", func(g *api.Grove) { g.Features = great }, api.ErrRange},
		{"Features far below", func(g *api.Grove) { g.Features = least }, api.ErrRange},
		{"Features too few for what is asked", func(g *api.Grove) { g.Features = 2 }, api.ErrRange},
		{"Way 0", func(g *api.Grove) { g.Way = 0 }, api.ErrRange},
		{"Way 4", func(g *api.Grove) { g.Way = 4 }, api.ErrRange},
		{"Way far below", func(g *api.Grove) { g.Way = least }, api.ErrRange},
		{"no trees", func(g *api.Grove) { g.Trees = nil }, api.ErrNone},
		{"no trees and no Weights", func(g *api.Grove) { g.Trees, g.Weights = nil, nil }, api.ErrNone},
		{"an empty list of trees", func(g *api.Grove) { g.Trees, g.Weights = []nodes{}, []int{} }, api.ErrNone},
		{"13 trees", func(g *api.Grove) { g.Trees, g.Weights = slices.Repeat([]nodes{says(1).lay()}, 13), ones(13) }, api.ErrFull},
		{"100000 trees", func(g *api.Grove) { g.Trees, g.Weights = make([]nodes, 100000), nil }, api.ErrFull},
		{"no Weights", func(g *api.Grove) { g.Weights = nil }, api.ErrShape},
		{"a Weight too few", func(g *api.Grove) { g.Weights = g.Weights[1:] }, api.ErrShape},
		{"a Weight too many", func(g *api.Grove) { g.Weights = append(g.Weights, 1) }, api.ErrShape},
		{"the first Weight 0", func(g *api.Grove) { g.Weights[0] = 0 }, api.ErrRange},
		{"a Weight below 0", func(g *api.Grove) { g.Weights[1] = least }, api.ErrRange},
		{"the last Weight 1001", func(g *api.Grove) { g.Weights[len(g.Weights)-1] = 1001 }, api.ErrRange},
	}
	for _, f := range faults() {
		for place := range 3 {
			l = append(l, flaw{fmt.Sprint(f.name, " at ", place), func(g *api.Grove) { g.Trees[place] = f.tree }, f.want})
		}
	}
	return l
}

// checkGroveTold holds Grove to what Check tells, and with it to nothing else.
func checkGroveTold(t *testing.T, name string, g api.Grove, want api.Errno) {
	t.Helper()
	if err := grove.Check(g); told(err) != want {
		t.Errorf("%s: Check = %v, want %v", name, err, want)
	}
	if got, err := prune.Grove(g); told(err) != want || reflect.DeepEqual(got, api.Grove{}) != (want != none) {
		t.Errorf("%s: Grove = %v, %v, want %v", name, got, err, want)
	}
}

func TestGroveOfWrong(t *testing.T) {
	checkGroveTold(t, "the empty grove", api.Grove{}, api.ErrRange)
	for _, way := range ways() {
		checkGroveTold(t, "nothing", three(way), none)
		for _, f := range flaws() {
			checkGroveTold(t, f.name, changed(three(way), f.change), f.want)
		}
	}
	for _, f := range faults() {
		checkGroveTold(t, f.name+", alone", api.Grove{Features: 3, Way: api.Sum, Weights: ones(1), Trees: []nodes{f.tree}}, f.want)
		for place := range 12 {
			g := api.Grove{Features: 3, Way: api.Vote, Weights: ones(12), Trees: slices.Repeat([]nodes{says(1).lay()}, 12)}
			g.Trees[place] = f.tree
			checkGroveTold(t, fmt.Sprint(f.name, " at ", place, " of twelve"), g, f.want)
		}
	}
}

// TestGroveOfTwice: where two things are wrong, Grove tells the one that Check tells.
func TestGroveOfTwice(t *testing.T) {
	for _, a := range flaws() {
		g := changed(three(api.Mean), a.change)
		// Others may need trees and Weights to change.
		if len(g.Trees) < 3 || len(g.Trees) > 100 || len(g.Weights) < 2 {
			continue
		}
		for _, b := range flaws() {
			both := changed(g, b.change)
			checkGroveTold(t, a.name+"; "+b.name, both, told(grove.Check(both)))
		}
	}
}

// checkGrove holds Grove of a grove that is right to what is to come of it.
func (s *noise) checkGrove(t *testing.T, g api.Grove) api.Grove {
	t.Helper()
	got, err := prune.Grove(g)
	if err != nil {
		t.Fatalf("Grove of %v: %v", g, err)
	}
	want := copied(g)
	for i, n := range want.Trees {
		want.Trees[i] = treeOf(t, n, g.Features)
	}
	if !reflect.DeepEqual(got, want) {
		t.Fatalf("Grove of %v = %v, want %v", g, got, want)
	}
	if err := grove.Check(got); err != nil {
		t.Fatalf("Check of %v = %v", got, err)
	}
	for _, r := range s.someRows(slices.Concat(g.Trees...), g.Features, 20) {
		v, err := grove.Eval(got, r)
		each, bad := grove.Each(got, r)
		value, wrong := grove.Eval(g, r)
		values, ill := grove.Each(g, r)
		if v != value || !slices.Equal(each, values) || err != nil || bad != nil || wrong != nil || ill != nil {
			t.Fatalf("%v says %d, %v of %v; it was made of %v, which says %d, %v", got, v, each, r, g, value, values)
		}
	}
	if again, err := prune.Grove(got); !reflect.DeepEqual(again, got) || err != nil {
		t.Fatalf("Grove of what Grove gave, %v, = %v, %v", got, again, err)
	}
	return got
}

func TestGrove(t *testing.T) {
	var s noise = 18
	for _, way := range ways() {
		if got := s.checkGrove(t, three(way)); !reflect.DeepEqual(got, threePruned(way)) {
			t.Errorf("Grove = %v, want %v", got, threePruned(way))
		}
		for features := range 9 {
			g := wood(features, way, []int{1000, 1, 7, 7}, says(1), says(2), says(2), says(-3))
			if got := s.checkGrove(t, g); !reflect.DeepEqual(got, g) {
				t.Errorf("Grove = %v, want %v", got, g)
			}
		}
		// Trees that are the same are still as many.
		g := wood(8, way, ones(12), slices.Repeat([]*twig{even(5, 0).saying(3)}, 12)...)
		if got := s.checkGrove(t, g); !reflect.DeepEqual(got, wood(8, way, ones(12), slices.Repeat([]*twig{says(3)}, 12)...)) {
			t.Errorf("Grove = %v", got)
		}
		full := wood(8, way, slices.Repeat([]int{1000}, 12), slices.Repeat([]*twig{even(5, 0)}, 12)...)
		if got := s.checkGrove(t, full); !reflect.DeepEqual(got, full) {
			t.Errorf("Grove = %v, want %v", got, full)
		}
	}
}

func TestManyGroves(t *testing.T) {
	var s noise = 19
	for range 600 {
		features := s.below(9)
		g := api.Grove{Features: features, Way: 1 + s.below(3)}
		for range 1 + s.below(12) {
			questions := 0
			if features > 0 {
				questions = s.below([]int{2, 6, 32}[s.below(3)])
			}
			w := s.twig(questions, features, api.MaxDepth)
			g.Trees = append(g.Trees, w.apart().layBy(func(ready []*twig) int { return s.below(len(ready)) }))
			g.Weights = append(g.Weights, []int{1, 1, 2, 3, 999, 1000}[s.below(6)])
		}
		s.checkGrove(t, g)
	}
}

// guarded gives a list with memory behind its length, and all of that memory.
func guarded[T any](l []T, behind T) (list, all []T) {
	all = append(slices.Clone(l), slices.Repeat([]T{behind}, 8)...)
	return all[:len(l)], all
}

// someTrees gives trees that are right and trees that are not.
func someTrees() []nodes {
	var s noise = 20
	var l []nodes
	for _, f := range faults() {
		l = append(l, f.tree)
	}
	for _, w := range []*twig{says(1), ask(0, 5, says(1), says(2)), ask(0, 5, says(1), says(1)), ask(0, -end, says(1), says(2)), even(5, 0), chain(10)} {
		l = append(l, w.lays()...)
	}
	for range 20 {
		l = append(l, s.twig(s.below(32), 3, api.MaxDepth).lays()...)
	}
	return l
}

// TestListsStay: what is handed in, and what stands behind it, is as it was, and what stands behind it is not read.
func TestListsStay(t *testing.T) {
	for _, c := range someTrees() {
		for _, behind := range []api.Node{leaf(great), leaf(1), node(0, 0, 1, 2)} {
			n, all := guarded(c, behind)
			was := slices.Clone(all)
			for _, call := range []func([]api.Node, int) ([]api.Node, error){prune.Tree, prune.Sort} {
				got, err := call(n, 8)
				if !slices.Equal(all, was) {
					t.Fatalf("%v was written into", c)
				}
				want, wrong := call(slices.Clip(slices.Clone(c)), 8)
				if !slices.Equal(got, want) || told(err) != told(wrong) {
					t.Fatalf("%v, with memory behind: %v, %v, want %v, %v", c, got, err, want, wrong)
				}
			}
		}
	}
}

// scribble writes into all the memory of a list, also behind its length.
func scribble[T any](l []T, x T) {
	for i := range l[:cap(l)] {
		l[:cap(l)][i] = x
	}
}

// TestFresh: changing what came changes nothing of what was handed in, nor of what comes next, nor the other way round.
func TestFresh(t *testing.T) {
	for _, c := range someTrees() {
		for _, call := range []func([]api.Node, int) ([]api.Node, error){prune.Tree, prune.Sort} {
			n := slices.Clone(c)
			first, err := call(n, 8)
			if err != nil {
				continue
			}
			second, _ := call(n, 8)
			want := slices.Clone(first)
			scribble(first, leaf(77))
			if !slices.Equal(n, c) || !slices.Equal(second, want) {
				t.Fatalf("%v is %v, and what came of it %v, as what came before was written into", c, n, second)
			}
			scribble(n, leaf(78))
			if !slices.Equal(second, want) {
				t.Fatalf("what came of %v is %v, as it was written into", c, second)
			}
		}
	}
}

// TestGroveListsStay: the same of a grove, right or wrong.
func TestGroveListsStay(t *testing.T) {
	groves := []api.Grove{{}}
	for _, way := range ways() {
		groves = append(groves, three(way))
		for _, f := range flaws() {
			groves = append(groves, changed(three(way), f.change))
		}
	}
	for _, c := range groves {
		g := c
		var lists, was []nodes
		trees := make([]nodes, len(c.Trees))
		for i, n := range c.Trees {
			var all nodes
			trees[i], all = guarded(n, leaf(great))
			lists, was = append(lists, all), append(was, slices.Clone(all))
		}
		weights, allWeights := guarded(c.Weights, least)
		wasWeights := slices.Clone(allWeights)
		kept, allTrees := guarded(trees, says(great).lay())
		g.Trees, g.Weights = kept, weights
		wasTrees := copied(api.Grove{Trees: allTrees}).Trees
		got, err := prune.Grove(g)
		if !slices.Equal(allWeights, wasWeights) || !slices.EqualFunc(lists, was, slices.Equal[nodes]) || !slices.EqualFunc(allTrees, wasTrees, slices.Equal[nodes]) {
			t.Fatalf("%v was written into", c)
		}
		if want, wrong := prune.Grove(c); !reflect.DeepEqual(got, want) || told(err) != told(wrong) {
			t.Fatalf("%v, with memory behind: %v, %v, want %v, %v", c, got, err, want, wrong)
		}
	}
}

// TestGroveIsFresh: what came shares no memory with what was handed in, nor do two of its trees, also where those handed in do.
func TestGroveIsFresh(t *testing.T) {
	shared := ask(0, 5, says(-7), ask(1, 5, says(9), says(9))).lay()
	alike := api.Grove{Features: 3, Way: api.Sum, Weights: ones(3), Trees: []nodes{shared, shared, shared}}
	for _, c := range []api.Grove{three(api.Sum), three(api.Mean), three(api.Vote), alike, wood(0, api.Sum, ones(1), says(4))} {
		g := copied(c)
		want, err := prune.Grove(c)
		if err != nil {
			t.Fatal(err)
		}
		for place := range g.Trees {
			got, _ := prune.Grove(g)
			scribble(got.Trees[place], leaf(77))
			got.Trees[place] = want.Trees[place]
			if !reflect.DeepEqual(got, want) || !reflect.DeepEqual(g, c) {
				t.Errorf("Grove of %v is %v, as tree %d of it was written into", g, got, place)
			}
		}
		got, _ := prune.Grove(g)
		scribble(got.Weights, 77)
		scribble(got.Trees, says(77).lay())
		if !reflect.DeepEqual(g, c) {
			t.Errorf("%v is %v, as what came of it was written into", c, g)
		}
		got, _ = prune.Grove(g)
		for _, n := range g.Trees {
			scribble(n, leaf(78))
		}
		scribble(g.Weights, 78)
		scribble(g.Trees, nil)
		if !reflect.DeepEqual(got, want) {
			t.Errorf("what came of %v is %v, as it was written into", c, got)
		}
	}
}
