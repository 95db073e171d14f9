package flat_test

import (
	"errors"
	"fmt"
	"math"
	"reflect"
	"slices"
	"sync"
	"testing"

	"orchardry/api"
	"orchardry/flat"
	"orchardry/grove"
	"orchardry/row"
)

const (
	end   = api.MaxCell
	gone  = api.Nil
	least = math.MinInt
	great = math.MaxInt
)

// none stands for an error that is nil.
const none = api.OK

// told gives what an error tells; -1, if it is none of the program's, or OK, which no error may be.
func told(err error) api.Errno {
	var e api.Errno
	switch {
	case err == nil:
		return none
	case errors.As(err, &e) && e != api.OK:
		return e
	}
	return -1
}

// nodes of a tree.
type nodes = []api.Node

// leaf that says a value.
func leaf(value int) api.Node { return api.Node{Feature: api.Leaf, Value: value} }

// ask whether a feature is below a cut; what is not there goes to Right.
func ask(feature, cut, left, right int) api.Node {
	return api.Node{Feature: feature, Cut: cut, Left: left, Right: right}
}

// askLess is ask, but what is not there goes to Left.
func askLess(feature, cut, left, right int) api.Node {
	n := ask(feature, cut, left, right)
	n.Less = true
	return n
}

// says is a tree that says one value of every row.
func says(value int) nodes { return nodes{leaf(value)} }

// small has one question.
func small(feature, cut, left, right int) nodes {
	return nodes{ask(feature, cut, 1, 2), leaf(left), leaf(right)}
}

// even has below place i those at 2i+1 and 2i+2, so it lies level by level.
func even(count int) nodes {
	t := make(nodes, count)
	for i := range t {
		if 2*i+2 < count {
			t[i] = ask(i%8, i-20, 2*i+1, 2*i+2)
			t[i].Less = i%3 == 0
		} else {
			t[i] = leaf(i)
		}
	}
	return t
}

// chain is as deep as it is told, deeper to the right.
func chain(deep int) nodes {
	var t nodes
	for level := range deep {
		t = append(t, ask(0, level, len(t)+1, len(t)+2), leaf(level))
	}
	return append(t, leaf(100))
}

// with another thing at a place.
func with[T any](l []T, place int, x T) []T {
	l = slices.Clone(l)
	l[place] = x
	return l
}

// ones gives so many Weights of 1.
func ones(count int) []int { return slices.Repeat([]int{1}, count) }

// wood lays a grove.
func wood(features, way int, weights []int, trees ...nodes) api.Grove {
	return api.Grove{Features: features, Way: way, Weights: weights, Trees: trees}
}

// three trees that are right, of three features; the second one does not lie level by level.
func three(way int) api.Grove {
	return wood(3, way, []int{2, 3, 4},
		small(0, 5, -7, 9),
		nodes{ask(1, 0, 1, 4), askLess(2, -5, 2, 3), leaf(10), leaf(20), leaf(30)},
		says(6))
}

// threeLaid are the trees of three, level by level.
func threeLaid() []nodes {
	return []nodes{
		small(0, 5, -7, 9),
		{ask(1, 0, 1, 2), askLess(2, -5, 3, 4), leaf(30), leaf(10), leaf(20)},
		says(6),
	}
}

// copied gives a grove that shares nothing with another, whatever it is.
func copied(g api.Grove) api.Grove {
	g.Weights = slices.Clone(g.Weights)
	g.Trees = slices.Clone(g.Trees)
	for i, t := range g.Trees {
		g.Trees[i] = slices.Clone(t)
	}
	return g
}

// changed gives a grove with something of it changed.
func changed(g api.Grove, change func(g *api.Grove)) api.Grove {
	g = copied(g)
	change(&g)
	return g
}

// ways in which trees come together.
func ways() []int { return []int{api.Sum, api.Mean, api.Vote} }

// laid gives the Flat of a grove that is right.
func laid(t *testing.T, g api.Grove) *flat.Flat {
	t.Helper()
	f, err := flat.New(g)
	if err != nil || f == nil {
		t.Fatalf("New of %v = %v, %v", g, f, err)
	}
	return f
}

// noise: numbers that look as if they had no order, the same ones each time.
type noise uint64

func (s *noise) below(n int) int {
	*s = *s*6364136223846793005 + 1442695040888963407
	return int(uint64(*s) >> 33 % uint64(n))
}

// cell that may be, one in four not there.
func (s *noise) cell() int {
	switch s.below(4) {
	case 0:
		return gone
	case 1:
		return []int{-end, -end + 1, end - 1, end}[s.below(4)]
	}
	return s.below(9) - 4
}

func (s *noise) cells(count int) []int {
	l := make([]int, count)
	for i := range l {
		l[i] = s.cell()
	}
	return l
}

// value from few, so that trees often say the same.
func (s *noise) value() int { return []int{-end, -2, -1, 0, 1, 2, end}[s.below(7)] }

// tree of so many questions, not deeper than a tree may be.
func (s *noise) tree(questions, features int) nodes {
	t := make(nodes, 2*questions+1)
	deep := make([]int, len(t))
	// free holds the places that are somebody's and are not yet laid.
	free := []int{0}
	next := 1
	for next < len(t) {
		pick := s.below(len(free))
		at := free[pick]
		if deep[at] == api.MaxDepth {
			continue
		}
		left, right := next, next+1
		if s.below(2) == 0 {
			left, right = right, left
		}
		t[at] = ask(s.below(features), []int{-end, -3, -1, 0, 1, 3, end}[s.below(7)], left, right)
		t[at].Less = s.below(2) == 0
		deep[left], deep[right] = deep[at]+1, deep[at]+1
		next += 2
		free = append(slices.Delete(free, pick, pick+1), left, right)
	}
	for _, at := range free {
		t[at] = leaf(s.value())
	}
	return t
}

// turned gives the same tree with its nodes in another order in which what is below stands behind.
func (s *noise) turned(t nodes) nodes {
	place := make([]int, len(t))
	order := make([]int, 0, len(t))
	ready := []int{0}
	for len(ready) > 0 {
		pick := s.below(len(ready))
		at := ready[pick]
		ready = slices.Delete(ready, pick, pick+1)
		place[at] = len(order)
		order = append(order, at)
		if t[at].Feature != api.Leaf {
			ready = append(ready, t[at].Left, t[at].Right)
		}
	}
	l := make(nodes, len(t))
	for i, at := range order {
		l[i] = t[at]
		if t[at].Feature != api.Leaf {
			l[i].Left, l[i].Right = place[t[at].Left], place[t[at].Right]
		}
	}
	return l
}

// grove that is right, of so many trees, each with at most so many questions.
func (s *noise) grove(way, trees, questions int) api.Grove {
	g := wood(s.below(9), way, nil)
	for range trees {
		asked := 0
		if g.Features > 0 {
			asked = s.below(questions + 1)
		}
		g.Trees = append(g.Trees, s.turned(s.tree(asked, max(g.Features, 1))))
		g.Weights = append(g.Weights, []int{1, 1, 2, 3, 999, 1000}[s.below(6)])
	}
	return g
}

// nearCut gives a row each of whose cells is not there, or by a Cut of a grove: at it, or one below.
func (s *noise) nearCut(g api.Grove) []int {
	r := make([]int, g.Features)
	for i := range r {
		cells := []int{gone}
		for _, t := range g.Trees {
			for _, n := range t {
				if n.Feature == i {
					cells = append(cells, n.Cut, max(n.Cut-1, -end))
				}
			}
		}
		r[i] = cells[s.below(len(cells))]
	}
	return r
}

// checkSame holds Eval and Many of a Flat to what its grove says of a row.
func checkSame(t *testing.T, f *flat.Flat, g api.Grove, r []int) {
	t.Helper()
	want, wrong := grove.Eval(g, r)
	if v, err := f.Eval(r); v != want || told(err) != told(wrong) {
		t.Fatalf("%v: Eval of %v = %d, %v, want %d, %v", g, r, v, err, want, wrong)
	}
	l, err := f.Many([][]int{r, r})
	if told(err) != told(wrong) || err != nil && l != nil || err == nil && !slices.Equal(l, []int{want, want}) {
		t.Fatalf("%v: Many of %v, twice = %v, %v, want %d, %v", g, r, l, err, want, wrong)
	}
}

// fault of a tree, and what chapter 4 tells of it where features are three.
type fault struct {
	name string
	tree nodes
	want api.Errno
}

func faults() []fault {
	return []fault{
		{"64 nodes", even(64), api.ErrFull},
		{"65 nodes", even(65), api.ErrFull},
		{"no nodes", nil, api.ErrNone},
		{"an empty list of nodes", nodes{}, api.ErrNone},
		{"a Value beyond", says(end + 1), api.ErrRange},
		{"a Value beyond, below 0", says(-end - 1), api.ErrRange},
		{"a Value far beyond", says(least), api.ErrRange},
		{"a leaf with a Cut", nodes{{Feature: api.Leaf, Cut: 1}}, api.ErrShape},
		{"a leaf with a Left", nodes{{Feature: api.Leaf, Left: 1}}, api.ErrShape},
		{"a leaf with a Right", nodes{{Feature: api.Leaf, Right: 1}}, api.ErrShape},
		{"a leaf with Less", nodes{{Feature: api.Leaf, Less: true}}, api.ErrShape},
		{"a Feature below", small(-2, 0, 1, 2), api.ErrRange},
		{"a Feature beyond", small(3, 0, 1, 2), api.ErrRange},
		{"a Feature far beyond", small(great, 0, 1, 2), api.ErrRange},
		{"a Cut beyond", small(0, end+1, 1, 2), api.ErrRange},
		{"a Cut beyond, below 0", small(0, -end-1, 1, 2), api.ErrRange},
		{"a Cut that is not there", small(0, gone, 1, 2), api.ErrRange},
		{"a Left that is not behind", nodes{ask(0, 0, 0, 1), leaf(1)}, api.ErrRange},
		{"a Right that is not behind", nodes{ask(0, 0, 1, 0), leaf(1)}, api.ErrRange},
		{"a Left beyond", nodes{ask(0, 0, 3, 1), leaf(1), leaf(2)}, api.ErrRange},
		{"a Right far beyond", nodes{ask(0, 0, 1, great), leaf(1), leaf(2)}, api.ErrRange},
		{"one that asks with a Value", nodes{{Left: 1, Right: 2, Value: 1}, leaf(1), leaf(2)}, api.ErrShape},
		{"Left that is Right", nodes{ask(0, 0, 1, 1), leaf(1)}, api.ErrShape},
		{"a leaf that is nobody's", append(small(0, 0, 1, 2), leaf(3)), api.ErrClash},
		{"a leaf that is two's", nodes{ask(0, 0, 1, 2), ask(0, 0, 2, 3), leaf(1), leaf(2)}, api.ErrClash},
		{"too deep", chain(11), api.ErrFull},
	}
}

// flaw is something that is wrong with a grove.
type flaw struct {
	name   string
	change func(g *api.Grove)
	want   api.Errno
}

func flaws() []flaw {
	l := []flaw{
		{"Features -1", func(g *api.Grove) { g.Features = -1 }, api.ErrRange},
		{"Features 9", func(g *api.Grove) { g.Features = 9 }, api.ErrRange},
		{"Features far beyond", func(g *api.Grove) { g.Features = great }, api.ErrRange},
		{"Features too few for what is asked", func(g *api.Grove) { g.Features = 2 }, api.ErrRange},
		{"Way 0", func(g *api.Grove) { g.Way = 0 }, api.ErrRange},
		{"Way 4", func(g *api.Grove) { g.Way = 4 }, api.ErrRange},
		{"no trees", func(g *api.Grove) { g.Trees = nil }, api.ErrNone},
		{"no trees and no Weights", func(g *api.Grove) { g.Trees, g.Weights = nil, nil }, api.ErrNone},
		{"an empty list of trees", func(g *api.Grove) { g.Trees, g.Weights = []nodes{}, []int{} }, api.ErrNone},
		{"13 trees", func(g *api.Grove) { g.Trees, g.Weights = slices.Repeat([]nodes{says(1)}, 13), ones(13) }, api.ErrFull},
		{"100000 trees", func(g *api.Grove) { g.Trees, g.Weights = make([]nodes, 100000), nil }, api.ErrFull},
		{"no Weights", func(g *api.Grove) { g.Weights = nil }, api.ErrShape},
		{"a Weight too few", func(g *api.Grove) { g.Weights = g.Weights[1:] }, api.ErrShape},
		{"a Weight too many", func(g *api.Grove) { g.Weights = append(g.Weights, 1) }, api.ErrShape},
		{"the first Weight 0", func(g *api.Grove) { g.Weights[0] = 0 }, api.ErrRange},
		{"a Weight below 0", func(g *api.Grove) { g.Weights[1] = least }, api.ErrRange},
		{"the last Weight 1001", func(g *api.Grove) { g.Weights[len(g.Weights)-1] = 1001 }, api.ErrRange},
	}
	for _, f := range faults() {
		for place := range 3 {
			l = append(l, flaw{fmt.Sprint(f.name, " at ", place), func(g *api.Grove) { g.Trees[place] = f.tree }, f.want})
		}
	}
	return l
}

// checkNewTold holds New to an error, and with it to no Flat.
func checkNewTold(t *testing.T, name string, g api.Grove, want api.Errno) {
	t.Helper()
	if err := grove.Check(g); told(err) != want {
		t.Errorf("%s: Check = %v, want %v", name, err, want)
	}
	if f, err := flat.New(g); told(err) != want || (f == nil) != (want != none) {
		t.Errorf("%s: New = %v, %v, want %v", name, f, err, want)
	}
}

func TestNewOfWrong(t *testing.T) {
	checkNewTold(t, "the empty grove", api.Grove{}, api.ErrRange)
	for _, way := range ways() {
		checkNewTold(t, "nothing", three(way), none)
		for _, f := range flaws() {
			checkNewTold(t, f.name, changed(three(way), f.change), f.want)
		}
	}
	for _, f := range faults() {
		checkNewTold(t, f.name+", alone", wood(3, api.Sum, ones(1), f.tree), f.want)
		for place := range 12 {
			g := wood(3, api.Vote, ones(12), slices.Repeat([]nodes{says(1)}, 12)...)
			g.Trees[place] = f.tree
			checkNewTold(t, fmt.Sprint(f.name, " at ", place, " of twelve"), g, f.want)
		}
	}
}

// TestNewOfTwice: where two things are wrong, New tells the one that Check tells.
func TestNewOfTwice(t *testing.T) {
	for _, a := range flaws() {
		g := changed(three(api.Mean), a.change)
		// Others may need trees and Weights to change.
		if len(g.Trees) < 3 || len(g.Weights) < 2 {
			continue
		}
		for _, b := range flaws() {
			both := changed(g, b.change)
			checkNewTold(t, a.name+"; "+b.name, both, told(grove.Check(both)))
		}
	}
}

func TestEval(t *testing.T) {
	for _, c := range []struct {
		row             []int
		sum, mean, vote int
	}{
		// Weights 2, 3, 4: so the third tree has most of the votes.
		{[]int{0, 0, 0}, -14 + 90 + 24, 11, 6},
		{[]int{4, -1, -6}, -14 + 30 + 24, 4, 6},
		{[]int{5, -1, -5}, 18 + 60 + 24, 11, 6},
		{[]int{gone, -1, gone}, 18 + 30 + 24, 8, 6},
		{[]int{gone, gone, gone}, 18 + 90 + 24, 14, 6},
		{[]int{-end, -end, -end}, -14 + 30 + 24, 4, 6},
		{[]int{end, end, end}, 18 + 90 + 24, 14, 6},
	} {
		for way, want := range map[int]int{api.Sum: c.sum, api.Mean: c.mean, api.Vote: c.vote} {
			if v, err := laid(t, three(way)).Eval(c.row); v != want || err != nil {
				t.Errorf("Way %d: Eval of %v = %d, %v, want %d", way, c.row, v, err, want)
			}
		}
	}
}

// TestTogether: what trees say comes together as chapter 6 says.
func TestTogether(t *testing.T) {
	for _, c := range []struct {
		name            string
		weights, values []int
		sum, mean, vote int
	}{
		{"one", []int{3}, []int{-7}, -21, -7, -7},
		{"0", []int{1000}, []int{0}, 0, 0, 0},
		{"rounded down", []int{1, 1}, []int{1, 2}, 3, 1, 1},
		{"rounded down below 0", []int{1, 1}, []int{-1, -2}, -3, -2, -2},
		{"two equal votes", []int{2, 1, 1}, []int{8, 7, 7}, 30, 7, 7},
		{"most Weight, not most trees", []int{5, 2, 2}, []int{9, 8, 8}, 77, 8, 9},
		{"Weights in their order", []int{1, 10}, []int{100, 3}, 130, 11, 3},
		{"the ends", slices.Repeat([]int{1000}, 12), slices.Repeat([]int{end}, 12), 12_000_000_000, end, end},
		{"the ends below 0", slices.Repeat([]int{1000}, 12), slices.Repeat([]int{-end}, 12), -12_000_000_000, -end, -end},
	} {
		for way, want := range map[int]int{api.Sum: c.sum, api.Mean: c.mean, api.Vote: c.vote} {
			g := wood(0, way, c.weights)
			for _, v := range c.values {
				g.Trees = append(g.Trees, says(v))
			}
			f := laid(t, g)
			if v, err := f.Eval(nil); v != want || err != nil {
				t.Errorf("%s, Way %d: Eval = %d, %v, want %d", c.name, way, v, err, want)
			}
			if v, err := f.Eval([]int{}); v != want || err != nil {
				t.Errorf("%s, Way %d: Eval of an empty list = %d, %v, want %d", c.name, way, v, err, want)
			}
		}
	}
}

// TestAtCuts: cells at a Cut go to Right, those one below it to Left, what is not there as Less says.
func TestAtCuts(t *testing.T) {
	for _, cut := range []int{-end, -end + 1, -1, 0, 1, end - 1, end} {
		for _, less := range []bool{false, true} {
			n := small(1, cut, 10, 20)
			n[0].Less = less
			f := laid(t, wood(2, api.Sum, ones(1), n))
			want := map[int]int{cut: 20, end: 20, gone: 20}
			if less {
				want[gone] = 10
			}
			if cut > -end {
				want[cut-1], want[-end] = 10, 10
			}
			for cell, value := range want {
				for _, other := range []int{-end, end, gone} {
					if v, err := f.Eval([]int{other, cell}); v != value || err != nil {
						t.Errorf("Cut %d, Less %v: Eval of %d = %d, %v, want %d", cut, less, cell, v, err, value)
					}
				}
			}
		}
	}
}

// TestEvalAgainstGrove holds many groves of each Way, of one tree up to twelve, to what chapter 6 says of them.
func TestEvalAgainstGrove(t *testing.T) {
	var s noise = 7
	for _, way := range ways() {
		for _, trees := range []int{1, 2, 3, 5, 11, 12} {
			for _, questions := range []int{0, 1, 4, 12, 31} {
				for range 20 {
					g := s.grove(way, trees, questions)
					f := laid(t, g)
					for range 10 {
						checkSame(t, f, g, s.cells(g.Features))
						checkSame(t, f, g, s.nearCut(g))
					}
					checkSame(t, f, g, slices.Repeat([]int{gone}, g.Features))
					checkSame(t, f, g, s.cells(s.below(11)))
				}
			}
		}
	}
}

// widest gives trees at the ends of what a tree may be.
func widest() []nodes {
	var s noise = 77
	l := []nodes{says(0), says(end), says(-end), even(63), chain(10), small(7, 0, 1, 2)}
	for range 8 {
		n := s.tree(31, 8)
		l = append(l, n, s.turned(n))
	}
	return l
}

// TestWidest: twelve trees of 63 nodes each, and trees of one leaf beside trees of 63.
func TestWidest(t *testing.T) {
	var s noise = 78
	var groves []api.Grove
	for _, way := range ways() {
		for _, n := range widest() {
			groves = append(groves,
				wood(8, way, []int{1000}, n),
				wood(8, way, ones(12), slices.Repeat([]nodes{n}, 12)...),
				wood(8, way, []int{3, 2, 1}, says(1), n, says(2)),
				wood(8, way, []int{1, 2, 3}, n, says(1), n))
		}
		groves = append(groves, wood(8, way, []int{1, 2, 3, 4, 5, 6, 7, 8, 9, 10, 11, 12}, widest()[:12]...))
	}
	for _, g := range groves {
		f := laid(t, g)
		checkLaid(t, f, g)
		for range 30 {
			checkSame(t, f, g, s.cells(8))
			checkSame(t, f, g, s.nearCut(g))
		}
	}
}

// badRow is a row that is wrong, and what a grove of three features tells of it.
type badRow struct {
	name string
	row  []int
	want api.Errno
}

func badRows() []badRow {
	return []badRow{
		{"nil", nil, api.ErrShape},
		{"no cells", []int{}, api.ErrShape},
		{"one cell", []int{1}, api.ErrShape},
		{"two cells", []int{1, 2}, api.ErrShape},
		{"four cells", []int{1, 2, 3, 4}, api.ErrShape},
		{"four cells that are not there", []int{gone, gone, gone, gone}, api.ErrShape},
		{"eight cells", make([]int, 8), api.ErrShape},
		{"nine cells", make([]int, 9), api.ErrFull},
		{"100000 cells", make([]int, 100000), api.ErrFull},
		{"nine cells, the first one beyond", with(make([]int, 9), 0, great), api.ErrFull},
		{"the first one beyond", []int{end + 1, 0, 0}, api.ErrRange},
		{"the second one beyond, below 0", []int{0, -end - 1, 0}, api.ErrRange},
		{"the third one the least number", []int{0, 0, least}, api.ErrRange},
		{"the third one the greatest number", []int{0, 0, great}, api.ErrRange},
		{"one more than Nil", []int{gone + 1, 0, 0}, api.ErrRange},
		{"one less than Nil", []int{gone - 1, 0, 0}, api.ErrRange},
		{"two cells, one beyond", []int{0, end + 1}, api.ErrRange},
		{"four cells, the last one beyond", []int{0, 0, 0, end + 1}, api.ErrRange},
		{"eight cells, the last one beyond", with(make([]int, 8), 7, great), api.ErrRange},
		{"one cell, beyond", []int{great}, api.ErrRange},
	}
}

func TestEvalOfWrong(t *testing.T) {
	for _, way := range ways() {
		g := three(way)
		f := laid(t, g)
		for _, c := range badRows() {
			if v, err := f.Eval(c.row); v != 0 || told(err) != c.want {
				t.Errorf("Eval of %s = %d, %v, want 0, %v", c.name, v, err, c.want)
			}
			checkSame(t, f, g, c.row)
			// What was wrong before is nothing to the next one.
			checkSame(t, f, g, []int{4, -1, -6})
		}
	}
	for features := range 9 {
		f := laid(t, wood(features, api.Sum, ones(1), says(4)))
		for cells := range 9 {
			want, value := api.ErrShape, 0
			if cells == features {
				want, value = none, 4
			}
			if v, err := f.Eval(make([]int, cells)); v != value || told(err) != want {
				t.Errorf("%d features: Eval of %d cells = %d, %v, want %d, %v", features, cells, v, err, value, want)
			}
		}
	}
}

// rightRows gives so many rows of three cells, and what three says of them.
func rightRows(t *testing.T, way, count int) (rows [][]int, want []int) {
	t.Helper()
	var s noise = 79
	for range count {
		r := []int{s.below(3) + 3, s.below(3) - 1, s.below(3) - 6}
		v, err := grove.Eval(three(way), r)
		if err != nil {
			t.Fatal(err)
		}
		rows, want = append(rows, r), append(want, v)
	}
	return rows, want
}

func TestMany(t *testing.T) {
	for _, way := range ways() {
		f := laid(t, three(way))
		for _, rows := range [][][]int{nil, {}} {
			if l, err := f.Many(rows); len(l) != 0 || err != nil {
				t.Errorf("Many of %v = %v, %v", rows, l, err)
			}
		}
		for _, count := range []int{1, 2, 3, 63, 64, 500, 999, 1000} {
			rows, want := rightRows(t, way, count)
			if l, err := f.Many(rows); !slices.Equal(l, want) || err != nil {
				t.Errorf("Many of %d = %v, %v, want %v", count, l, err, want)
			}
		}
		for _, count := range []int{1001, 1002, 2000, 100000} {
			rows, _ := rightRows(t, way, count)
			checkManyTold(t, fmt.Sprint(count), f, rows, api.ErrFull)
		}
	}
	empty := laid(t, wood(0, api.Sum, ones(2), says(3), says(4)))
	if l, err := empty.Many([][]int{nil, {}, nil}); !slices.Equal(l, []int{7, 7, 7}) || err != nil {
		t.Errorf("Many of rows without cells = %v, %v", l, err)
	}
	checkManyTold(t, "1001 rows without cells", empty, make([][]int, 1001), api.ErrFull)
}

// checkManyTold holds Many to an error, and with it to nothing else.
func checkManyTold(t *testing.T, name string, f *flat.Flat, rows [][]int, want api.Errno) {
	t.Helper()
	if l, err := f.Many(rows); l != nil || told(err) != want {
		t.Errorf("%s: Many = %v, %v, want %v", name, l, err, want)
	}
}

// TestManyOfWrong lays a wrong row at the first place, in the middle and last; of two that are wrong the first one's fault is told.
func TestManyOfWrong(t *testing.T) {
	f := laid(t, three(api.Sum))
	for _, c := range badRows() {
		for _, count := range []int{1, 2, 3, 7, 1000} {
			rows, want := rightRows(t, api.Sum, count)
			for _, place := range []int{0, count / 2, count - 1} {
				checkManyTold(t, fmt.Sprint(c.name, " at ", place, " of ", count), f, with(rows, place, c.row), c.want)
			}
			if l, err := f.Many(rows); !slices.Equal(l, want) || err != nil {
				t.Errorf("Many, behind a wrong one = %v, %v, want %v", l, err, want)
			}
		}
		for _, other := range badRows() {
			rows, _ := rightRows(t, api.Sum, 5)
			for first := range 5 {
				for second := first + 1; second < 5; second++ {
					two := with(with(rows, first, c.row), second, other.row)
					checkManyTold(t, fmt.Sprint(c.name, " at ", first, ", ", other.name, " at ", second), f, two, c.want)
				}
			}
		}
	}
}

// TestManyTooMany: that there are too many rows is told ahead of what is wrong with any of them.
func TestManyTooMany(t *testing.T) {
	f := laid(t, three(api.Sum))
	for _, c := range badRows() {
		for _, count := range []int{1001, 5000} {
			rows, _ := rightRows(t, api.Sum, count)
			for _, place := range []int{0, 1, 999, 1000, count - 1} {
				checkManyTold(t, fmt.Sprint(c.name, " at ", place, " of ", count), f, with(rows, place, c.row), api.ErrFull)
			}
		}
		checkManyTold(t, "1001 of "+c.name, f, slices.Repeat([][]int{c.row}, 1001), api.ErrFull)
		checkManyTold(t, "1000 of "+c.name, f, slices.Repeat([][]int{c.row}, 1000), c.want)
	}
}

// TestManyAgainstEval holds Many to Eval of each row.
func TestManyAgainstEval(t *testing.T) {
	var s noise = 80
	for range 300 {
		g := s.grove(1+s.below(3), 1+s.below(12), 6)
		f := laid(t, g)
		var rows [][]int
		var want []int
		wrong := none
		for range s.below(40) {
			r := s.nearCut(g)
			if s.below(60) == 0 {
				r = s.cells(s.below(10))
			}
			v, err := grove.Eval(g, r)
			if wrong == none {
				wrong = told(err)
			}
			rows, want = append(rows, r), append(want, v)
		}
		if wrong != none {
			want = nil
		}
		if l, err := f.Many(rows); !slices.Equal(l, want) || told(err) != wrong {
			t.Fatalf("%v: Many of %v = %v, %v, want %v, %v", g, rows, l, err, want, wrong)
		}
	}
}

func TestSize(t *testing.T) {
	for _, c := range []struct {
		name  string
		trees []nodes
		want  int
	}{
		{"one leaf", []nodes{says(4)}, 1},
		{"twelve leaves", slices.Repeat([]nodes{says(4)}, 12), 12},
		{"one question", []nodes{small(0, 5, 1, 2)}, 3},
		{"three trees", three(api.Sum).Trees, 9},
		{"a leaf behind", []nodes{even(63), says(4)}, 64},
		{"a leaf ahead", []nodes{says(4), even(63)}, 64},
		{"a deep one", []nodes{chain(10)}, 21},
		{"the most", slices.Repeat([]nodes{even(63)}, 12), 756},
	} {
		for _, way := range ways() {
			f := laid(t, wood(8, way, slices.Repeat([]int{7}, len(c.trees)), c.trees...))
			for range 2 {
				if got := f.Size(); got != c.want {
					t.Errorf("%s: Size = %d, want %d", c.name, got, c.want)
				}
				f.Eval(make([]int, 8))
				f.Eval(nil)
				f.Many(make([][]int, 1001))
				f.Many([][]int{make([]int, 8), {great}})
				scribble(f.Grove())
			}
		}
	}
}

// byLevel works out how the nodes of a tree stand level by level: of each node which level it is on, and which of the places of that level is its own.
func byLevel(t nodes) nodes {
	type spot struct{ level, side, at int }
	var spots []spot
	var walk func(at, level, side int)
	walk = func(at, level, side int) {
		spots = append(spots, spot{level, side, at})
		if t[at].Feature != api.Leaf {
			walk(t[at].Left, level+1, 2*side)
			walk(t[at].Right, level+1, 2*side+1)
		}
	}
	walk(0, 0, 0)
	slices.SortFunc(spots, func(a, b spot) int {
		if a.level != b.level {
			return a.level - b.level
		}
		return a.side - b.side
	})
	place := map[int]int{}
	for i, s := range spots {
		place[s.at] = i
	}
	l := make(nodes, len(spots))
	for i, s := range spots {
		l[i] = t[s.at]
		if l[i].Feature != api.Leaf {
			l[i].Left, l[i].Right = place[l[i].Left], place[l[i].Right]
		}
	}
	return l
}

// checkLaid holds Grove and Size of a Flat to what they are to be of the grove it was made of.
func checkLaid(t *testing.T, f *flat.Flat, g api.Grove) {
	t.Helper()
	want := copied(g)
	size := 0
	for i, n := range want.Trees {
		want.Trees[i] = byLevel(n)
		size += len(n)
	}
	got := f.Grove()
	if !reflect.DeepEqual(got, want) {
		t.Fatalf("Grove = %v, want %v", got, want)
	}
	if err := grove.Check(got); err != nil {
		t.Fatalf("Check of %v = %v", got, err)
	}
	if f.Size() != size {
		t.Fatalf("Size = %d, want %d", f.Size(), size)
	}
}

// TestLevels: how trees stand that lie otherwise.
func TestLevels(t *testing.T) {
	for _, c := range []struct {
		name       string
		tree, want nodes
	}{
		{"one leaf", says(4), says(4)},
		{"one question", small(0, 5, 1, 2), small(0, 5, 1, 2)},
		{"one question, turned round",
			nodes{ask(0, 5, 2, 1), leaf(1), leaf(2)},
			nodes{ask(0, 5, 1, 2), leaf(2), leaf(1)}},
		{"deeper to the left, Left right behind",
			nodes{ask(0, 9, 1, 6), ask(1, 8, 2, 5), askLess(2, 7, 3, 4), leaf(10), leaf(20), leaf(30), leaf(40)},
			nodes{ask(0, 9, 1, 2), ask(1, 8, 3, 4), leaf(40), askLess(2, 7, 5, 6), leaf(30), leaf(10), leaf(20)}},
		{"deeper to the left, level by level already",
			nodes{ask(0, 9, 1, 2), ask(1, 8, 3, 4), leaf(40), askLess(2, 7, 5, 6), leaf(30), leaf(10), leaf(20)},
			nodes{ask(0, 9, 1, 2), ask(1, 8, 3, 4), leaf(40), askLess(2, 7, 5, 6), leaf(30), leaf(10), leaf(20)}},
		{"deeper to the right, level by level already",
			nodes{ask(0, 1, 1, 2), leaf(10), askLess(1, 2, 3, 4), leaf(20), ask(2, 3, 5, 6), leaf(30), leaf(40)},
			nodes{ask(0, 1, 1, 2), leaf(10), askLess(1, 2, 3, 4), leaf(20), ask(2, 3, 5, 6), leaf(30), leaf(40)}},
		{"deeper to the right, leaves last",
			nodes{ask(0, 1, 6, 1), askLess(1, 2, 5, 2), ask(2, 3, 4, 3), leaf(40), leaf(30), leaf(20), leaf(10)},
			nodes{ask(0, 1, 1, 2), leaf(10), askLess(1, 2, 3, 4), leaf(20), ask(2, 3, 5, 6), leaf(30), leaf(40)}},
		{"both sides, the right one first",
			nodes{ask(0, 0, 4, 1), ask(1, 1, 3, 2), leaf(4), leaf(3), askLess(2, 2, 6, 5), leaf(2), leaf(1)},
			nodes{ask(0, 0, 1, 2), askLess(2, 2, 3, 4), ask(1, 1, 5, 6), leaf(1), leaf(2), leaf(3), leaf(4)}},
		{"both sides, the left one first",
			nodes{ask(0, 0, 1, 4), ask(1, 1, 2, 3), leaf(1), leaf(2), askLess(2, 2, 5, 6), leaf(3), leaf(4)},
			nodes{ask(0, 0, 1, 2), ask(1, 1, 3, 4), askLess(2, 2, 5, 6), leaf(1), leaf(2), leaf(3), leaf(4)}},
		{"those of its Left, then of its Right, whichever stands ahead",
			nodes{ask(0, 0, 2, 1), ask(0, 5, 3, 4), ask(0, -5, 6, 5), leaf(30), leaf(40), leaf(20), leaf(10)},
			nodes{ask(0, 0, 1, 2), ask(0, -5, 3, 4), ask(0, 5, 5, 6), leaf(10), leaf(20), leaf(30), leaf(40)}},
		{"leaves of one Value",
			nodes{ask(0, 0, 2, 1), leaf(7), ask(1, 0, 4, 3), leaf(7), leaf(7)},
			nodes{ask(0, 0, 1, 2), ask(1, 0, 3, 4), leaf(7), leaf(7), leaf(7)}},
		{"even", even(63), even(63)},
		{"a chain", chain(10), chain(10)},
	} {
		for _, trees := range [][]nodes{{c.tree}, {c.tree, c.tree}, {says(1), c.tree, small(2, 0, 1, 2)}} {
			g := wood(8, api.Mean, []int{1000, 3, 1}[:len(trees)], trees...)
			want := copied(g)
			for i, n := range want.Trees {
				if reflect.DeepEqual(n, c.tree) {
					want.Trees[i] = c.want
				}
			}
			f := laid(t, g)
			if got := f.Grove(); !reflect.DeepEqual(got, want) {
				t.Errorf("%s: Grove = %v, want %v", c.name, got, want)
			}
			checkLaid(t, f, g)
		}
	}
}

// TestGroveTellsTheSame: what Grove gives is right, has as many trees and nodes, lies level by level, and tells the same; laid flat again it comes as it was.
func TestGroveTellsTheSame(t *testing.T) {
	var s noise = 81
	for range 1500 {
		g := s.grove(1+s.below(3), 1+s.below(12), []int{1, 3, 8, 31}[s.below(4)])
		f := laid(t, g)
		checkLaid(t, f, g)
		got := f.Grove()
		again := laid(t, got)
		if !reflect.DeepEqual(again.Grove(), got) || again.Size() != f.Size() {
			t.Fatalf("Grove, laid again = %v, want %v", again.Grove(), got)
		}
		for range 8 {
			r := s.nearCut(g)
			if s.below(2) == 0 {
				r = s.cells(g.Features)
			}
			checkSame(t, f, got, r)
			checkSame(t, again, g, r)
			each, err := grove.Each(got, r)
			want, wrong := grove.Each(g, r)
			if !slices.Equal(each, want) || err != nil || wrong != nil {
				t.Fatalf("Each of %v = %v, %v, want %v, %v", r, each, err, want, wrong)
			}
		}
	}
}

// TestGroveKeepsTheRest: Features, Way and Weights are those that were handed in.
func TestGroveKeepsTheRest(t *testing.T) {
	for _, way := range ways() {
		for features := range 9 {
			g := wood(features, way, []int{1000, 1, 7, 7}, says(1), says(2), says(2), says(-3))
			if got := laid(t, g).Grove(); !reflect.DeepEqual(got, g) {
				t.Errorf("Grove = %v, want %v", got, g)
			}
		}
		got := laid(t, three(way)).Grove()
		if want := wood(3, way, []int{2, 3, 4}, threeLaid()...); !reflect.DeepEqual(got, want) {
			t.Errorf("Grove = %v, want %v", got, want)
		}
	}
}

// guarded gives a list with memory behind its length, and all of that memory.
func guarded[T any](l []T, behind T) (list, all []T) {
	all = append(slices.Clone(l), slices.Repeat([]T{behind}, 8)...)
	return all[:len(l)], all
}

// guardedGrove gives a grove all of whose lists have memory behind them that would be wrong, and a call that tells whether all of it is as it was.
func guardedGrove(g api.Grove) (api.Grove, func() bool) {
	var all, was []nodes
	lists := make([]nodes, len(g.Trees))
	for i, n := range g.Trees {
		var memory nodes
		lists[i], memory = guarded(n, leaf(great))
		all, was = append(all, memory), append(was, slices.Clone(memory))
	}
	weights, allWeights := guarded(g.Weights, least)
	wasWeights := slices.Clone(allWeights)
	trees, allTrees := guarded(lists, says(great))
	g.Weights, g.Trees = weights, trees
	stays := func() bool {
		for i, n := range allTrees {
			if i < len(lists) && (len(n) != len(lists[i]) || len(n) > 0 && &n[0] != &lists[i][0]) {
				return false
			}
			if i >= len(lists) && !slices.Equal(n, says(great)) {
				return false
			}
		}
		return slices.Equal(allWeights, wasWeights) && slices.EqualFunc(all, was, slices.Equal[nodes])
	}
	return g, stays
}

// TestListsStay: what is handed in, and what stands behind it, is as it was, and what stands behind it is not read.
func TestListsStay(t *testing.T) {
	groves := []api.Grove{{}, wood(8, api.Vote, ones(12), slices.Repeat([]nodes{even(63)}, 12)...)}
	for _, way := range ways() {
		groves = append(groves, three(way))
		for _, f := range flaws() {
			groves = append(groves, changed(three(way), f.change))
		}
	}
	for _, c := range groves {
		g, stays := guardedGrove(c)
		f, err := flat.New(g)
		if told(err) != told(grove.Check(c)) {
			t.Errorf("New of %v = %v", c, err)
		}
		if err == nil {
			useAll(t, f, c)
		}
		if !stays() {
			t.Errorf("%v was written into", c)
		}
	}
}

// useAll makes each call of a Flat, with rows that have memory behind them, and holds that memory to stay.
func useAll(t *testing.T, f *flat.Flat, g api.Grove) {
	t.Helper()
	for _, cells := range [][]int{nil, {4, gone, 3}, make([]int, 8), make([]int, 9), {great}} {
		r, all := guarded(cells, least)
		was := slices.Clone(all)
		rows, allRows := guarded([][]int{r, r}, []int{great})
		checkSame(t, f, g, r)
		l, err := f.Many(rows)
		if want := told(row.Check(cells)); want != none && (told(err) != want || l != nil) {
			t.Errorf("Many of %v = %v, %v, want %v", rows, l, err, want)
		}
		if !slices.Equal(all, was) || !slices.EqualFunc(allRows[2:], slices.Repeat([][]int{{great}}, 8), slices.Equal[[]int]) {
			t.Errorf("%v was written into", cells)
		}
		for _, other := range allRows[:2] {
			if len(other) != len(cells) || len(other) > 0 && &other[0] != &r[0] {
				t.Errorf("a row of %v was laid otherwise", cells)
			}
		}
	}
	checkLaid(t, f, g)
}

// scribble writes into all the memory of a grove, also behind its lists.
func scribble(g api.Grove) {
	for _, n := range g.Trees[:cap(g.Trees)] {
		n = n[:cap(n)]
		for i := range n {
			n[i] = leaf(77)
		}
	}
	weights, trees := g.Weights[:cap(g.Weights)], g.Trees[:cap(g.Trees)]
	for i := range weights {
		weights[i] = 77
	}
	for i := range trees {
		trees[i] = says(78)
	}
}

// checkIs holds a Flat to tell what a grove does.
func checkIs(t *testing.T, f *flat.Flat, g api.Grove) {
	t.Helper()
	var s noise = 82
	checkLaid(t, f, g)
	for range 20 {
		checkSame(t, f, g, s.nearCut(g))
	}
}

// TestFlatIsItsOwn: neither changing what was handed to New nor changing what Grove gave changes the Flat.
func TestFlatIsItsOwn(t *testing.T) {
	var s noise = 83
	groves := []api.Grove{wood(8, api.Sum, ones(12), slices.Repeat([]nodes{even(63)}, 12)...)}
	for _, way := range ways() {
		groves = append(groves, three(way), wood(0, way, ones(1), says(4)), s.grove(way, 12, 31))
	}
	for _, g := range groves {
		handed := copied(g)
		f := laid(t, handed)
		scribble(handed)
		checkIs(t, f, g)
		first, second := f.Grove(), f.Grove()
		scribble(first)
		checkIs(t, f, g)
		if !reflect.DeepEqual(second, f.Grove()) {
			t.Errorf("what Grove gave is %v, as what it gave before was written into", second)
		}
	}
}

// TestTreesOfGroveAreApart: no two trees that Grove gave share memory, also where what was handed in does.
func TestTreesOfGroveAreApart(t *testing.T) {
	shared := small(0, 5, -7, 9)
	f := laid(t, wood(3, api.Sum, ones(3), shared, shared, shared))
	for place := range 3 {
		g := f.Grove()
		n := g.Trees[place][:cap(g.Trees[place])]
		for i := range n {
			n[i] = leaf(77)
		}
		for i, other := range g.Trees {
			if i != place && !slices.Equal(other, shared) {
				t.Errorf("tree %d is %v, as tree %d was written into", i, other, place)
			}
		}
	}
}

// TestManyIsFresh: writing into what Many gave, or into rows it was asked of, changes nothing that comes later.
func TestManyIsFresh(t *testing.T) {
	f := laid(t, three(api.Mean))
	rows, want := rightRows(t, api.Mean, 10)
	first, err := f.Many(rows)
	if err != nil {
		t.Fatal(err)
	}
	second, err := f.Many(rows)
	if err != nil {
		t.Fatal(err)
	}
	for i := range first[:cap(first)] {
		first[:cap(first)][i] = 77
	}
	for i := range rows {
		rows[i][0] = great
	}
	rows, _ = rightRows(t, api.Mean, 10)
	third, err := f.Many(rows)
	if !slices.Equal(second, want) || !slices.Equal(third, want) || err != nil {
		t.Errorf("Many, once more = %v and %v, %v, want %v", second, third, err, want)
	}
}

// TestFlatsAreApart: two Flats, also of one grove, know nothing of each other, nor does one remember what it was asked.
func TestFlatsAreApart(t *testing.T) {
	g, other := three(api.Sum), wood(1, api.Vote, []int{5, 6}, small(0, 1, 2, 3), says(4))
	a, b, c := laid(t, g), laid(t, other), laid(t, g)
	for range 3 {
		a.Eval([]int{great})
		b.Many([][]int{{0}, {gone}})
		scribble(c.Grove())
		checkIs(t, a, g)
		checkIs(t, b, other)
		checkIs(t, c, g)
	}
}

// TestAtOnce: a Flat may be asked by many at once, as no call changes it.
func TestAtOnce(t *testing.T) {
	g := three(api.Vote)
	f := laid(t, g)
	rows, want := rightRows(t, api.Vote, 200)
	var all sync.WaitGroup
	for range 8 {
		all.Go(func() {
			if l, err := f.Many(rows); !slices.Equal(l, want) || err != nil || f.Size() != 9 || len(f.Grove().Trees) != 3 {
				t.Errorf("Many = %v, %v, want %v", l, err, want)
			}
		})
	}
	all.Wait()
}
