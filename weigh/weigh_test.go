package weigh_test

import (
	"errors"
	"fmt"
	"math"
	"math/big"
	"reflect"
	"slices"
	"testing"

	"orchardry/api"
	"orchardry/grove"
	"orchardry/grow"
	"orchardry/prune"
	"orchardry/weigh"
)

const (
	end     = api.MaxCell
	most    = api.MaxTarget
	gone    = api.Nil
	lowest  = math.MinInt
	highest = math.MaxInt
)

// none stands for an error that is nil.
const none = api.OK

// told gives what an error tells; -1, if it is none of the program's, or OK, which no error may be.
func told(err error) api.Errno {
	var e api.Errno
	switch {
	case err == nil:
		return none
	case errors.As(err, &e) && e != api.OK:
		return e
	}
	return -1
}

// uses that come out.
type uses = []api.Use

// use of a feature.
func use(feature, nodes, gain int) api.Use {
	return api.Use{Feature: feature, Nodes: nodes, Gain: gain}
}

// samples that are handed in.
type samples = []api.Sample

// sample of a Target and cells.
func sample(target int, cells ...int) api.Sample { return api.Sample{Row: cells, Target: target} }

// line gives samples of one feature, whose cells are 0, 1, 2 and so on.
func line(targets ...int) samples {
	var l samples
	for i, target := range targets {
		l = append(l, sample(target, i))
	}
	return l
}

// alike gives samples that all have one row.
func alike(row []int, targets ...int) samples {
	var l samples
	for _, target := range targets {
		l = append(l, sample(target, row...))
	}
	return l
}

// plenty gives so many samples that are right.
func plenty(count, features int) samples {
	l := make(samples, count)
	for i := range l {
		l[i].Target = (i*i*7)%200 - 90
		for f := range features {
			l[i].Row = append(l[i].Row, (i*(f+3))%(7+f)-3)
		}
	}
	return l
}

// broken is a sample that has all that may be wrong.
func broken() api.Sample {
	return sample(highest, lowest, gone, highest, 0, 0, 0, 0, 0, 0)
}

// copied gives samples that share nothing with others.
func copied(l samples) samples {
	l = slices.Clone(l)
	for i := range l {
		l[i].Row = slices.Clone(l[i].Row)
	}
	return l
}

// equal tells whether samples are the same.
func equal(a, b samples) bool {
	return slices.EqualFunc(a, b, func(x, y api.Sample) bool { return x.Target == y.Target && slices.Equal(x.Row, y.Row) })
}

// with another thing at a place.
func with[T any](l []T, place int, x T) []T {
	l = slices.Clone(l)
	l[place] = x
	return l
}

// nodes of a tree.
type nodes = []api.Node

// leaf that says a value.
func leaf(value int) api.Node { return api.Node{Feature: api.Leaf, Value: value} }

// ask whether a feature is below a cut; what is not there goes to Right.
func ask(feature, cut, left, right int) api.Node {
	return api.Node{Feature: feature, Cut: cut, Left: left, Right: right}
}

// says is a tree that says one value of every row.
func says(value int) nodes { return nodes{leaf(value)} }

// behind gives nodes that stand so many places further back.
func behind(n nodes, by int) nodes {
	n = slices.Clone(n)
	for i := range n {
		if n[i].Feature != api.Leaf {
			n[i].Left += by
			n[i].Right += by
		}
	}
	return n
}

// fork asks ahead of two trees; what is not there goes to Right.
func fork(feature, cut int, left, right nodes) nodes {
	return slices.Concat(nodes{ask(feature, cut, 1, 1+len(left))}, behind(left, 1), behind(right, 1+len(left)))
}

// forkLess is fork, but what is not there goes to Left.
func forkLess(feature, cut int, left, right nodes) nodes {
	n := fork(feature, cut, left, right)
	n[0].Less = true
	return n
}

// small has one question.
func small(feature, cut, left, right int) nodes { return fork(feature, cut, says(left), says(right)) }

// smallLess is small, but what is not there goes to Left.
func smallLess(feature, cut, left, right int) nodes {
	return forkLess(feature, cut, says(left), says(right))
}

// even has below place i those at 2i+1 and 2i+2.
func even(count int) nodes {
	t := make(nodes, count)
	for i := range t {
		if 2*i+2 < count {
			t[i] = ask(i%8, i-20, 2*i+1, 2*i+2)
		} else {
			t[i] = leaf(i)
		}
	}
	return t
}

// chain is as deep as it is told: below 0 comes to 0, each further number to one more, and what is at the last cut or above it to 100.
func chain(deep int) nodes {
	var t nodes
	for level := range deep {
		t = append(t, ask(0, level, len(t)+1, len(t)+2), leaf(level))
	}
	return append(t, leaf(100))
}

// ones are Weights of 1.
func ones(count int) []int { return slices.Repeat([]int{1}, count) }

// wood is a grove.
func wood(features, way int, weights []int, trees ...nodes) api.Grove {
	return api.Grove{Features: features, Way: way, Weights: weights, Trees: trees}
}

// three has three trees and three features.
func three(way int) api.Grove {
	return wood(3, way, []int{2, 3, 4}, small(0, 0, 5, -7), fork(1, 2, says(-7), small(2, 1, 11, 5)), small(2, -1, 40, -30))
}

// copiedGrove gives a grove that shares nothing with another.
func copiedGrove(g api.Grove) api.Grove {
	g.Weights, g.Trees = slices.Clone(g.Weights), slices.Clone(g.Trees)
	for i := range g.Trees {
		g.Trees[i] = slices.Clone(g.Trees[i])
	}
	return g
}

// changed gives a grove that is otherwise, and leaves the other one as it is.
func changed(g api.Grove, change func(g *api.Grove)) api.Grove {
	g = copiedGrove(g)
	change(&g)
	return g
}

// sameGrove tells whether groves are the same; an empty list and nil are.
func sameGrove(a, b api.Grove) bool {
	return a.Features == b.Features && a.Way == b.Way && slices.Equal(a.Weights, b.Weights) && slices.EqualFunc(a.Trees, b.Trees, slices.Equal[nodes])
}

func ways() []int { return []int{api.Sum, api.Mean, api.Vote} }

// noise: numbers that look as if they had no order, the same ones each time.
type noise uint64

func (s *noise) below(n int) int {
	*s = *s*6364136223846793005 + 1442695040888963407
	return int(uint64(*s) >> 33 % uint64(n))
}

// pick one of some numbers.
func (s *noise) pick(l ...int) int { return l[s.below(len(l))] }

// samples that are right; cells and Targets are from few numbers or from many.
func (s *noise) samples(count, features int) samples {
	cells, targets := s.pick(1, 2, 3, 7, 1000), s.pick(1, 2, 3, 20, most)
	l := make(samples, count)
	for i := range l {
		l[i].Target = s.below(2*targets+1) - targets
		for range features {
			l[i].Row = append(l[i].Row, s.below(cells+1)-cells/2)
		}
	}
	return l
}

// shuffled gives the same samples in another order.
func (s *noise) shuffled(l samples) samples {
	l = slices.Clone(l)
	for i := range l {
		j := i + s.below(len(l)-i)
		l[i], l[j] = l[j], l[i]
	}
	return l
}

// tree of at most so many questions that is right, each node's Left right behind it, with cuts where cells often are.
func (s *noise) tree(questions, features, deep int) nodes {
	if questions == 0 || features == 0 || deep == 0 {
		return says(s.pick(-end, -most, -1, 0, 1, 5, most, end))
	}
	left := s.below(questions)
	n := fork(s.below(features), s.pick(-end, -3, -1, 0, 1, 3, end), s.tree(left, features, deep-1), s.tree(questions-1-left, features, deep-1))
	n[0].Less = s.below(2) == 0
	return n
}

// scattered gives the same questions, with the nodes in any order in which what is below stands behind.
func (s *noise) scattered(t nodes) nodes {
	open, order, place := []int{0}, []int{}, make([]int, len(t))
	for len(open) > 0 {
		i := s.below(len(open))
		at := open[i]
		open = slices.Delete(open, i, i+1)
		place[at] = len(order)
		order = append(order, at)
		if t[at].Feature != api.Leaf {
			open = append(open, t[at].Left, t[at].Right)
		}
	}
	var l nodes
	for _, at := range order {
		n := t[at]
		if n.Feature != api.Leaf {
			n.Left, n.Right = place[n.Left], place[n.Right]
		}
		l = append(l, n)
	}
	return l
}

// grove that is right; the nodes of its trees stand in any order.
func (s *noise) grove(features, way int) api.Grove {
	g := api.Grove{Features: features, Way: way}
	for range 1 + s.below(12) {
		g.Weights = append(g.Weights, s.pick(1, 1, 2, 3, 999, 1000))
		g.Trees = append(g.Trees, s.scattered(s.tree(s.below(s.pick(2, 12, 32)), features, 10)))
	}
	return g
}

// row of a grove, with cells where cuts often are, and some that are not there.
func (s *noise) row(features int) []int {
	l := make([]int, features)
	for i := range l {
		l[i] = s.pick(gone, gone, -end, -4, -3, -2, -1, 0, 1, 2, 3, 4, end-1, end)
	}
	return l
}

func TestNumbers(t *testing.T) {
	if api.MaxRow != 8 || api.MaxNodes != 63 || api.MaxDepth != 10 || api.MaxTrees != 12 || api.MaxSamples != 60 || api.MaxTarget != 1000 || api.Leaf != -1 {
		t.Errorf("MaxRow is %d, MaxNodes %d, MaxDepth %d, MaxTrees %d, MaxSamples %d, MaxTarget %d, Leaf %d", api.MaxRow, api.MaxNodes, api.MaxDepth, api.MaxTrees, api.MaxSamples, api.MaxTarget, api.Leaf)
	}
}

// fault of a sample of three features.
type fault struct {
	name   string
	sample api.Sample
	want   api.Errno
}

// faults, alone and several at once.
func faults() []fault {
	return []fault{
		{"9 cells", sample(0, 0, 0, 0, 0, 0, 0, 0, 0, 0), api.ErrFull},
		{"1000 cells", sample(0, make([]int, 1000)...), api.ErrFull},
		{"the first cell beyond", sample(0, end+1, 0, 0), api.ErrRange},
		{"the last cell beyond, below 0", sample(0, 0, 0, -end-1), api.ErrRange},
		{"one below what is not there", sample(0, gone-1, 0, 0), api.ErrRange},
		{"Target beyond", sample(most+1, 0, 0, 0), api.ErrRange},
		{"Target beyond, below 0", sample(-most-1, 0, 0, 0), api.ErrRange},
		{"Target the least", sample(lowest, 0, 0, 0), api.ErrRange},
		{"Target the greatest", sample(highest, 0, 0, 0), api.ErrRange},
		{"no cells", sample(0), api.ErrShape},
		{"2 cells", sample(0, 0, 0), api.ErrShape},
		{"4 cells", sample(0, 0, 0, 0, 0), api.ErrShape},
		{"8 cells", sample(0, make([]int, 8)...), api.ErrShape},
		{"the first cell not there", sample(0, gone, 0, 0), api.ErrNone},
		{"the last cell not there", sample(0, 0, 0, gone), api.ErrNone},
		{"no cell there", sample(0, gone, gone, gone), api.ErrNone},

		{"9 cells, one beyond", sample(0, 0, 0, 0, 0, 0, 0, 0, 0, end+1), api.ErrFull},
		{"9 cells, Target beyond", sample(most+1, 0, 0, 0, 0, 0, 0, 0, 0, 0), api.ErrFull},
		{"a cell beyond, 2 cells", sample(0, 0, end+1), api.ErrRange},
		{"a cell beyond, one ahead not there", sample(0, gone, 0, end+1), api.ErrRange},
		{"Target beyond, no cells", sample(most + 1), api.ErrRange},
		{"Target beyond, a cell not there", sample(-most-1, gone, 0, 0), api.ErrRange},
		{"2 cells, one not there", sample(0, gone, 0), api.ErrShape},
		{"4 cells, the last not there", sample(0, 0, 0, 0, gone), api.ErrShape},
		{"all of it", broken(), api.ErrFull},
	}
}

// badTree is a tree of three features that is wrong.
type badTree struct {
	name string
	tree nodes
	want api.Errno
}

// badTrees: each way in which a tree of three features is wrong.
func badTrees() []badTree {
	return []badTree{
		{"64 nodes", append(even(63), leaf(1)), api.ErrFull},
		{"100000 nodes", make(nodes, 100000), api.ErrFull},
		{"no nodes", nil, api.ErrNone},
		{"an empty list of nodes", nodes{}, api.ErrNone},
		{"a Value beyond", says(end + 1), api.ErrRange},
		{"a Value beyond, below 0", says(-end - 1), api.ErrRange},
		{"a leaf with a Cut", nodes{{Feature: api.Leaf, Cut: 1}}, api.ErrShape},
		{"a leaf with a Left", nodes{{Feature: api.Leaf, Left: 1}}, api.ErrShape},
		{"a leaf with a Right", nodes{{Feature: api.Leaf, Right: 1}}, api.ErrShape},
		{"a leaf with Less", nodes{{Feature: api.Leaf, Less: true}}, api.ErrShape},
		{"a Feature below", small(-2, 0, 1, 2), api.ErrRange},
		{"a Feature far below", small(lowest, 0, 1, 2), api.ErrRange},
		{"a Feature beyond", small(3, 0, 1, 2), api.ErrRange},
		{"a Feature that no array has", small(8, 0, 1, 2), api.ErrRange},
		{"a Feature far beyond", small(highest, 0, 1, 2), api.ErrRange},
		{"a Cut beyond", small(0, end+1, 1, 2), api.ErrRange},
		{"a Cut beyond, below 0", small(0, -end-1, 1, 2), api.ErrRange},
		{"a Left that is not behind", nodes{ask(0, 0, 0, 1), leaf(1)}, api.ErrRange},
		{"a Right that is not behind", nodes{ask(0, 0, 1, 0), leaf(1)}, api.ErrRange},
		{"a Left beyond", nodes{ask(0, 0, 3, 1), leaf(1), leaf(2)}, api.ErrRange},
		{"a Right far beyond", nodes{ask(0, 0, 1, highest), leaf(1), leaf(2)}, api.ErrRange},
		{"one that asks with a Value", nodes{{Left: 1, Right: 2, Value: 1}, leaf(1), leaf(2)}, api.ErrShape},
		{"Left that is Right", nodes{ask(0, 0, 1, 1), leaf(1)}, api.ErrShape},
		{"a leaf that is nobody's", append(small(0, 0, 1, 2), leaf(3)), api.ErrClash},
		{"a leaf that is two's", nodes{ask(0, 0, 1, 2), ask(0, 0, 2, 3), leaf(1), leaf(2)}, api.ErrClash},
		{"too deep", chain(11), api.ErrFull},
		{"a Value beyond, nobody comes", small(0, -end, end+1, 1), api.ErrRange},
	}
}

// flaw is something that is wrong with a grove of three trees and three features.
type flaw struct {
	name   string
	change func(g *api.Grove)
	want   api.Errno
}

func flaws() []flaw {
	l := []flaw{
		{"Features -1", func(g *api.Grove) { g.Features = -1 }, api.ErrRange},
		{"Features 9", func(g *api.Grove) { g.Features = 9 }, api.ErrRange},
		{"Features far beyond", func(g *api.Grove) { g.Features = highest }, api.ErrRange},
		{"Features far below", func(g *api.Grove) { g.Features = lowest }, api.ErrRange},
		{"Features too few for what is asked", func(g *api.Grove) { g.Features = 2 }, api.ErrRange},
		{"Way 0", func(g *api.Grove) { g.Way = 0 }, api.ErrRange},
		{"Way 4", func(g *api.Grove) { g.Way = 4 }, api.ErrRange},
		{"Way far below", func(g *api.Grove) { g.Way = lowest }, api.ErrRange},
		{"no trees", func(g *api.Grove) { g.Trees = nil }, api.ErrNone},
		{"no trees and no Weights", func(g *api.Grove) { g.Trees, g.Weights = nil, nil }, api.ErrNone},
		{"13 trees", func(g *api.Grove) { g.Trees, g.Weights = slices.Repeat([]nodes{says(1)}, 13), ones(13) }, api.ErrFull},
		{"100000 trees", func(g *api.Grove) { g.Trees, g.Weights = make([]nodes, 100000), nil }, api.ErrFull},
		{"no Weights", func(g *api.Grove) { g.Weights = nil }, api.ErrShape},
		{"a Weight too few", func(g *api.Grove) { g.Weights = g.Weights[1:] }, api.ErrShape},
		{"a Weight too many", func(g *api.Grove) { g.Weights = append(g.Weights, 1) }, api.ErrShape},
		{"the first Weight 0", func(g *api.Grove) { g.Weights[0] = 0 }, api.ErrRange},
		{"a Weight below 0", func(g *api.Grove) { g.Weights[1] = lowest }, api.ErrRange},
		{"the last Weight 1001", func(g *api.Grove) { g.Weights[len(g.Weights)-1] = 1001 }, api.ErrRange},

		{"Way 4, no trees", func(g *api.Grove) { g.Way, g.Trees = 4, nil }, api.ErrRange},
		{"Features 9, 13 trees", func(g *api.Grove) { g.Features, g.Trees = 9, make([]nodes, 13) }, api.ErrRange},
		{"13 trees without nodes, no Weights", func(g *api.Grove) { g.Trees, g.Weights = make([]nodes, 13), nil }, api.ErrFull},
		{"a Weight too few, another 0", func(g *api.Grove) { g.Weights = []int{0, 1} }, api.ErrShape},
		{"the last Weight 0, the first tree without nodes", func(g *api.Grove) { g.Weights[2], g.Trees[0] = 0, nil }, api.ErrRange},
		{"the second tree too deep, the last without nodes", func(g *api.Grove) { g.Trees[1], g.Trees[2] = chain(11), nil }, api.ErrFull},
	}
	for _, b := range badTrees() {
		for place := range 3 {
			l = append(l, flaw{fmt.Sprint(b.name, " at ", place), func(g *api.Grove) { g.Trees[place] = b.tree }, b.want})
		}
	}
	return l
}

// TestFlaws: Uses and Without tell what is wrong with a grove, Without ahead of what is wrong with a feature.
func TestFlaws(t *testing.T) {
	for _, way := range ways() {
		for _, f := range flaws() {
			g := changed(three(way), f.change)
			if err := grove.Check(g); told(err) != f.want {
				t.Errorf("%s: Check = %v, want %v", f.name, err, f.want)
			}
			checkNoUses(t, f.name, g, f.want)
			for _, feature := range []int{lowest, gone, -2, -1, 0, 1, 2, 3, 4, 7, 8, 9, highest} {
				checkNotWithout(t, fmt.Sprint(f.name, ", feature ", feature), g, feature, f.want)
			}
		}
	}
	checkNoUses(t, "nothing at all", api.Grove{}, api.ErrRange)
	checkNotWithout(t, "nothing at all", api.Grove{}, 0, api.ErrRange)
	// That a feature is wrong would be told by ErrRange too, so here are those that tell otherwise.
	checkNotWithout(t, "no trees, and no features", wood(0, api.Sum, nil), 0, api.ErrNone)
	checkNotWithout(t, "too deep, and no such feature", wood(1, api.Sum, ones(1), chain(11)), 1, api.ErrFull)
	checkNotWithout(t, "too few Weights, and no such feature", wood(1, api.Sum, nil, says(1)), -1, api.ErrShape)
	checkNotWithout(t, "a node that is nobody's, and no such feature", wood(1, api.Sum, ones(1), append(says(1), leaf(2))), 8, api.ErrClash)
}

// checkNoUses holds Uses to an error, and with it to nothing else.
func checkNoUses(t *testing.T, name string, g api.Grove, want api.Errno) {
	t.Helper()
	if got, err := weigh.Uses(g); len(got) != 0 || told(err) != want {
		t.Errorf("%s: Uses = %v, %v, want %v", name, got, err, want)
	}
}

// checkUses holds Uses of a grove to what is wanted.
func checkUses(t *testing.T, name string, g api.Grove, want ...api.Use) {
	t.Helper()
	if got, err := weigh.Uses(g); !slices.Equal(got, want) || err != nil {
		t.Errorf("%s: Uses of %v = %v, %v, want %v", name, g, got, err, want)
	}
}

// asks gives a tree with so many questions for each of some features, in this order: of feature 0 as many as the first number tells, and so on.
func asks(often ...int) nodes {
	n, at := says(0), 0
	for feature, count := range often {
		for range count {
			at++
			n = fork(feature, at, n, says(at))
		}
	}
	return n
}

// TestUses: by hand.
func TestUses(t *testing.T) {
	for _, way := range ways() {
		checkUses(t, "one leaf, no features", wood(0, way, ones(1), says(7)))
		checkUses(t, "one leaf", wood(8, way, ones(1), says(7)))
		checkUses(t, "twelve leaves", wood(8, way, ones(12), slices.Repeat([]nodes{says(-7)}, 12)...))
		checkUses(t, "three", three(way), use(2, 2, 0), use(0, 1, 0), use(1, 1, 0))
		checkUses(t, "one question", wood(1, way, []int{1000}, small(0, 5, 1, 2)), use(0, 1, 0))
		checkUses(t, "one question for the last feature", wood(8, way, ones(1), small(7, 5, 1, 2)), use(7, 1, 0))
	}
	checkUses(t, "rising", wood(4, api.Sum, ones(1), asks(1, 2, 3, 4)), use(3, 4, 0), use(2, 3, 0), use(1, 2, 0), use(0, 1, 0))
	checkUses(t, "falling", wood(4, api.Sum, ones(1), asks(4, 3, 2, 1)), use(0, 4, 0), use(1, 3, 0), use(2, 2, 0), use(3, 1, 0))
	checkUses(t, "some in none", wood(6, api.Sum, ones(1), asks(0, 2, 0, 0, 3, 0)), use(4, 3, 0), use(1, 2, 0))
	checkUses(t, "equally often", wood(8, api.Sum, ones(1), asks(1, 1, 1, 1, 1, 1, 1, 1)), use(0, 1, 0), use(1, 1, 0), use(2, 1, 0), use(3, 1, 0), use(4, 1, 0), use(5, 1, 0), use(6, 1, 0), use(7, 1, 0))
	checkUses(t, "equally often, some", wood(5, api.Sum, ones(1), asks(1, 2, 1, 2, 3)), use(4, 3, 0), use(1, 2, 0), use(3, 2, 0), use(0, 1, 0), use(2, 1, 0))
	// By the trees alone feature 1 would come first; by their nodes feature 0 does.
	checkUses(t, "in one and in several trees", wood(3, api.Vote, []int{1, 1000, 1000, 7}, asks(4), asks(0, 1), asks(0, 1), says(1)), use(0, 4, 0), use(1, 2, 0))
	checkUses(t, "equally often, in one and in several trees", wood(3, api.Mean, ones(3), asks(0, 0, 3), asks(1, 1), asks(2, 2)), use(0, 3, 0), use(1, 3, 0), use(2, 3, 0))
	// What nobody comes to is asked all the same.
	checkUses(t, "nobody comes", wood(2, api.Sum, ones(1), forkLess(0, -end, small(1, 0, 1, 2), small(1, 0, 1, 2))), use(1, 2, 0), use(0, 1, 0))
	checkUses(t, "the greatest", wood(8, api.Sum, ones(12), slices.Repeat([]nodes{even(63)}, 12)...), use(0, 48, 0), use(1, 48, 0), use(2, 48, 0), use(3, 48, 0), use(4, 48, 0), use(5, 48, 0), use(6, 48, 0), use(7, 36, 0))
	checkUses(t, "the deepest", wood(1, api.Sum, ones(2), chain(10), chain(10)), use(0, 20, 0))
}

// inOrder puts uses in order by taking the best of those that are left, again and again; much tells by what.
func inOrder(l uses, much func(u api.Use) int) uses {
	l = slices.Clone(l)
	for i := range l {
		for j := i + 1; j < len(l); j++ {
			if much(l[j]) > much(l[i]) || much(l[j]) == much(l[i]) && l[j].Feature < l[i].Feature {
				l[i], l[j] = l[j], l[i]
			}
		}
	}
	return l
}

// plainUses counts each feature by itself.
func plainUses(g api.Grove) uses {
	var l uses
	for feature := range g.Features {
		u := use(feature, 0, 0)
		for _, n := range slices.Concat(g.Trees...) {
			if n.Feature == feature {
				u.Nodes++
			}
		}
		if u.Nodes > 0 {
			l = append(l, u)
		}
	}
	return inOrder(l, func(u api.Use) int { return u.Nodes })
}

func TestUsesAgainstPlain(t *testing.T) {
	var s noise = 1
	for round := range 3000 {
		g := s.grove(round%9, ways()[s.below(3)])
		checkUses(t, "many", g, plainUses(g)...)
		// Neither the order of trees nor that of nodes counts.
		back := copiedGrove(g)
		slices.Reverse(back.Trees)
		for i, n := range back.Trees {
			back.Trees[i] = s.scattered(n)
		}
		checkUses(t, "many, in another order", back, plainUses(g)...)
	}
}

// checkNoGains holds Gains to an error, and with it to nothing else.
func checkNoGains(t *testing.T, name string, n nodes, l samples, want api.Errno) {
	t.Helper()
	if _, err := grow.Wrong(n, l); told(err) != want {
		t.Errorf("%s: Wrong of %v, %v tells %v, want %v", name, n, l, err, want)
	}
	if got, err := weigh.Gains(n, l); len(got) != 0 || told(err) != want {
		t.Errorf("%s: Gains of %v, %v = %v, %v, want %v", name, n, l, got, err, want)
	}
}

// TestGainsOfFlaws: a tree that is wrong is told ahead of samples that are, and that there are none ahead of both.
func TestGainsOfFlaws(t *testing.T) {
	for _, b := range badTrees() {
		checkNoGains(t, b.name, b.tree, plenty(5, 3), b.want)
		checkNoGains(t, b.name+", one sample", b.tree, plenty(1, 3), b.want)
		checkNoGains(t, b.name+", 61 samples", b.tree, plenty(61, 3), b.want)
		checkNoGains(t, b.name+", no samples", b.tree, nil, api.ErrNone)
		checkNoGains(t, b.name+", an empty list", b.tree, samples{}, api.ErrNone)
		for _, f := range faults() {
			checkNoGains(t, b.name+", "+f.name, b.tree, append(plenty(2, 3), f.sample), b.want)
		}
	}
	n := small(2, 0, 1, 2)
	checkNoGains(t, "no samples", n, nil, api.ErrNone)
	checkNoGains(t, "61 samples", n, plenty(61, 3), api.ErrFull)
	checkNoGains(t, "61 samples, all but the first wrong", n, append(plenty(1, 3), slices.Repeat(samples{broken()}, 60)...), api.ErrFull)
	checkNoGains(t, "100000 samples without cells", says(1), make(samples, 100000), api.ErrFull)
	checkNoGains(t, "100000 samples without cells, a question", n, make(samples, 100000), api.ErrRange)
}

// TestGainsOfFaults: each alone, and each ahead of each other.
func TestGainsOfFaults(t *testing.T) {
	n := small(2, 0, 1, 2)
	for _, f := range faults() {
		for _, place := range []int{1, 29, 59} {
			checkNoGains(t, fmt.Sprint(f.name, " at ", place), n, with(plenty(60, 3), place, f.sample), f.want)
		}
		for _, other := range faults() {
			two := with(with(plenty(5, 3), 1, f.sample), 3, other.sample)
			checkNoGains(t, f.name+", then "+other.name, n, two, f.want)
		}
	}
}

// TestGainsOfTheFirst: the first sample tells how many features there are.
func TestGainsOfTheFirst(t *testing.T) {
	for cells := range 12 {
		for feature := range 12 {
			name := fmt.Sprint(cells, " cells, feature ", feature)
			n, l := small(feature, 0, 1, 2), samples{sample(5, make([]int, cells)...)}
			if cells > 8 || feature >= cells {
				checkNoGains(t, name, n, l, api.ErrRange)
				continue
			}
			checkGains(t, name, n, l, use(feature, 1, 0))
			checkNoGains(t, name+", the second has one less", n, append(l, sample(5, make([]int, cells-1)...)), api.ErrShape)
			more := api.ErrShape
			if cells == 8 {
				more = api.ErrFull
			}
			checkNoGains(t, name+", the second has one more", n, append(l, sample(5, make([]int, cells+1)...)), more)
		}
	}
	nine := samples{sample(5, make([]int, 9)...)}
	checkNoGains(t, "9 cells, a leaf", says(1), nine, api.ErrRange)
	checkNoGains(t, "9 cells, 64 nodes", make(nodes, 64), nine, api.ErrFull)
	checkNoGains(t, "9 cells, no nodes", nil, nine, api.ErrNone)
	checkNoGains(t, "9 cells, a leaf that is wrong", says(end+1), nine, api.ErrRange)
	checkNoGains(t, "the first cell not there", small(0, 0, 1, 2), samples{sample(5, gone)}, api.ErrNone)
	checkNoGains(t, "the first cell beyond", small(0, 0, 1, 2), samples{sample(5, end+1)}, api.ErrRange)
	checkNoGains(t, "the first Target beyond", small(0, 0, 1, 2), samples{sample(most+1, 0)}, api.ErrRange)
}

// checkGains holds Gains to what is wanted.
func checkGains(t *testing.T, name string, n nodes, l samples, want ...api.Use) {
	t.Helper()
	if got, err := weigh.Gains(n, l); !slices.Equal(got, want) || err != nil {
		t.Errorf("%s: Gains of %v, %v = %v, %v, want %v", name, n, l, got, err, want)
	}
}

// TestGains: by hand.
func TestGains(t *testing.T) {
	checkGains(t, "a leaf, no features", says(3), samples{sample(5), sample(-5)})
	checkGains(t, "a leaf", says(3), line(1, 2, 3))
	checkGains(t, "one sample", small(0, 1, 3, 4), line(1000), use(0, 1, 0))
	// 1, 2 and 6 have 14 less; 1 has 0, 2 and 6 have 8.
	checkGains(t, "three", small(0, 1, 3, 4), line(1, 2, 6), use(0, 1, 6))
	checkGains(t, "two and one", small(0, 2, 3, 4), line(1, 2, 6), use(0, 1, 14))
	// What the leaves say does not count.
	checkGains(t, "other leaves", small(0, 2, -end, end), line(1, 2, 6), use(0, 1, 14))
	// A cell is always there, so where one that is not there goes does not count.
	checkGains(t, "Less", smallLess(0, 2, 3, 4), line(1, 2, 6), use(0, 1, 14))
	checkGains(t, "all on Left", small(0, 3, 3, 4), line(1, 2, 6), use(0, 1, 0))
	checkGains(t, "all on Right", small(0, 0, 3, 4), line(1, 2, 6), use(0, 1, 0))
	checkGains(t, "at the cut", small(0, 5, 3, 4), samples{sample(10, 4), sample(20, 5), sample(20, 6)}, use(0, 1, 66))
	checkGains(t, "all Targets alike", small(0, 1, 3, 4), line(7, 7, 7), use(0, 1, 0))
	checkGains(t, "the second feature", small(1, 1, 3, 4), samples{sample(10, 0, 1), sample(20, 0, 0)}, use(1, 1, 50))
}

// TestGainsAreRoundedDown: each sum of squares by itself, not what comes of them.
func TestGainsAreRoundedDown(t *testing.T) {
	for _, sign := range []int{1, -1} {
		for _, by := range []int{0, 1, 5, 100, 900} {
			at := func(n int) int { return sign * (n + by) }
			// 0 and 1 have a half, which is 0.
			checkGains(t, "a half", small(0, 1, 0, 0), line(at(0), at(1)), use(0, 1, 0))
			// 0 and 3 have 4 and a half, which is 4.
			checkGains(t, "four and a half", small(0, 1, 0, 0), line(at(0), at(3)), use(0, 1, 4))
			// 0, 0 and 1 have two thirds, which is 0; 0, 0 and 2 have 8 thirds, which is 2.
			checkGains(t, "two thirds", small(0, 2, 0, 0), line(at(0), at(0), at(1)), use(0, 1, 0))
			checkGains(t, "eight thirds", small(0, 2, 0, 0), line(at(0), at(0), at(2)), use(0, 1, 2))
			// 0, 1, 4 and 5 have 17; either side has a half, so by fractions 16 would come.
			checkGains(t, "two halves", small(0, 2, 0, 0), line(at(0), at(1), at(4), at(5)), use(0, 1, 17))
			// 0, 1 and 3 have 14 thirds, which is 4, and 0 and 1 have a half.
			checkGains(t, "14 thirds and a half", small(0, 2, 0, 0), line(at(0), at(1), at(3)), use(0, 1, 4))
			checkGains(t, "14 thirds and a half, on Right", small(0, 1, 0, 0), line(at(3), at(1), at(0)), use(0, 1, 4))
			// At each of two nodes something is rounded: 0, 3, 6 and 13 have 93; 0 and 3 have 4 and a half, 6 and 13 24 and a half.
			checkGains(t, "below", fork(0, 2, small(0, 1, 0, 0), small(0, 3, 0, 0)), line(at(0), at(3), at(6), at(13)), use(0, 3, 93))
			checkGains(t, "one below", fork(0, 2, small(0, 1, 0, 0), says(0)), line(at(0), at(3), at(6), at(13)), use(0, 2, 93-24))
		}
	}
	// From below 0 to above it.
	checkGains(t, "either side of 0", small(0, 1, 0, 0), line(-1, 2), use(0, 1, 4))
	checkGains(t, "either side of 0, three", small(0, 1, 0, 0), line(-1, 0, 1), use(0, 1, 2))
}

// TestGainsOfWays: one feature at several nodes of a way and on both sides, and nodes to which no sample comes.
func TestGainsOfWays(t *testing.T) {
	// 0, 0, 10 and 30 have 600; 0, 10 and 30 have 466 and two thirds; 10 and 30 have 200.
	l := line(0, 0, 10, 30)
	down := fork(0, 1, says(0), fork(0, 2, says(0), small(0, 3, 10, 30)))
	checkGains(t, "one below the other", down, l, use(0, 3, (600-466)+(466-200)+200))
	checkGains(t, "the first two", fork(0, 1, says(0), small(0, 2, 0, 20)), l, use(0, 2, 600-200))
	sides := fork(0, 2, small(0, 1, 0, 0), small(0, 3, 10, 30))
	checkGains(t, "on both sides", sides, l, use(0, 3, 400+0+200))
	checkGains(t, "the same question again", fork(0, 2, small(0, 2, 0, 0), small(0, 2, 0, 0)), l, use(0, 3, 400))

	two := samples{sample(0, 0, 0), sample(0, 0, 1), sample(10, 1, 0), sample(30, 1, 1)}
	checkGains(t, "another feature on both sides", fork(0, 1, small(1, 1, 0, 0), small(1, 1, 10, 30)), two, use(0, 1, 400), use(1, 2, 200))
	// 0 and 10 have 50, 0 and 30 have 450.
	checkGains(t, "the other one first", fork(1, 1, small(0, 1, 0, 10), small(0, 1, 0, 30)), two, use(0, 2, 500), use(1, 1, 100))
	checkGains(t, "between them another", fork(0, 1, says(0), fork(1, 1, says(10), small(0, 2, 30, 30))), two, use(0, 2, 400), use(1, 1, 200))

	// A node where no sample comes is one of those that ask, but nothing comes of it.
	checkGains(t, "nobody on Left", fork(0, -5, small(1, 0, 1, 2), says(0)), two, use(0, 1, 0), use(1, 1, 0))
	checkGains(t, "nobody on Right", fork(0, 9, says(0), fork(1, 1, small(1, 0, 1, 2), small(1, 2, 3, 4))), two, use(0, 1, 0), use(1, 3, 0))
	checkGains(t, "nobody on Right, then some", fork(0, 9, small(0, 1, 1, 2), fork(1, 1, small(1, 0, 1, 2), small(1, 2, 3, 4))), two, use(0, 2, 400), use(1, 3, 0))
	checkGains(t, "no row comes", fork(0, 1, small(0, 1, 0, 0), says(1)), two, use(0, 2, 400))
}

// TestGainsInOrder: the most first, not by how many nodes there are, nor by where they stand; of equal ones by Feature.
func TestGainsInOrder(t *testing.T) {
	// The samples differ in one feature each; what is off by it tells the gain.
	l := samples{sample(0, 0, 0, 0, 0), sample(100, 0, 0, 0, 1), sample(0, 0, 0, 0, 0), sample(0, 0, 0, 0, 0)}
	checkGains(t, "the last one has all", fork(0, 1, fork(1, 1, fork(2, 1, small(3, 1, 0, 100), says(0)), says(0)), says(0)), l, use(3, 1, 7500), use(0, 1, 0), use(1, 1, 0), use(2, 1, 0))
	checkGains(t, "many nodes of which nothing comes", fork(0, 1, fork(0, 2, fork(0, 3, small(3, 1, 0, 100), says(0)), says(0)), says(0)), l, use(3, 1, 7500), use(0, 3, 0))
	// 0, 0, 10 and 10 have 100. Features 1 and 2 part them alike.
	same := samples{sample(0, 5, 0, 0), sample(0, 5, 0, 0), sample(10, 5, 1, 1), sample(10, 5, 1, 1)}
	checkGains(t, "nothing comes of all", fork(2, 9, fork(1, 9, small(0, 9, 0, 0), says(0)), says(0)), same, use(0, 1, 0), use(1, 1, 0), use(2, 1, 0))
	checkGains(t, "feature 2 first", fork(2, 1, small(1, 1, 0, 10), small(1, 1, 0, 10)), same, use(2, 1, 100), use(1, 2, 0))
	checkGains(t, "feature 1 first", fork(1, 1, small(2, 1, 0, 10), small(2, 1, 0, 10)), same, use(1, 1, 100), use(2, 2, 0))
	// 0, 10, 10 and 20 have 200: half of it comes of either feature, and of feature 2 by two nodes.
	half := samples{sample(0, 0, 0, 0), sample(10, 0, 0, 1), sample(10, 0, 1, 0), sample(20, 0, 1, 1)}
	checkGains(t, "equal ones", fork(1, 1, small(2, 1, 0, 10), small(2, 1, 10, 20)), half, use(1, 1, 100), use(2, 2, 100))
	checkGains(t, "equal ones, the other first", fork(2, 1, small(1, 1, 0, 10), small(1, 1, 10, 20)), half, use(1, 2, 100), use(2, 1, 100))
	checkGains(t, "equal ones behind one of which nothing comes", fork(0, 1, fork(2, 1, small(1, 1, 0, 10), small(1, 1, 10, 20)), says(0)), half, use(1, 2, 100), use(2, 1, 100), use(0, 1, 0))
}

// TestGainsAtTheEnds: as many samples as may be, with Targets at both ends.
func TestGainsAtTheEnds(t *testing.T) {
	ends := append(alike([]int{-end}, slices.Repeat([]int{-most}, 30)...), alike([]int{end}, slices.Repeat([]int{most}, 30)...)...)
	checkGains(t, "both ends", small(0, end, 0, 0), ends, use(0, 1, 60*most*most))
	checkGains(t, "both ends, the least cut", small(0, -end, 0, 0), ends, use(0, 1, 0))
	checkGains(t, "both ends, below", fork(0, -end, says(0), small(0, 0, 0, 0)), ends, use(0, 2, 60*most*most))
	lone := append(alike([]int{0}, slices.Repeat([]int{most}, 59)...), sample(-most, 1))
	// 59 to one: 60 times a million, less 58000 squared over 60, which is 56066666 and two thirds.
	checkGains(t, "one at the other end", small(0, 1, 0, 0), lone, use(0, 1, 60000000-56066667))
	checkGains(t, "one end alone", small(0, 1, 0, 0), alike([]int{0}, slices.Repeat([]int{-most}, 60)...), use(0, 1, 0))
	var every samples
	for i := range 60 {
		every = append(every, sample(most-2*most*(i%2), i))
	}
	// Of 20 the sum is 0, so they have 20 million; the ten that are left have ten million, and what is parted off has nothing.
	checkGains(t, "one by one", oneByOne(10), every[:20], use(0, 10, 10*most*most))
	checkGains(t, "one by one, of all", oneByOne(10), every, plainGains(oneByOne(10), every)...)
	checkGains(t, "63 nodes", even(63), plenty(60, 8), plainGains(even(63), plenty(60, 8))...)
}

// oneByOne parts off the cell 19, then 18, and so on, so deep.
func oneByOne(deep int) nodes {
	n := says(0)
	for level := range deep {
		n = fork(0, 20-deep+level, n, says(0))
	}
	return n
}

// floorSquares gives the sum of the squares of Targets less their mean, rounded down, by fractions.
func floorSquares(l samples) int {
	if len(l) == 0 {
		return 0
	}
	mean := new(big.Rat)
	for _, s := range l {
		mean.Add(mean, big.NewRat(int64(s.Target), int64(len(l))))
	}
	all := new(big.Rat)
	for _, s := range l {
		off := new(big.Rat).Sub(big.NewRat(int64(s.Target), 1), mean)
		all.Add(all, off.Mul(off, off))
	}
	return int(new(big.Int).Div(all.Num(), all.Denom()).Int64())
}

// goesBy tells whether the way of a row without Nil goes by a node.
func goesBy(n nodes, row []int, node int) bool {
	for at := 0; ; {
		if at == node {
			return true
		}
		if n[at].Feature == api.Leaf {
			return false
		}
		if row[n[at].Feature] < n[at].Cut {
			at = n[at].Left
		} else {
			at = n[at].Right
		}
	}
}

// comers gives the samples whose way goes by a node.
func comers(n nodes, l samples, node int) samples {
	var come samples
	for _, s := range l {
		if goesBy(n, s.Row, node) {
			come = append(come, s)
		}
	}
	return come
}

// plainGains weighs each node by itself.
func plainGains(n nodes, l samples) uses {
	var all uses
	for feature := range len(l[0].Row) {
		u := use(feature, 0, 0)
		for at := range n {
			if n[at].Feature != feature {
				continue
			}
			u.Nodes++
			u.Gain += floorSquares(comers(n, l, at)) - floorSquares(comers(n, l, n[at].Left)) - floorSquares(comers(n, l, n[at].Right))
		}
		if u.Nodes > 0 {
			all = append(all, u)
		}
	}
	return inOrder(all, func(u api.Use) int { return u.Gain })
}

// TestGainsAgainstPlain: many trees and samples; the order of samples and of nodes does not count, and no Gain is below 0.
func TestGainsAgainstPlain(t *testing.T) {
	var s noise = 2
	above := 0
	for round := range 1500 {
		features := round % 9
		n, l := s.tree(s.below(s.pick(3, 10, 32)), features, 10), s.samples(1+s.below(s.pick(3, 10, 60)), features)
		want := plainGains(n, l)
		checkGains(t, "many", n, l, want...)
		checkGains(t, "many, in another order", s.scattered(n), s.shuffled(l), want...)
		for _, u := range want {
			if u.Gain < 0 {
				t.Fatalf("%v of %v, %v is below 0", u, n, l)
			}
			if u.Gain > 0 {
				above++
			}
		}
	}
	if above < 500 {
		t.Errorf("something came of a feature %d times", above)
	}
}

// TestGainsOfGrown: of a tree that is grown from samples all that is put right is there, but for what is rounded.
func TestGainsOfGrown(t *testing.T) {
	var s noise = 3
	for round := range 300 {
		features := 1 + round%8
		l := s.samples(1+s.below(60), features)
		n, err := grow.Fit(l, features, 1+s.below(5), 1)
		if err != nil {
			t.Fatal(err)
		}
		want := plainGains(n, l)
		checkGains(t, "grown", n, l, want...)
		sum := floorSquares(l)
		for _, u := range want {
			sum -= u.Gain
		}
		for at := range n {
			if n[at].Feature == api.Leaf {
				sum -= floorSquares(comers(n, l, at))
			}
		}
		if sum != 0 {
			t.Errorf("%v of %v, %v leave %d", want, n, l, sum)
		}
	}
}

// checkNotWithout holds Without to an error, and with it to nothing else.
func checkNotWithout(t *testing.T, name string, g api.Grove, feature int, want api.Errno) {
	t.Helper()
	if got, err := weigh.Without(g, feature); !sameGrove(got, api.Grove{}) || told(err) != want {
		t.Errorf("%s: Without = %v, %v, want %v", name, got, err, want)
	}
}

// TestWithoutNoFeature: a feature at both ends, and beyond.
func TestWithoutNoFeature(t *testing.T) {
	for _, way := range ways() {
		for features := range 9 {
			g := wood(features, way, []int{1, 1000}, says(4), says(-4))
			for _, feature := range []int{lowest, gone, -9, -2, -1, features, features + 1, 8, 9, 63, highest} {
				checkNotWithout(t, fmt.Sprint("feature ", feature, " of ", features), g, feature, api.ErrRange)
			}
			for feature := range features {
				checkWithout(t, fmt.Sprint("feature ", feature, " of ", features), g, feature, g.Trees...)
			}
		}
		checkNotWithout(t, "the feature of a leaf", three(way), api.Leaf, api.ErrRange)
		checkNotWithout(t, "just beyond", three(way), 3, api.ErrRange)
	}
}

// checkWithout holds Without to trees; all else is to be as it was.
func checkWithout(t *testing.T, name string, g api.Grove, feature int, trees ...nodes) {
	t.Helper()
	got, err := weigh.Without(g, feature)
	if want := wood(g.Features, g.Way, g.Weights, trees...); !sameGrove(got, want) || err != nil {
		t.Errorf("%s: Without of %v, %d = %v, %v, want %v", name, g, feature, got, err, want)
	}
}

// alone is a grove of one tree and three features.
func alone(n nodes) api.Grove { return wood(3, api.Sum, []int{5}, n) }

// TestWithout: by hand.
func TestWithout(t *testing.T) {
	checkWithout(t, "a leaf", alone(says(4)), 0, says(4))
	checkWithout(t, "the root, to Right", alone(small(0, 5, 1, 2)), 0, says(2))
	checkWithout(t, "the root, to Left", alone(smallLess(0, 5, 1, 2)), 0, says(1))
	checkWithout(t, "another feature", alone(small(0, 5, 1, 2)), 1, small(0, 5, 1, 2))
	checkWithout(t, "another feature, Less", alone(smallLess(0, 5, 1, 2)), 2, smallLess(0, 5, 1, 2))
	checkWithout(t, "the last feature", alone(smallLess(2, 5, 1, 2)), 2, says(1))

	checkWithout(t, "one below the other, to Right", alone(fork(0, 5, says(1), small(0, 7, 2, 3))), 0, says(3))
	checkWithout(t, "one below the other, to Right, then Left", alone(fork(0, 5, says(1), smallLess(0, 7, 2, 3))), 0, says(2))
	checkWithout(t, "one below the other, to Left, then Right", alone(forkLess(0, 5, small(0, 3, 2, 3), says(1))), 0, says(3))
	checkWithout(t, "one below the other, to Left", alone(forkLess(0, 5, smallLess(0, 3, 2, 3), says(1))), 0, says(2))
	checkWithout(t, "one below the other, on the way that is left", alone(fork(0, 5, small(0, 3, 2, 3), says(1))), 0, says(1))
	checkWithout(t, "ten deep", alone(chain(10)), 0, says(100))
	checkWithout(t, "another one between", alone(fork(0, 5, says(1), fork(1, 7, smallLess(0, 2, 3, 4), small(0, 9, 5, 6)))), 0, small(1, 7, 3, 6))

	sides := fork(1, 0, small(0, 5, 1, 2), smallLess(0, 5, 3, 4))
	checkWithout(t, "on both sides", alone(sides), 0, small(1, 0, 2, 3))
	checkWithout(t, "on both sides, Less", alone(forkLess(1, 0, smallLess(0, 5, 1, 2), small(0, 5, 3, 4))), 0, smallLess(1, 0, 1, 4))
	checkWithout(t, "above both sides", alone(sides), 1, smallLess(0, 5, 3, 4))
	checkWithout(t, "on Left alone", alone(fork(1, 0, smallLess(0, 5, 1, 2), small(2, 5, 3, 4))), 0, fork(1, 0, says(1), small(2, 5, 3, 4)))
	checkWithout(t, "on Right alone", alone(fork(1, 0, smallLess(2, 5, 1, 2), small(0, 5, 3, 4))), 0, fork(1, 0, smallLess(2, 5, 1, 2), says(4)))
	checkWithout(t, "with all below it", alone(fork(0, 5, small(1, 1, 1, 2), fork(1, 2, small(2, 3, 3, 4), smallLess(2, 4, 5, 6)))), 0, fork(1, 2, small(2, 3, 3, 4), smallLess(2, 4, 5, 6)))

	// Nothing is pruned: neither what nobody comes to, nor what says the same on both sides.
	checkWithout(t, "the same on both sides", alone(fork(1, 0, small(0, 5, 1, 7), small(0, 5, 3, 7))), 0, small(1, 0, 7, 7))
	checkWithout(t, "nobody comes", alone(fork(1, 0, small(1, 5, 1, 2), smallLess(0, 5, 3, 4))), 0, fork(1, 0, small(1, 5, 1, 2), says(3)))
}

// TestWithoutInOrder: nodes that stand otherwise come in the order of Sort, also where no node asks for the feature.
func TestWithoutInOrder(t *testing.T) {
	levels := nodes{ask(0, 1, 1, 2), ask(1, 2, 3, 4), ask(2, 3, 5, 6), leaf(1), leaf(2), leaf(3), leaf(4)}
	sorted := fork(0, 1, small(1, 2, 1, 2), small(2, 3, 3, 4))
	g := wood(4, api.Vote, []int{9, 8}, levels, nodes{ask(3, 1, 2, 1), leaf(5), leaf(6)})
	checkWithout(t, "level by level", wood(4, api.Vote, []int{9}, levels), 3, sorted)
	checkWithout(t, "the root", g, 0, small(2, 3, 3, 4), small(3, 1, 6, 5))
	checkWithout(t, "on Left", g, 1, fork(0, 1, says(2), small(2, 3, 3, 4)), small(3, 1, 6, 5))
	checkWithout(t, "on Right", g, 2, fork(0, 1, small(1, 2, 1, 2), says(4)), small(3, 1, 6, 5))
	checkWithout(t, "another tree's", g, 3, sorted, says(5))
}

// plainWithout gives what is left of a node and all below it, as a tree by itself.
func plainWithout(n nodes, at, feature int) nodes {
	switch {
	case n[at].Feature == api.Leaf:
		return says(n[at].Value)
	case n[at].Feature == feature && n[at].Less:
		return plainWithout(n, n[at].Left, feature)
	case n[at].Feature == feature:
		return plainWithout(n, n[at].Right, feature)
	}
	l := fork(n[at].Feature, n[at].Cut, plainWithout(n, n[at].Left, feature), plainWithout(n, n[at].Right, feature))
	l[0].Less = n[at].Less
	return l
}

// checkIsWithout holds what Without gives to all that is promised of it: in order, right, without the feature, and of rows it says what the grove says with Nil there.
func checkIsWithout(t *testing.T, g api.Grove, feature int, rows [][]int) {
	t.Helper()
	got, err := weigh.Without(g, feature)
	if err != nil {
		t.Fatalf("Without of %v, %d: %v", g, feature, err)
	}
	if err := grove.Check(got); err != nil {
		t.Fatalf("Without of %v, %d = %v, which is wrong: %v", g, feature, got, err)
	}
	if got.Features != g.Features || got.Way != g.Way || !slices.Equal(got.Weights, g.Weights) || len(got.Trees) != len(g.Trees) {
		t.Fatalf("Without of %v, %d = %v", g, feature, got)
	}
	for i, n := range got.Trees {
		if sorted, err := prune.Sort(n, g.Features); !slices.Equal(sorted, n) || err != nil {
			t.Fatalf("Without of %v, %d = %v, where tree %d is not in order", g, feature, got, i)
		}
		if slices.ContainsFunc(n, func(n api.Node) bool { return n.Feature == feature }) {
			t.Fatalf("Without of %v, %d = %v, where tree %d asks for it", g, feature, got, i)
		}
		if want := plainWithout(g.Trees[i], 0, feature); !slices.Equal(n, want) {
			t.Fatalf("Without of %v, %d: tree %d = %v, want %v", g, feature, i, n, want)
		}
	}
	for _, row := range rows {
		want, err := grove.Each(g, with(row, feature, gone))
		if err != nil {
			t.Fatal(err)
		}
		each, err := grove.Each(got, row)
		if !slices.Equal(each, want) || err != nil {
			t.Fatalf("Without of %v, %d says %v, %v of %v, want %v", g, feature, each, err, row, want)
		}
		all, _ := grove.Eval(g, with(row, feature, gone))
		if one, err := grove.Eval(got, row); one != all || err != nil {
			t.Fatalf("Without of %v, %d says %d, %v of %v, want %d", g, feature, one, err, row, all)
		}
	}
}

// TestWithoutAgainstPlain: many groves, each feature.
func TestWithoutAgainstPlain(t *testing.T) {
	var s noise = 4
	less := 0
	for round := range 600 {
		features := 1 + round%8
		g := s.grove(features, ways()[s.below(3)])
		for feature := range features {
			var rows [][]int
			for range 10 {
				rows = append(rows, s.row(features))
			}
			checkIsWithout(t, g, feature, rows)
			if got, _ := weigh.Without(g, feature); len(slices.Concat(got.Trees...)) < len(slices.Concat(g.Trees...)) {
				less++
			}
		}
	}
	if less < 1000 {
		t.Errorf("something was left out %d times", less)
	}
}

// TestWithoutGreatest: as many trees, nodes and levels as may be.
func TestWithoutGreatest(t *testing.T) {
	var s noise = 5
	g := wood(8, api.Mean, slices.Repeat([]int{1000}, 12), slices.Repeat([]nodes{even(63), chain(10)}, 6)...)
	for feature := range 8 {
		var rows [][]int
		for range 50 {
			rows = append(rows, s.row(8))
		}
		checkIsWithout(t, g, feature, rows)
	}
}

// TestWithoutAllFeatures: one behind the other, till a leaf is left of each tree, which says what the tree says of a row that has nothing.
func TestWithoutAllFeatures(t *testing.T) {
	var s noise = 6
	for round := range 200 {
		features := 1 + round%8
		g := s.grove(features, api.Sum)
		want, err := grove.Each(g, slices.Repeat([]int{gone}, features))
		if err != nil {
			t.Fatal(err)
		}
		rest := g
		for feature := range features {
			if rest, err = weigh.Without(rest, feature); err != nil {
				t.Fatal(err)
			}
			// What is left out once cannot be left out again.
			checkWithout(t, "again", rest, feature, rest.Trees...)
		}
		checkUses(t, "nothing is asked", rest)
		for i, n := range rest.Trees {
			if !slices.Equal(n, says(want[i])) {
				t.Errorf("%v of %v is left, want %d", n, g.Trees[i], want[i])
			}
		}
	}
}

// everyTree calls do with all trees of two features that are at most so deep, with one cut, and leaves that all say something else.
func everyTree(deep int, do func(n nodes)) {
	var lay func(deep int) []nodes
	lay = func(deep int) []nodes {
		l := []nodes{says(0)}
		if deep == 0 {
			return l
		}
		for _, left := range lay(deep - 1) {
			for _, right := range lay(deep - 1) {
				for feature := range 2 {
					l = append(l, fork(feature, 0, left, right), forkLess(feature, 0, left, right))
				}
			}
		}
		return l
	}
	for _, n := range lay(deep) {
		for at := range n {
			if n[at].Feature == api.Leaf {
				n[at].Value = at
			}
		}
		do(n)
	}
}

// TestEveryTree: all small trees, with all rows of which they may tell different things.
func TestEveryTree(t *testing.T) {
	var rows [][]int
	for _, a := range []int{gone, -1, 0} {
		for _, b := range []int{gone, -1, 0} {
			rows = append(rows, []int{a, b})
		}
	}
	l := samples{sample(1, -1, -1), sample(20, 0, -1), sample(300, -1, 0), sample(-4, 0, 0), sample(7, 0, -1)}
	everyTree(3, func(n nodes) {
		g := wood(2, api.Vote, ones(1), n)
		for feature := range 2 {
			checkIsWithout(t, g, feature, rows)
		}
		checkUses(t, "every", g, plainUses(g)...)
	})
	everyTree(2, func(n nodes) { checkGains(t, "every", n, l, plainGains(n, l)...) })
}

// checkSame holds Same to a number and an error, either way round.
func checkSame(t *testing.T, name string, a, b []int, want int, wrong api.Errno) {
	t.Helper()
	if got, err := weigh.Same(a, b); got != want || told(err) != wrong {
		t.Errorf("%s: Same of %d and %d numbers = %d, %v, want %d, %v", name, len(a), len(b), got, err, want, wrong)
	}
	if got, err := weigh.Same(b, a); got != want || told(err) != wrong {
		t.Errorf("%s: Same of %d and %d numbers, the other way round = %d, %v, want %d, %v", name, len(b), len(a), got, err, want, wrong)
	}
}

// TestSame: lists of all kinds.
func TestSame(t *testing.T) {
	checkSame(t, "nil", nil, nil, 0, none)
	checkSame(t, "nil and an empty list", nil, []int{}, 0, none)
	checkSame(t, "empty lists", []int{}, []int{}, 0, none)
	checkSame(t, "one alike", []int{5}, []int{5}, 1, none)
	checkSame(t, "one not alike", []int{5}, []int{-5}, 0, none)
	checkSame(t, "all alike", []int{1, 2, 3}, []int{1, 2, 3}, 3, none)
	checkSame(t, "none alike", []int{1, 2, 3}, []int{2, 3, 1}, 0, none)
	checkSame(t, "the first", []int{1, 2, 3}, []int{1, 3, 2}, 1, none)
	checkSame(t, "the last", []int{1, 2, 3}, []int{2, 1, 3}, 1, none)
	checkSame(t, "all but one", []int{1, 2, 3}, []int{1, 0, 3}, 2, none)
	checkSame(t, "one number at several places", []int{7, 7, 7, 7}, []int{7, 1, 7, 7}, 3, none)
	checkSame(t, "no numbers that may be cells", []int{lowest, highest, gone, 0, end + 1}, []int{lowest, highest, gone, 1, end + 1}, 4, none)
	checkSame(t, "the ends", []int{lowest, highest}, []int{highest, lowest}, 0, none)

	checkSame(t, "none and one", nil, []int{5}, 0, api.ErrShape)
	checkSame(t, "one and two", []int{5}, []int{5, 5}, 0, api.ErrShape)
	checkSame(t, "two and four", []int{5, 6}, []int{5, 6, 7, 8}, 0, api.ErrShape)
}

// TestSameOfMany: as many as may be, and one more.
func TestSameOfMany(t *testing.T) {
	many := make([]int, 3000)
	for i := range many {
		many[i] = i * i
	}
	for _, count := range []int{0, 1, 2, 60, 999, 1000} {
		l := many[:count]
		checkSame(t, "all alike", l, slices.Clone(l), count, none)
		for place := 0; place < count; place += 333 {
			checkSame(t, fmt.Sprint("but at ", place), l, with(l, place, -1), count-1, none)
		}
		if count > 0 {
			checkSame(t, "but at the last", l, with(l, count-1, -1), count-1, none)
		}
		checkSame(t, "none alike", l, slices.Repeat([]int{-1}, count), 0, none)
		checkSame(t, "one more", l, many[:count+1], 0, api.ErrShape)
		// The first wrong thing is that they are not as long, also if one is too long, or both.
		checkSame(t, "far more", l, many, 0, api.ErrShape)
		checkSame(t, "one too long", l, many[:1001], 0, api.ErrShape)
	}
	for _, count := range []int{1001, 1002, 2000, 3000} {
		l := many[:count]
		checkSame(t, "too long", l, slices.Clone(l), 0, api.ErrFull)
		checkSame(t, "too long, none alike", l, make([]int, count), 0, api.ErrFull)
		checkSame(t, "too long, one less", l, many[:count-1], 0, api.ErrShape)
		checkSame(t, "too long, and none", l, nil, 0, api.ErrShape)
	}
	checkSame(t, "both too long, not as long", many[:1001], many[:1002], 0, api.ErrShape)
}

func TestSameAgainstPlain(t *testing.T) {
	var s noise = 7
	for range 2000 {
		count := s.below(s.pick(3, 20, 1001))
		a, b, want := make([]int, count), make([]int, count), 0
		for i := range a {
			a[i], b[i] = s.below(3), s.below(3)
			if a[i]-b[i] == 0 {
				want++
			}
		}
		checkSame(t, "many", a, b, want, none)
		checkSame(t, "one list", a, a, count, none)
	}
}

// guarded gives a list with memory behind its length, and all of that memory.
func guarded[T any](l []T, behind ...T) (list, all []T) {
	all = append(slices.Clone(l), behind...)
	return all[:len(l)], all
}

// guardedSamples gives samples with memory behind their list and behind each row, and all of that memory.
func guardedSamples(l samples) (list, all samples) {
	list, all = guarded(copied(l), slices.Repeat(samples{broken()}, 4)...)
	for i := range list {
		list[i].Row, _ = guarded(l[i].Row, highest, gone, lowest)
	}
	return list, all
}

// wholeSamples gives samples with all the memory of their rows, in memory of its own.
func wholeSamples(l samples) samples {
	l = slices.Clone(l)
	for i := range l {
		l[i].Row = slices.Clone(l[i].Row[:cap(l[i].Row)])
	}
	return l
}

// guardedGrove gives a grove with memory behind its lists that would be wrong, and all of that memory.
func guardedGrove(g api.Grove) (list, all api.Grove) {
	list, all = g, g
	list.Weights, all.Weights = guarded(g.Weights, 0, lowest, highest)
	list.Trees, all.Trees = guarded(g.Trees, nil, says(highest))
	for i := range list.Trees {
		list.Trees[i], _ = guarded(g.Trees[i], leaf(highest), leaf(lowest))
	}
	return list, all
}

// wholeGrove gives a grove with all the memory of its trees, in memory of its own.
func wholeGrove(g api.Grove) api.Grove {
	g.Weights, g.Trees = slices.Clone(g.Weights), slices.Clone(g.Trees)
	for i, n := range g.Trees {
		g.Trees[i] = slices.Clone(n[:cap(n)])
	}
	return g
}

// lengths of the lists within a grove and samples, which must stay too.
func lengths(g api.Grove, l samples) []int {
	var all []int
	for _, n := range g.Trees {
		all = append(all, len(n))
	}
	for _, s := range l {
		all = append(all, len(s.Row))
	}
	return all
}

// answers gives all that is told of a grove and samples; its first tree, if there is one, is weighed by these.
func answers(g api.Grove, l samples, feature int) string {
	var n nodes
	if len(g.Trees) > 0 {
		n = g.Trees[0]
	}
	u, err := weigh.Uses(g)
	v, bad := weigh.Gains(n, l)
	rest, ill := weigh.Without(g, feature)
	same, no := weigh.Same(g.Weights, g.Weights)
	return fmt.Sprintln(u, told(err), v, told(bad), rest, told(ill), same, told(no))
}

// TestStay: what is handed in, and what stands behind it, is as it was, and what stands behind it is not read.
func TestStay(t *testing.T) {
	lists := []samples{plenty(60, 3), plenty(1, 3), plenty(60, 8), line(5, 3, 1), plenty(61, 3), nil}
	for _, f := range faults() {
		lists = append(lists, append(plenty(4, 3), f.sample))
	}
	var s noise = 8
	groves := []api.Grove{{}, wood(8, api.Vote, ones(12), slices.Repeat([]nodes{even(63)}, 12)...), wood(1, api.Sum, ones(1), says(4)), s.grove(3, api.Sum), s.grove(8, api.Mean)}
	for _, way := range ways() {
		groves = append(groves, three(way))
	}
	for _, f := range flaws() {
		groves = append(groves, changed(three(api.Mean), f.change))
	}
	for _, c := range lists {
		for _, wild := range groves {
			l, all := guardedSamples(c)
			g, allGrove := guardedGrove(wild)
			was, wasGrove, wasLong := wholeSamples(all), wholeGrove(allGrove), lengths(allGrove, all)
			for _, feature := range []int{-1, 0, 2, 8} {
				got, want := answers(g, l, feature), answers(wild, c, feature)
				if got != want {
					t.Fatalf("%v, %v with memory behind: %s, want %s", wild, c, got, want)
				}
			}
			if !equal(wholeSamples(all), was) || !sameGrove(wholeGrove(allGrove), wasGrove) || !slices.Equal(lengths(allGrove, all), wasLong) {
				t.Fatalf("%v, %v were written into", wild, c)
			}
		}
	}
}

// TestSameStays: lists with memory behind them.
func TestSameStays(t *testing.T) {
	for _, count := range []int{0, 1, 5, 1000, 1001} {
		a, allOfA := guarded(make([]int, count), 7, 8, 9)
		b, allOfB := guarded(make([]int, count), 7, 9)
		want, wrong := count, none
		if count > 1000 {
			want, wrong = 0, api.ErrFull
		}
		checkSame(t, "with memory behind", a, b, want, wrong)
		if !slices.Equal(allOfA, append(make([]int, count), 7, 8, 9)) || !slices.Equal(allOfB, append(make([]int, count), 7, 9)) {
			t.Errorf("lists of %d numbers were written into", count)
		}
	}
}

// scribble writes into all the memory of a list, also behind its length.
func scribble[T any](l []T, x T) {
	for i := range l[:cap(l)] {
		l[:cap(l)][i] = x
	}
}

// TestWithoutIsFresh: changing what came changes nothing of what was handed in, nor of what comes next, nor the other way round.
func TestWithoutIsFresh(t *testing.T) {
	var s noise = 9
	for round := range 300 {
		features := 1 + round%8
		c := s.grove(features, ways()[s.below(3)])
		if round%3 == 0 {
			// Several trees may be one list, and are none any more when they come.
			c = wood(features, api.Sum, ones(3), c.Trees[0], c.Trees[0], c.Trees[0])
		}
		g, feature := copiedGrove(c), s.below(features)
		rest, err := weigh.Without(g, feature)
		if err != nil {
			t.Fatal(err)
		}
		want := copiedGrove(rest)
		for i := range rest.Trees {
			scribble(rest.Trees[i], leaf(77))
			for j, n := range rest.Trees[i+1:] {
				if !slices.Equal(n, want.Trees[i+1+j]) {
					t.Fatalf("tree %d of %v changed as tree %d was written into", i+1+j, want, i)
				}
			}
		}
		if !slices.Equal(rest.Weights, want.Weights) {
			t.Fatalf("the Weights of %v changed as its trees were written into", want)
		}
		scribble(rest.Weights, 78)
		scribble(rest.Trees, says(79))
		if !sameGrove(g, c) {
			t.Fatalf("%v changed as what came was written into", c)
		}
		if rest, err = weigh.Without(g, feature); !sameGrove(rest, want) || err != nil {
			t.Fatalf("Without of %v, %d is %v, %v then, want %v", c, feature, rest, err, want)
		}
		for _, n := range g.Trees {
			scribble(n, leaf(80))
		}
		scribble(g.Weights, 81)
		scribble(g.Trees, says(82))
		if !sameGrove(rest, want) {
			t.Fatalf("what is left of %v is %v, as that was written into, want %v", c, rest, want)
		}
	}
}

// TestUsesAreFresh: uses are the caller's, and go on being what they were.
func TestUsesAreFresh(t *testing.T) {
	g, n, l := three(api.Sum), even(63), plenty(60, 8)
	for name, ask := range map[string]func() (uses, error){
		"Uses":  func() (uses, error) { return weigh.Uses(g) },
		"Gains": func() (uses, error) { return weigh.Gains(n, l) },
	} {
		first, err := ask()
		if err != nil || len(first) == 0 {
			t.Fatalf("%s: %v, %v", name, first, err)
		}
		want := slices.Clone(first)
		second, err := ask()
		scribble(first, use(7, 7, 7))
		if !slices.Equal(second, want) || err != nil {
			t.Errorf("%s: %v, %v, as the first ones were written into, want %v", name, second, err, want)
		}
		if third, err := ask(); !slices.Equal(third, want) || err != nil {
			t.Errorf("%s: %v, %v then, want %v", name, third, err, want)
		}
	}
	if !sameGrove(g, three(api.Sum)) || !slices.Equal(n, even(63)) || !equal(l, plenty(60, 8)) {
		t.Errorf("what was handed in changed as uses were written into")
	}
}

// TestOneRow: several samples may have one list as their row.
func TestOneRow(t *testing.T) {
	row, other := []int{1, 2}, []int{1, 3}
	l := samples{{Row: row, Target: 5}, {Row: row, Target: 7}, {Row: other, Target: 50}, {Row: other, Target: 52}, {Row: row, Target: 6}}
	// All five have 5314 less 2880, which is 2434; on either side are 2.
	checkGains(t, "one row", fork(1, 3, small(0, 2, 1, 2), says(51)), l, use(1, 1, 2430), use(0, 1, 0))
	if !slices.Equal(row, []int{1, 2}) || !slices.Equal(other, []int{1, 3}) {
		t.Errorf("rows are %v and %v then", row, other)
	}
}

// TestSameAgain: the same answers come whatever was asked between.
func TestSameAgain(t *testing.T) {
	g, l := wood(8, api.Sum, ones(2), even(63), chain(10)), plenty(60, 8)
	first := answers(g, l, 0)
	answers(three(api.Vote), plenty(7, 3), 2)
	answers(api.Grove{}, nil, -1)
	if again := answers(g, l, 0); !reflect.DeepEqual(again, first) {
		t.Errorf("it tells %s, and %s ahead", again, first)
	}
}
