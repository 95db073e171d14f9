package boost_test

import (
	"errors"
	"fmt"
	"math"
	"math/big"
	"reflect"
	"slices"
	"testing"

	"orchardry/api"
	"orchardry/boost"
	"orchardry/grove"
	"orchardry/grow"
	"orchardry/tree"
)

const (
	end     = api.MaxCell
	most    = api.MaxTarget
	gone    = api.Nil
	lowest  = math.MinInt
	highest = math.MaxInt
)

// none stands for an error that is nil.
const none = api.OK

// told gives what an error tells; -1, if it is none of the program's, or OK, which no error may be.
func told(err error) api.Errno {
	var e api.Errno
	switch {
	case err == nil:
		return none
	case errors.As(err, &e) && e != api.OK:
		return e
	}
	return -1
}

// samples that are handed in.
type samples = []api.Sample

// sample of a Target and cells.
func sample(target int, cells ...int) api.Sample { return api.Sample{Row: cells, Target: target} }

// line gives samples of one feature, whose cells are 0, 1, 2 and so on.
func line(targets ...int) samples {
	var l samples
	for i, target := range targets {
		l = append(l, sample(target, i))
	}
	return l
}

// alike gives samples that all have one row.
func alike(row []int, targets ...int) samples {
	var l samples
	for _, target := range targets {
		l = append(l, sample(target, row...))
	}
	return l
}

// sides gives samples of one feature, whose cell is 0 of the first ones and 1 of the others.
func sides(first, others []int) samples {
	return append(alike([]int{0}, first...), alike([]int{1}, others...)...)
}

// plenty gives so many samples that are right; some questions put more right than others.
func plenty(count, features int) samples {
	l := make(samples, count)
	for i := range l {
		l[i].Target = (i*i*7)%200 - 90
		for f := range features {
			l[i].Row = append(l[i].Row, (i*(f+3))%(7+f)-3)
		}
	}
	return l
}

// broken is a sample that has all that may be wrong.
func broken() api.Sample {
	return sample(highest, lowest, gone, highest, 0, 0, 0, 0, 0, 0)
}

// copied gives samples that share nothing with others.
func copied(l samples) samples {
	l = slices.Clone(l)
	for i := range l {
		l[i].Row = slices.Clone(l[i].Row)
	}
	return l
}

// equal tells whether samples are the same.
func equal(a, b samples) bool {
	return slices.EqualFunc(a, b, func(x, y api.Sample) bool { return x.Target == y.Target && slices.Equal(x.Row, y.Row) })
}

// with another thing at a place.
func with[T any](l []T, place int, x T) []T {
	l = slices.Clone(l)
	l[place] = x
	return l
}

// nodes of a tree.
type nodes = []api.Node

// leaf that says a value.
func leaf(value int) api.Node { return api.Node{Feature: api.Leaf, Value: value} }

// ask whether a feature is below a cut; what is not there goes to Right.
func ask(feature, cut, left, right int) api.Node {
	return api.Node{Feature: feature, Cut: cut, Left: left, Right: right}
}

// says is a tree that says one value of every row.
func says(value int) nodes { return nodes{leaf(value)} }

// behind gives nodes that stand so many places further back.
func behind(n nodes, by int) nodes {
	n = slices.Clone(n)
	for i := range n {
		if n[i].Feature != api.Leaf {
			n[i].Left += by
			n[i].Right += by
		}
	}
	return n
}

// fork asks ahead of two trees; what is not there goes to Right.
func fork(feature, cut int, left, right nodes) nodes {
	return slices.Concat(nodes{ask(feature, cut, 1, 1+len(left))}, behind(left, 1), behind(right, 1+len(left)))
}

// forkLess is fork, but what is not there goes to Left.
func forkLess(feature, cut int, left, right nodes) nodes {
	n := fork(feature, cut, left, right)
	n[0].Less = true
	return n
}

// small has one question.
func small(feature, cut, left, right int) nodes { return fork(feature, cut, says(left), says(right)) }

// smallLess is small, but what is not there goes to Left.
func smallLess(feature, cut, left, right int) nodes {
	return forkLess(feature, cut, says(left), says(right))
}

// even has below place i those at 2i+1 and 2i+2.
func even(count int) nodes {
	t := make(nodes, count)
	for i := range t {
		if 2*i+2 < count {
			t[i] = ask(i%8, i-20, 2*i+1, 2*i+2)
		} else {
			t[i] = leaf(i)
		}
	}
	return t
}

// chain is as deep as it is told: below 0 comes to 0, each further number to one more, and what is at the last cut or above it to 100.
func chain(deep int) nodes {
	var t nodes
	for level := range deep {
		t = append(t, ask(0, level, len(t)+1, len(t)+2), leaf(level))
	}
	return append(t, leaf(100))
}

// steps says of the numbers from 0 on, in the first cell, the values, one behind the other.
func steps(values ...int) nodes {
	t := says(values[len(values)-1])
	for i := len(values) - 2; i >= 0; i-- {
		t = fork(0, i+1, says(values[i]), t)
	}
	return t
}

// ones are Weights of 1.
func ones(count int) []int { return slices.Repeat([]int{1}, count) }

// wood is a grove.
func wood(features, way int, weights []int, trees ...nodes) api.Grove {
	return api.Grove{Features: features, Way: way, Weights: weights, Trees: trees}
}

// three has three trees and three features.
func three(way int) api.Grove {
	return wood(3, way, []int{2, 3, 4}, small(0, 0, 5, -7), fork(1, 2, says(-7), small(2, 1, 11, 5)), small(2, -1, 40, -30))
}

// copiedGrove gives a grove that shares nothing with another.
func copiedGrove(g api.Grove) api.Grove {
	g.Weights, g.Trees = slices.Clone(g.Weights), slices.Clone(g.Trees)
	for i := range g.Trees {
		g.Trees[i] = slices.Clone(g.Trees[i])
	}
	return g
}

// changed gives a grove that is otherwise, and leaves the other one as it is.
func changed(g api.Grove, change func(g *api.Grove)) api.Grove {
	g = copiedGrove(g)
	change(&g)
	return g
}

// sameGrove tells whether groves are the same; an empty list and nil are.
func sameGrove(a, b api.Grove) bool {
	return a.Features == b.Features && a.Way == b.Way && slices.Equal(a.Weights, b.Weights) && slices.EqualFunc(a.Trees, b.Trees, slices.Equal[nodes])
}

func ways() []int { return []int{api.Sum, api.Mean, api.Vote} }

// noise: numbers that look as if they had no order, the same ones each time.
type noise uint64

func (s *noise) below(n int) int {
	*s = *s*6364136223846793005 + 1442695040888963407
	return int(uint64(*s) >> 33 % uint64(n))
}

// pick one of some numbers.
func (s *noise) pick(l ...int) int { return l[s.below(len(l))] }

// samples that are right; cells and Targets are from few numbers or from many, so that equal ones come often, or seldom; in some most Targets are at one end, so that what is left is beyond the other.
func (s *noise) samples(count, features int) samples {
	cells, targets := s.pick(1, 2, 3, 7, 1000), s.pick(1, 2, 3, 20, most)
	wide, lean := s.below(8) == 0, s.below(4) == 0
	l := make(samples, count)
	for i := range l {
		l[i].Target = s.below(2*targets+1) - targets
		if lean && s.below(5) > 0 {
			l[i].Target = most
		}
		for range features {
			cell := s.below(cells+1) - cells/2
			if wide {
				cell = s.pick(-end, -end+1, 0, end-1, end)
			}
			l[i].Row = append(l[i].Row, cell)
		}
	}
	return l
}

// shuffled gives the same samples in another order.
func (s *noise) shuffled(l samples) samples {
	l = slices.Clone(l)
	for i := range l {
		j := i + s.below(len(l)-i)
		l[i], l[j] = l[j], l[i]
	}
	return l
}

// tree of at most so many questions that is right, each node's Left right behind it, with cuts where cells often are.
func (s *noise) tree(questions, features, deep int) nodes {
	if questions == 0 || features == 0 || deep == 0 {
		return says(s.pick(-end, -most, -1, 0, 1, 5, most, end))
	}
	left := s.below(questions)
	n := fork(s.below(features), s.pick(-end, -3, -1, 0, 1, 3, end), s.tree(left, features, deep-1), s.tree(questions-1-left, features, deep-1))
	n[0].Less = s.below(2) == 0
	return n
}

// grove that is right.
func (s *noise) grove(features, way int) api.Grove {
	g := api.Grove{Features: features, Way: way}
	for range 1 + s.below(12) {
		g.Weights = append(g.Weights, s.pick(1, 1, 2, 3, 999, 1000))
		g.Trees = append(g.Trees, s.tree(s.below(12), features, 10))
	}
	return g
}

// comesTo gives the value to which a row without Nil comes.
func comesTo(n nodes, row []int) int {
	at := 0
	for n[at].Feature != api.Leaf {
		if row[n[at].Feature] < n[at].Cut {
			at = n[at].Left
		} else {
			at = n[at].Right
		}
	}
	return n[at].Value
}

// floorOver gives a over b, which is above 0, rounded down.
func floorOver(a, b int) int {
	return int(new(big.Int).Div(big.NewInt(int64(a)), big.NewInt(int64(b))).Int64())
}

// plainEval gives what a grove says of a row.
func plainEval(g api.Grove, row []int) int {
	sum, all := 0, 0
	votes := map[int]int{}
	for i, n := range g.Trees {
		value := comesTo(n, row)
		sum += value * g.Weights[i]
		all += g.Weights[i]
		votes[value] += g.Weights[i]
	}
	switch g.Way {
	case api.Sum:
		return sum
	case api.Mean:
		return floorOver(sum, all)
	}
	best, found := 0, false
	for value, weight := range votes {
		if !found || weight > votes[best] || weight == votes[best] && value < best {
			best, found = value, true
		}
	}
	return best
}

// plainRest gives what is left of each sample.
func plainRest(g api.Grove, l samples) []int {
	rest := make([]int, len(l))
	for i, s := range l {
		rest[i] = s.Target - plainEval(g, s.Row)
	}
	return rest
}

// plainSquares gives the sum of squares, or the end, if it is beyond.
func plainSquares(l []int) int {
	sum := new(big.Int)
	for _, n := range l {
		x := big.NewInt(int64(n))
		sum.Add(sum, x.Mul(x, x))
	}
	if sum.Cmp(big.NewInt(1<<40)) > 0 {
		return 1 << 40
	}
	return int(sum.Int64())
}

func TestNumbers(t *testing.T) {
	if api.MaxRounds != 8 || api.MaxSamples != 60 || api.MaxTarget != 1000 || api.MaxCell != 1000000 || api.MaxTrees != 12 || api.MaxNum != 1<<40 {
		t.Errorf("MaxRounds is %d, MaxSamples %d, MaxTarget %d, MaxCell %d, MaxTrees %d, MaxNum %d", api.MaxRounds, api.MaxSamples, api.MaxTarget, api.MaxCell, api.MaxTrees, api.MaxNum)
	}
}

// checkRest holds Rest to what is left, and Wrong to a number.
func checkRest(t *testing.T, name string, g api.Grove, l samples, rest []int, wrong int) {
	t.Helper()
	if got, err := boost.Rest(g, l); !slices.Equal(got, rest) || err != nil {
		t.Errorf("%s: Rest of %v, %v = %v, %v, want %v", name, g, l, got, err, rest)
	}
	if got, err := boost.Wrong(g, l); got != wrong || err != nil {
		t.Errorf("%s: Wrong of %v, %v = %d, %v, want %d", name, g, l, got, err, wrong)
	}
}

// checkNoRest holds Rest and Wrong to an error, and with it to nothing else.
func checkNoRest(t *testing.T, name string, g api.Grove, l samples, want api.Errno) {
	t.Helper()
	if rest, err := boost.Rest(g, l); len(rest) != 0 || told(err) != want {
		t.Errorf("%s: Rest = %v, %v, want %v", name, rest, err, want)
	}
	if wrong, err := boost.Wrong(g, l); wrong != 0 || told(err) != want {
		t.Errorf("%s: Wrong = %d, %v, want %v", name, wrong, err, want)
	}
}

// checkNoFit holds Fit to an error, and with it to nothing else.
func checkNoFit(t *testing.T, name string, l samples, features, rounds, depth, part int, want api.Errno) {
	t.Helper()
	if g, err := boost.Fit(l, features, rounds, depth, part); !sameGrove(g, api.Grove{}) || told(err) != want {
		t.Errorf("%s: Fit of %v with %d features, %d rounds, depth %d, part %d = %v, %v, want %v", name, l, features, rounds, depth, part, g, err, want)
	}
}

// fault of a sample of three features.
type fault struct {
	name   string
	sample api.Sample
	want   api.Errno
}

// faults, alone and several at once.
func faults() []fault {
	return []fault{
		{"9 cells", sample(0, 0, 0, 0, 0, 0, 0, 0, 0, 0), api.ErrFull},
		{"1000 cells", sample(0, make([]int, 1000)...), api.ErrFull},
		{"the first cell beyond", sample(0, end+1, 0, 0), api.ErrRange},
		{"the second cell beyond", sample(0, 0, highest, 0), api.ErrRange},
		{"the last cell beyond, below 0", sample(0, 0, 0, -end-1), api.ErrRange},
		{"one below what is not there", sample(0, gone-1, 0, 0), api.ErrRange},
		{"one above what is not there", sample(0, 0, gone+1, 0), api.ErrRange},
		{"Target beyond", sample(most+1, 0, 0, 0), api.ErrRange},
		{"Target beyond, below 0", sample(-most-1, 0, 0, 0), api.ErrRange},
		{"Target that is not there", sample(gone, 0, 0, 0), api.ErrRange},
		{"Target the least", sample(lowest, 0, 0, 0), api.ErrRange},
		{"Target the greatest", sample(highest, 0, 0, 0), api.ErrRange},
		{"no cells", sample(0), api.ErrShape},
		{"2 cells", sample(0, 0, 0), api.ErrShape},
		{"4 cells", sample(0, 0, 0, 0, 0), api.ErrShape},
		{"8 cells", sample(0, make([]int, 8)...), api.ErrShape},
		{"the first cell not there", sample(0, gone, 0, 0), api.ErrNone},
		{"the last cell not there", sample(0, 0, 0, gone), api.ErrNone},
		{"no cell there", sample(0, gone, gone, gone), api.ErrNone},

		{"9 cells, one beyond", sample(0, 0, 0, 0, 0, 0, 0, 0, 0, end+1), api.ErrFull},
		{"9 cells, Target beyond", sample(most+1, 0, 0, 0, 0, 0, 0, 0, 0, 0), api.ErrFull},
		{"a cell beyond, 2 cells", sample(0, 0, end+1), api.ErrRange},
		{"a cell beyond, one ahead not there", sample(0, gone, 0, end+1), api.ErrRange},
		{"Target beyond, no cells", sample(most + 1), api.ErrRange},
		{"Target beyond, a cell not there", sample(-most-1, gone, 0, 0), api.ErrRange},
		{"2 cells, one not there", sample(0, gone, 0), api.ErrShape},
		{"4 cells, the last not there", sample(0, 0, 0, 0, gone), api.ErrShape},
		{"all of it", broken(), api.ErrFull},
	}
}

// flaw is something that is wrong with a grove of three trees and three features.
type flaw struct {
	name   string
	change func(g *api.Grove)
	want   api.Errno
}

// badTrees: each way in which a tree of three features is wrong.
func badTrees() map[string]struct {
	tree nodes
	want api.Errno
} {
	return map[string]struct {
		tree nodes
		want api.Errno
	}{
		"64 nodes":                     {append(even(63), leaf(1)), api.ErrFull},
		"100000 nodes":                 {make(nodes, 100000), api.ErrFull},
		"no nodes":                     {nil, api.ErrNone},
		"an empty list of nodes":       {nodes{}, api.ErrNone},
		"a Value beyond":               {says(end + 1), api.ErrRange},
		"a Value beyond, below 0":      {says(-end - 1), api.ErrRange},
		"a leaf with a Cut":            {nodes{{Feature: api.Leaf, Cut: 1}}, api.ErrShape},
		"a leaf with a Left":           {nodes{{Feature: api.Leaf, Left: 1}}, api.ErrShape},
		"a leaf with a Right":          {nodes{{Feature: api.Leaf, Right: 1}}, api.ErrShape},
		"a leaf with Less":             {nodes{{Feature: api.Leaf, Less: true}}, api.ErrShape},
		"a Feature below":              {small(-2, 0, 1, 2), api.ErrRange},
		"a Feature beyond":             {small(3, 0, 1, 2), api.ErrRange},
		"a Cut beyond":                 {small(0, end+1, 1, 2), api.ErrRange},
		"a Cut beyond, below 0":        {small(0, -end-1, 1, 2), api.ErrRange},
		"a Left that is not behind":    {nodes{ask(0, 0, 0, 1), leaf(1)}, api.ErrRange},
		"a Right that is not behind":   {nodes{ask(0, 0, 1, 0), leaf(1)}, api.ErrRange},
		"a Left beyond":                {nodes{ask(0, 0, 3, 1), leaf(1), leaf(2)}, api.ErrRange},
		"a Right far beyond":           {nodes{ask(0, 0, 1, highest), leaf(1), leaf(2)}, api.ErrRange},
		"one that asks with a Value":   {nodes{{Left: 1, Right: 2, Value: 1}, leaf(1), leaf(2)}, api.ErrShape},
		"Left that is Right":           {nodes{ask(0, 0, 1, 1), leaf(1)}, api.ErrShape},
		"a leaf that is nobody's":      {append(small(0, 0, 1, 2), leaf(3)), api.ErrClash},
		"a leaf that is two's":         {nodes{ask(0, 0, 1, 2), ask(0, 0, 2, 3), leaf(1), leaf(2)}, api.ErrClash},
		"too deep":                     {chain(11), api.ErrFull},
		"a Value beyond, nobody comes": {small(0, -end, end+1, 1), api.ErrRange},
	}
}

func flaws() []flaw {
	l := []flaw{
		{"Features -1", func(g *api.Grove) { g.Features = -1 }, api.ErrRange},
		{"Features 9", func(g *api.Grove) { g.Features = 9 }, api.ErrRange},
		{"Features far beyond", func(g *api.Grove) { g.Features = highest }, api.ErrRange},
		{"Features far below", func(g *api.Grove) { g.Features = lowest }, api.ErrRange},
		{"Features too few for what is asked", func(g *api.Grove) { g.Features = 2 }, api.ErrRange},
		{"Way 0", func(g *api.Grove) { g.Way = 0 }, api.ErrRange},
		{"Way 4", func(g *api.Grove) { g.Way = 4 }, api.ErrRange},
		{"Way far below", func(g *api.Grove) { g.Way = lowest }, api.ErrRange},
		{"no trees", func(g *api.Grove) { g.Trees = nil }, api.ErrNone},
		{"no trees and no Weights", func(g *api.Grove) { g.Trees, g.Weights = nil, nil }, api.ErrNone},
		{"13 trees", func(g *api.Grove) { g.Trees, g.Weights = slices.Repeat([]nodes{says(1)}, 13), ones(13) }, api.ErrFull},
		{"100000 trees", func(g *api.Grove) { g.Trees, g.Weights = make([]nodes, 100000), nil }, api.ErrFull},
		{"no Weights", func(g *api.Grove) { g.Weights = nil }, api.ErrShape},
		{"a Weight too few", func(g *api.Grove) { g.Weights = g.Weights[1:] }, api.ErrShape},
		{"a Weight too many", func(g *api.Grove) { g.Weights = append(g.Weights, 1) }, api.ErrShape},
		{"the first Weight 0", func(g *api.Grove) { g.Weights[0] = 0 }, api.ErrRange},
		{"a Weight below 0", func(g *api.Grove) { g.Weights[1] = lowest }, api.ErrRange},
		{"the last Weight 1001", func(g *api.Grove) { g.Weights[len(g.Weights)-1] = 1001 }, api.ErrRange},
	}
	for name, b := range badTrees() {
		for place := range 3 {
			l = append(l, flaw{fmt.Sprint(name, " at ", place), func(g *api.Grove) { g.Trees[place] = b.tree }, b.want})
		}
	}
	return l
}

// TestRestOfFlaws: what is wrong with the grove is told ahead of what is wrong with samples.
func TestRestOfFlaws(t *testing.T) {
	for _, way := range ways() {
		for _, f := range flaws() {
			g := changed(three(way), f.change)
			if err := grove.Check(g); told(err) != f.want {
				t.Errorf("%s: Check = %v, want %v", f.name, err, f.want)
			}
			checkNoRest(t, f.name, g, plenty(1, 3), f.want)
			checkNoRest(t, f.name, g, plenty(60, 3), f.want)
			checkNoRest(t, f.name+", no samples", g, nil, f.want)
			checkNoRest(t, f.name+", 61 samples", g, plenty(61, 3), f.want)
			checkNoRest(t, f.name+", 4 cells each", g, plenty(3, 4), f.want)
			for _, other := range faults() {
				checkNoRest(t, f.name+", "+other.name, g, append(plenty(1, 3), other.sample), f.want)
			}
		}
	}
	checkNoRest(t, "nothing at all", api.Grove{}, nil, api.ErrRange)
	checkNoRest(t, "nothing but samples", api.Grove{}, plenty(3, 0), api.ErrRange)
}

// TestRestOfFaults: each alone, at the first place, within, and last; and each ahead of each other.
func TestRestOfFaults(t *testing.T) {
	for _, way := range ways() {
		g := three(way)
		checkNoRest(t, "no samples", g, nil, api.ErrNone)
		checkNoRest(t, "an empty list", g, samples{}, api.ErrNone)
		checkNoRest(t, "61 samples", g, plenty(61, 3), api.ErrFull)
		checkNoRest(t, "61 samples, all of them wrong", g, slices.Repeat(samples{broken()}, 61), api.ErrFull)
		checkNoRest(t, "100000 samples", g, make(samples, 100000), api.ErrFull)
		for _, f := range faults() {
			for _, place := range []int{0, 1, 29, 59} {
				checkNoRest(t, fmt.Sprint(f.name, " at ", place), g, with(plenty(60, 3), place, f.sample), f.want)
			}
			for _, other := range faults() {
				two := with(with(plenty(5, 3), 1, f.sample), 3, other.sample)
				checkNoRest(t, f.name+", then "+other.name, g, two, f.want)
			}
		}
	}
}

// TestRestOfCells: the grove's Features tell how many cells there have to be, whatever its trees ask for.
func TestRestOfCells(t *testing.T) {
	for features := range 9 {
		for cells := range 10 {
			for _, way := range ways() {
				g, l := wood(features, way, []int{7}, says(4)), samples{sample(5, make([]int, cells)...)}
				name := fmt.Sprint(cells, " cells, features: ", features)
				switch {
				case cells > 8:
					checkNoRest(t, name, g, l, api.ErrFull)
				case cells != features:
					checkNoRest(t, name, g, l, api.ErrShape)
				case way == api.Sum:
					checkRest(t, name, g, l, []int{-23}, 529)
				default:
					checkRest(t, name, g, l, []int{1}, 1)
				}
			}
		}
	}
	checkNoRest(t, "the second has a cell more", wood(1, api.Sum, ones(1), says(1)), samples{sample(1, 1), sample(1, 1, 1)}, api.ErrShape)
	checkNoRest(t, "the second has no cell", wood(1, api.Sum, ones(1), says(1)), samples{sample(1, 1), sample(1)}, api.ErrShape)
}

// TestRest: each Way, with values by hand.
func TestRest(t *testing.T) {
	l := samples{sample(10, 0), sample(-10, 1), sample(0, 2), sample(10, 0)}
	trees := []nodes{steps(4, -4, 7), steps(5, -5, 7), steps(5, -4, 0)}
	weights := []int{1, 2, 1}
	checkRest(t, "Sum", wood(1, api.Sum, weights, trees...), l, []int{10 - 19, -10 + 18, 0 - 21, 10 - 19}, 81+64+441+81)
	checkRest(t, "Mean", wood(1, api.Mean, weights, trees...), l, []int{10 - 4, -10 + 5, 0 - 5, 10 - 4}, 36+25+25+36)
	checkRest(t, "Vote", wood(1, api.Vote, weights, trees...), l, []int{10 - 5, -10 + 5, 0 - 7, 10 - 5}, 25+25+49+25)
	for _, way := range ways() {
		checkRest(t, "nothing left", wood(1, way, ones(1), steps(10, -10, 0)), l, []int{0, 0, 0, 0}, 0)
		checkRest(t, "no features", wood(0, way, ones(1), says(3)), samples{sample(5), sample(1)}, []int{2, -2}, 8)
		checkRest(t, "one sample", wood(0, way, ones(1), says(3)), samples{sample(-5)}, []int{-8}, 64)
		checkRest(t, "at the cut", wood(1, way, ones(1), small(0, 1, 20, 30)), line(0, 0, 0), []int{-20, -30, -30}, 400+900+900)
		// A cell is always there, so where one that is not there goes does not matter.
		checkRest(t, "Less", wood(1, way, ones(1), smallLess(0, 1, 20, 30)), line(0, 0, 0), []int{-20, -30, -30}, 400+900+900)
	}
}

// TestRestAtTheEnds: what is left may be far beyond MaxTarget, and is told as it is.
func TestRestAtTheEnds(t *testing.T) {
	for _, target := range []int{-most, -1, 0, 1, most} {
		for _, value := range []int{-end, end} {
			l, trees := samples{sample(target)}, slices.Repeat([]nodes{says(value)}, 12)
			weights := slices.Repeat([]int{1000}, 12)
			checkRest(t, "Sum", wood(0, api.Sum, weights, trees...), l, []int{target - 12000*value}, 1<<40)
			rest := target - value
			checkRest(t, "Mean", wood(0, api.Mean, weights, trees...), l, []int{rest}, rest*rest)
			checkRest(t, "Vote", wood(0, api.Vote, weights, trees...), l, []int{rest}, rest*rest)
		}
	}
	l := slices.Repeat(samples{sample(most), sample(-most)}, 30)
	checkRest(t, "60, far below", wood(0, api.Sum, []int{1000}, says(-end)), l, slices.Repeat([]int{1000001000, 999999000}, 30), 1<<40)
	checkRest(t, "60, far above", wood(0, api.Vote, []int{1000}, says(end)), l, slices.Repeat([]int{-999000, -1001000}, 30), 1<<40)
}

// TestWrongAtTheEnd: squares are added up to the end, and one square may be beyond it by itself.
func TestWrongAtTheEnd(t *testing.T) {
	// The square of the first and those of the others are 2^40 together.
	rests := []int{1<<20 - 1, 1448, 21, 2, 1, 1}
	sum := 0
	for i, rest := range rests {
		sum += rest * rest
		for _, sign := range []int{1, -1} {
			var l samples
			var values, others, want []int
			for place, n := range rests[:i+1] {
				l = append(l, sample(0, place))
				// No one leaf can be beyond MaxCell, so the rest of it is told by a second tree.
				first := min(n, end)
				values, others, want = append(values, -sign*first), append(others, -sign*(n-first)), append(want, sign*n)
			}
			g := wood(1, api.Sum, ones(2), steps(values...), steps(others...))
			checkRest(t, fmt.Sprint(i+1, " of them"), g, l, want, sum)
			back := slices.Clone(l)
			slices.Reverse(back)
			slices.Reverse(want)
			checkRest(t, fmt.Sprint(i+1, " of them, the last one first"), g, back, want, sum)
		}
	}
	if sum != 1<<40 {
		t.Fatalf("they come to %d", sum)
	}
	for _, c := range []struct{ rest, wrong int }{
		{1<<20 - 1, 1<<40 - 1<<21 + 1},
		{1 << 20, 1 << 40},
		{1<<20 + 1, 1 << 40},
		{-1 << 20, 1 << 40},
		{-1<<20 - 1, 1 << 40},
	} {
		g := wood(0, api.Sum, []int{1, 1}, says(-c.rest/2), says(-c.rest+c.rest/2))
		checkRest(t, "alone", g, samples{sample(0)}, []int{c.rest}, c.wrong)
		checkRest(t, "twice", g, samples{sample(0), sample(0)}, []int{c.rest, c.rest}, min(2*c.wrong, 1<<40))
	}
}

// TestRestAgainstPlain: many groves and samples of each Way.
func TestRestAgainstPlain(t *testing.T) {
	var s noise = 1
	ended, seen := 0, 0
	for round := range 3000 {
		features := s.below(9)
		l, g := s.samples(1+s.below(s.pick(3, 60)), features), s.grove(features, round%3+1)
		rest := plainRest(g, l)
		wrong := plainSquares(rest)
		checkRest(t, "many", g, l, rest, wrong)
		if seen++; wrong == 1<<40 {
			ended++
		}
	}
	if ended < 100 || ended > seen-100 {
		t.Errorf("%d of %d came to the end", ended, seen)
	}
}

// TestWrongOfOneTree: a grove of one tree is as wrong as that tree.
func TestWrongOfOneTree(t *testing.T) {
	var s noise = 2
	for range 300 {
		features := 1 + s.below(8)
		l, n := s.samples(1+s.below(60), features), s.tree(s.below(12), features, 10)
		want, err := grow.Wrong(n, l)
		if err != nil {
			t.Fatal(err)
		}
		for _, way := range ways() {
			g := wood(features, way, ones(1), n)
			checkRest(t, "one tree", g, l, plainRest(g, l), min(want, 1<<40))
		}
	}
}

// shareOf gives so many hundredths of a number, rounded towards 0.
func shareOf(n, part int) int {
	return int(new(big.Int).Quo(big.NewInt(int64(n*part)), big.NewInt(100)).Int64())
}

// within gives a number, or the end that it is beyond.
func within(n, end int) int {
	switch {
	case n > end:
		return end
	case n < -end:
		return -end
	}
	return n
}

// nextTree gives the tree that is to come behind those that leave so much.
func nextTree(t *testing.T, l samples, left []int, features, depth, part int) nodes {
	t.Helper()
	rests := copied(l)
	for i := range rests {
		rests[i].Target = within(left[i], 1000)
	}
	n, err := grow.Fit(rests, features, depth, 1)
	if err != nil {
		t.Fatalf("Fit of %v: %v", rests, err)
	}
	for i := range n {
		n[i].Value = shareOf(n[i].Value, part)
	}
	return n
}

// leftThen gives what is left, once a tree is put behind.
func leftThen(n nodes, l samples, left []int) []int {
	then := slices.Clone(left)
	for i, s := range l {
		then[i] -= comesTo(n, s.Row)
	}
	return then
}

// singly gives the trees of a grove as they are added up: each Value over how many they are.
func singly(t *testing.T, name string, g api.Grove) []nodes {
	t.Helper()
	trees := copiedGrove(g).Trees
	for _, n := range trees {
		for i := range n {
			if n[i].Value%len(trees) != 0 {
				t.Fatalf("%s: %d of %v is not taken %d times", name, n[i].Value, g, len(trees))
			}
			n[i].Value /= len(trees)
		}
	}
	return trees
}

// checkFit holds Fit to what is promised of it, and gives what comes.
func checkFit(t *testing.T, name string, l samples, features, rounds, depth, part int) api.Grove {
	t.Helper()
	name = fmt.Sprintf("%s: Fit of %v with %d features, %d rounds, depth %d, part %d", name, l, features, rounds, depth, part)
	g, err := boost.Fit(l, features, rounds, depth, part)
	if err != nil {
		t.Fatalf("%s: %v", name, err)
	}
	if err := grove.Check(g); err != nil {
		t.Fatalf("%s = %v, of which Check tells %v", name, g, err)
	}
	if g.Features != features || g.Way != api.Mean || !slices.Equal(g.Weights, ones(len(g.Trees))) || len(g.Trees) > 1+rounds {
		t.Fatalf("%s = %v", name, g)
	}
	left := checkTrees(t, name, singly(t, name, g), l, features, rounds, depth, part)
	if rest, err := boost.Rest(g, l); !slices.Equal(rest, left) || err != nil {
		t.Fatalf("%s: Rest is %v, %v, want %v", name, rest, err, left)
	}
	if wrong, err := boost.Wrong(g, l); wrong != plainSquares(left) || err != nil {
		t.Fatalf("%s: Wrong is %d, %v, want %d", name, wrong, err, plainSquares(left))
	}
	for i, s := range l {
		if said, err := grove.Eval(g, s.Row); said != s.Target-left[i] || err != nil {
			t.Fatalf("%s: Eval of %v is %d, %v, want %d", name, s.Row, said, err, s.Target-left[i])
		}
	}
	return g
}

// checkTrees holds trees that are added up to be each the one that is to come behind those ahead, as long as less is left by it; it gives what they leave.
func checkTrees(t *testing.T, name string, trees []nodes, l samples, features, rounds, depth, part int) []int {
	t.Helper()
	sum := 0
	left := make([]int, len(l))
	for i, s := range l {
		sum += s.Target
		left[i] = s.Target
	}
	if want := says(floorOver(sum, len(l))); !slices.Equal(trees[0], want) {
		t.Fatalf("%s: the first tree is %v, want %v", name, trees[0], want)
	}
	left = leftThen(trees[0], l, left)
	for i, n := range trees[1:] {
		if want := nextTree(t, l, left, features, depth, part); !slices.Equal(n, want) {
			t.Fatalf("%s: tree %d is %v, want %v", name, i+1, n, want)
		}
		then := leftThen(n, l, left)
		if plainSquares(then) >= plainSquares(left) {
			t.Fatalf("%s: tree %d leaves %v of %v, which is not less", name, i+1, then, left)
		}
		left = then
	}
	if len(trees) > rounds {
		return left
	}
	n := nextTree(t, l, left, features, depth, part)
	if then := leftThen(n, l, left); plainSquares(then) < plainSquares(left) {
		t.Fatalf("%s: it ends after %d trees, and %v would leave %v of %v", name, len(trees), n, then, left)
	}
	return left
}

// checkGrown holds Fit to the trees of a grove.
func checkGrown(t *testing.T, name string, l samples, features, rounds, depth, part int, want ...nodes) {
	t.Helper()
	if g := checkFit(t, name, l, features, rounds, depth, part); !sameGrove(g, wood(features, api.Mean, ones(len(want)), want...)) {
		t.Errorf("%s: Fit of %v with %d features, %d rounds, depth %d, part %d = %v, want trees %v", name, l, features, rounds, depth, part, g, want)
	}
}

// numbers for rounds, depth and part that are right, and such that are not.
func goodRounds() []int { return []int{0, 1, 2, 3, 4, 5, 6, 7, 8} }
func goodDepths() []int { return []int{1, 2, 3, 4} }
func goodParts() []int  { return []int{1, 2, 50, 99, 100} }
func badRounds() []int  { return []int{lowest, -9, -1, 9, 10, 60, highest} }
func badDepths() []int  { return []int{lowest, -1, 0, 5, 6, highest} }
func badParts() []int   { return []int{lowest, -1, 0, 101, 102, 1000, highest} }

// TestFitRefuses: rounds, depth and part beyond both ends, one of them and several; what is wrong with samples is told ahead.
func TestFitRefuses(t *testing.T) {
	lists := []samples{plenty(12, 3), plenty(1, 3), alike([]int{1, 2, 3}, 5, 5)}
	for _, rounds := range append(badRounds(), goodRounds()...) {
		for _, depth := range append(badDepths(), goodDepths()...) {
			for _, part := range append(badParts(), goodParts()...) {
				wrong := slices.Contains(badRounds(), rounds) || slices.Contains(badDepths(), depth) || slices.Contains(badParts(), part)
				for _, l := range lists {
					if wrong {
						checkNoFit(t, "beyond", l, 3, rounds, depth, part, api.ErrRange)
					} else {
						checkFit(t, "within", l, 3, rounds, depth, part)
					}
				}
				checkNoFit(t, "no samples", nil, 3, rounds, depth, part, api.ErrNone)
				checkNoFit(t, "an empty list", samples{}, 3, rounds, depth, part, api.ErrNone)
				checkNoFit(t, "61 samples", plenty(61, 3), 3, rounds, depth, part, api.ErrFull)
				checkNoFit(t, "-1 features", plenty(9, 3), -1, rounds, depth, part, api.ErrRange)
				checkNoFit(t, "9 features", plenty(9, 3), 9, rounds, depth, part, api.ErrRange)
				checkNoFit(t, "a feature too many", plenty(9, 3), 4, rounds, depth, part, api.ErrShape)
				checkNoFit(t, "a feature too few", plenty(9, 3), 2, rounds, depth, part, api.ErrShape)
				checkNoFit(t, "a cell that is not there", append(plenty(9, 3), sample(0, 1, gone, 2)), 3, rounds, depth, part, api.ErrNone)
			}
		}
	}
}

// TestFitOfFaults: each alone, at the first place, within, and last; each ahead of each other; and with rounds, depth and part that are wrong.
func TestFitOfFaults(t *testing.T) {
	for _, f := range faults() {
		for _, place := range []int{0, 1, 29, 59} {
			l := with(plenty(60, 3), place, f.sample)
			name := fmt.Sprint(f.name, " at ", place)
			checkNoFit(t, name, l, 3, 8, 4, 100, f.want)
			checkNoFit(t, name, l, 3, 0, 1, 1, f.want)
			checkNoFit(t, name+", rounds beyond", l, 3, 9, 4, 100, f.want)
			checkNoFit(t, name+", depth beyond", l, 3, 8, 0, 100, f.want)
			checkNoFit(t, name+", part beyond", l, 3, 8, 4, 101, f.want)
			checkNoFit(t, name+", all beyond", l, 3, -1, 5, 0, f.want)
			checkNoFit(t, name+", features beyond", l, 9, 8, 4, 100, api.ErrRange)
		}
		for _, other := range faults() {
			two := with(with(plenty(5, 3), 1, f.sample), 3, other.sample)
			checkNoFit(t, f.name+", then "+other.name, two, 3, 3, 3, 50, f.want)
		}
	}
	for _, features := range []int{lowest, -1, 0, 3, 8, 9, highest} {
		checkNoFit(t, "none", nil, features, 1, 1, 1, api.ErrNone)
		checkNoFit(t, "61", plenty(61, 3), features, 1, 1, 1, api.ErrFull)
		checkNoFit(t, "61, all of them wrong", slices.Repeat(samples{broken()}, 61), features, 1, 1, 1, api.ErrFull)
	}
}

// TestFeatures: as many as there may be, and none; a grove has as many as are told.
func TestFeatures(t *testing.T) {
	for features := range 9 {
		for _, count := range []int{1, 2, 59, 60} {
			g := checkFit(t, "features", plenty(count, features), features, 3, 4, 60)
			if g.Features != features {
				t.Errorf("Features are %d, want %d", g.Features, features)
			}
		}
	}
}

// TestNoRounds: without rounds it is one leaf, the mean of all Targets, rounded down.
func TestNoRounds(t *testing.T) {
	for _, c := range []struct {
		targets []int
		want    int
	}{
		{[]int{0}, 0},
		{[]int{7}, 7},
		{[]int{-7}, -7},
		{[]int{most}, most},
		{[]int{-most}, -most},
		{[]int{1, 2}, 1},
		{[]int{-1, -2}, -2},
		{[]int{0, -1}, -1},
		{[]int{0, 1, 1}, 0},
		{[]int{0, 0, -1}, -1},
		{[]int{-2, 1}, -1},
		{[]int{-most, most}, 0},
		{[]int{-most, most - 1}, -1},
		{[]int{-3, -3, -4}, -4},
		{slices.Repeat([]int{most}, 60), most},
		{slices.Repeat([]int{-most}, 60), -most},
		{append(slices.Repeat([]int{-most}, 59), -most+1), -most},
		{append(slices.Repeat([]int{0}, 59), -1), -1},
		{append(slices.Repeat([]int{0}, 59), 1), 0},
	} {
		for _, depth := range goodDepths() {
			for _, part := range goodParts() {
				checkGrown(t, "no rounds", line(c.targets...), 1, 0, depth, part, says(c.want))
				checkGrown(t, "no rounds, no features", alike(nil, c.targets...), 0, 0, depth, part, says(c.want))
			}
		}
	}
}

// TestRounds: trees by hand, behind each other.
func TestRounds(t *testing.T) {
	l := line(0, 10, 100, 130)
	// The mean is 60; what is left is -60, -50, 40 and 70, then -5, 5, -15 and 15.
	checkGrown(t, "0 rounds", l, 1, 0, 1, 100, says(60))
	checkGrown(t, "1 round", l, 1, 1, 1, 100, says(120), small(0, 2, -110, 110))
	checkGrown(t, "2 rounds", l, 1, 2, 1, 100, says(180), small(0, 2, -165, 165), smallLess(0, 3, -15, 45))
	checkGrown(t, "1 round, deeper", l, 1, 1, 2, 100, says(120), fork(0, 2, small(0, 1, -120, -100), small(0, 3, 80, 140)))
	// Then nothing is left, and the next tree would be no better.
	for rounds := 1; rounds <= 8; rounds++ {
		for depth := 2; depth <= 4; depth++ {
			checkGrown(t, "rounds, deeper", l, 1, rounds, depth, 100, says(120), fork(0, 2, small(0, 1, -120, -100), small(0, 3, 80, 140)))
		}
	}
	checkGrown(t, "half of it", line(0, 100), 1, 3, 1, 50, says(200), small(0, 1, -100, 100), small(0, 1, -48, 48), small(0, 1, -24, 24))
}

// TestParts: each leaf says so many hundredths of it, rounded towards 0 on both sides of it.
func TestParts(t *testing.T) {
	for part := 1; part <= 100; part++ {
		for _, half := range []int{1, 3, 7, 50, 99, 100, 101, 333, 999, 1000} {
			l := line(-half, half)
			value := half * part / 100
			if value == 0 {
				checkGrown(t, "too small a part", l, 1, 8, 4, part, says(0))
				continue
			}
			// Twice, as there are two trees then.
			checkGrown(t, "a part", l, 1, 1, 4, part, says(0), small(0, 1, -2*value, 2*value))
		}
	}
	// What is left is -3 and 3: half of it is -1 and 1, not -2 and 2, and not half of twice as much.
	checkGrown(t, "half of 3", line(-3, 3), 1, 1, 1, 50, says(0), small(0, 1, -2, 2))
	// Then it is -2 and 2, then -1 and 1, of which half is nothing.
	checkGrown(t, "half of 3, and of the rest", line(-3, 3), 1, 8, 1, 50, says(0), small(0, 1, -3, 3), small(0, 1, -3, 3))
}

// TestMadeFit: what is left may be beyond MaxTarget; the tree is of what is made fit, but what is left counts as it is.
func TestMadeFit(t *testing.T) {
	// The mean of these is 966; what is left is 34 and -1966.
	l := sides(slices.Repeat([]int{most}, 59), []int{-most})
	checkGrown(t, "1 round", l, 1, 1, 1, 100, says(2*966), smallLess(0, 1, 2*34, -2*1000))
	checkGrown(t, "2 rounds", l, 1, 2, 1, 100, says(3*966), smallLess(0, 1, 3*34, -3*1000), smallLess(0, 1, 0, -3*966))
	checkGrown(t, "8 rounds", l, 1, 8, 1, 100, says(3*966), smallLess(0, 1, 3*34, -3*1000), smallLess(0, 1, 0, -3*966))
	// With a hundredth of it, more than MaxTarget is left for all rounds: if only what is made fit counted, none of these trees would be taken.
	small := []nodes{says(9 * 966)}
	for range 8 {
		small = append(small, smallLess(0, 1, 0, -9*10))
	}
	checkGrown(t, "8 rounds, a hundredth", l, 1, 8, 1, 1, small...)

	// The other way round the mean is -967; what is left is -33 and 1967.
	l = sides(slices.Repeat([]int{-most}, 59), []int{most})
	checkGrown(t, "below 0, 1 round", l, 1, 1, 1, 100, says(-2*967), smallLess(0, 1, -2*33, 2*1000))
	checkGrown(t, "below 0, 8 rounds", l, 1, 8, 4, 100, says(-3*967), smallLess(0, 1, -3*33, 3*1000), smallLess(0, 1, 0, 3*967))
	small = []nodes{says(-9 * 967)}
	for range 8 {
		small = append(small, smallLess(0, 1, 0, 9*10))
	}
	checkGrown(t, "below 0, 8 rounds, a hundredth", l, 1, 8, 1, 1, small...)
}

// TestAsMuchLeft: a tree that leaves as much as is left, or more, is not taken, and what was is all that comes.
func TestAsMuchLeft(t *testing.T) {
	for rounds := range 9 {
		for depth := 1; depth <= 4; depth++ {
			// The next tree would say 0 and -1: of 0 and -1 that leaves 1 and 0.
			checkGrown(t, "as much", sides([]int{0, 1}, []int{0, -1}), 1, rounds, depth, 100, says(0))
			// Of 0, 0 and -1 it leaves 1, 1 and 0.
			checkGrown(t, "more", sides([]int{0, 1}, []int{0, 0, -1}), 1, rounds, depth, 100, says(0))
			checkGrown(t, "more, to Left", sides([]int{0, 0, -1}, []int{0, 1}), 1, rounds, depth, 100, says(0))
			// Of -1, -1 and 0 it leaves 0, 0 and 1, which is less.
			less := []nodes{says(0)}
			if rounds > 0 {
				less = append(less, small(0, 1, -2, 0))
			}
			checkGrown(t, "less", sides([]int{-1, -1, 0}, []int{1, 1, 0}), 1, rounds, depth, 100, less...)
			checkGrown(t, "nothing left", sides([]int{5, 5}, []int{5}), 1, rounds, depth, 100, says(5))
		}
	}
}

// TestNothingToAsk: one sample, all Targets alike, all rows alike, no features.
func TestNothingToAsk(t *testing.T) {
	for rounds := range 9 {
		for _, depth := range goodDepths() {
			for _, part := range goodParts() {
				for _, target := range []int{-most, -1, 0, 1, most} {
					checkGrown(t, "one sample", line(target), 1, rounds, depth, part, says(target))
					checkGrown(t, "one sample, no features", samples{sample(target)}, 0, rounds, depth, part, says(target))
					checkGrown(t, "all Targets alike", line(slices.Repeat([]int{target}, 60)...), 1, rounds, depth, part, says(target))
				}
				checkGrown(t, "all rows alike", alike([]int{4, 5}, 1, 2, 9), 2, rounds, depth, part, says(4))
				checkGrown(t, "all rows alike, below 0", alike([]int{4, 5}, -1, -2, -9), 2, rounds, depth, part, says(-4))
				checkGrown(t, "no features", alike(nil, 1, 2, 8), 0, rounds, depth, part, says(3))
			}
		}
	}
}

// TestRowsAlikeMadeFit: all rows alike, and of one sample more is left than may be, so that what is made fit has another mean: the next tree is one leaf too.
func TestRowsAlikeMadeFit(t *testing.T) {
	// The mean is 666; five times 334 and -1666 are left, of which -1000 counts for the next tree, which so says 111: by that more would be left.
	l := alike([]int{3}, append(slices.Repeat([]int{most}, 5), -most)...)
	checkGrown(t, "all of it", l, 1, 8, 4, 100, says(666))
	// A hundredth of it is 1, by which less is left; by the next one, which says 1 too, it would be more.
	checkGrown(t, "a hundredth, 1 round", l, 1, 1, 4, 1, says(2*666), says(2))
	checkGrown(t, "a hundredth, 8 rounds", l, 1, 8, 4, 1, says(2*666), says(2))
	var s noise = 3
	taken := 0
	for range 400 {
		targets := slices.Repeat([]int{most}, 3+s.below(50))
		for range 1 + s.below(7) {
			targets = append(targets, s.below(2*most)-most)
		}
		g := checkFit(t, "one leaf", alike([]int{3}, targets...), 1, 8, 1+s.below(4), 1+s.below(100))
		if len(g.Trees) > 1 {
			taken++
		}
	}
	if taken == 0 {
		t.Errorf("no such tree was taken")
	}
}

// TestFirstOfEqual: of questions that are as good the first one is asked, as in a tree.
func TestFirstOfEqual(t *testing.T) {
	l := samples{sample(-10, 0, 0, 5), sample(10, 1, 1, 5)}
	checkGrown(t, "two features alike", l, 3, 8, 4, 100, says(0), small(0, 1, -20, 20))
}

// bits gives 32 samples of five features: the first has the greatest part of the Target, each further one half of it.
func bits(first, step int) samples {
	var l samples
	for i := range 32 {
		l = append(l, sample(first+i*step, i>>4&1, i>>3&1, i>>2&1, i>>1&1, i&1))
	}
	return l
}

// TestDepths: the trees behind the first are as deep as is told, and no deeper.
func TestDepths(t *testing.T) {
	for depth := 1; depth <= 4; depth++ {
		g := checkFit(t, "depth", bits(-900, 50), 5, 1, depth, 100)
		if len(g.Trees) != 2 || len(g.Trees[1]) != 2<<depth-1 {
			t.Fatalf("depth %d: %v", depth, g)
		}
		if deep, err := tree.Depth(g.Trees[1]); deep != depth || err != nil {
			t.Errorf("depth %d: the second tree is %d deep, %v", depth, deep, err)
		}
	}
	// Each question by itself takes its part away, so five trees of one question leave nothing but what is rounded.
	g := checkFit(t, "depth 1", bits(-775, 50), 5, 8, 1, 100)
	var asked []int
	for _, n := range g.Trees[1:] {
		asked = append(asked, n[0].Feature)
	}
	if !slices.Equal(asked, []int{0, 1, 2, 3, 4}) {
		t.Errorf("features %v are asked", asked)
	}
}

// checkRounds holds what comes of more rounds to what comes of fewer, and gives how many trees there are at last.
func checkRounds(t *testing.T, l samples, features, depth, part int) int {
	t.Helper()
	var last api.Grove
	lastWrong := 0
	for rounds := range 9 {
		g := checkFit(t, "more rounds", l, features, rounds, depth, part)
		wrong, err := boost.Wrong(g, l)
		if err != nil {
			t.Fatal(err)
		}
		if rounds > 0 {
			if wrong > lastWrong || len(g.Trees) > len(last.Trees) && wrong == lastWrong {
				t.Fatalf("%v, depth %d, part %d: Wrong is %d with %d rounds, and %d with one fewer", l, depth, part, wrong, rounds, lastWrong)
			}
			if len(g.Trees) < len(last.Trees) || len(last.Trees) < rounds && len(g.Trees) != len(last.Trees) {
				t.Fatalf("%v, depth %d, part %d: %d trees with %d rounds, and %d with one fewer", l, depth, part, len(g.Trees), rounds, len(last.Trees))
			}
			more, fewer := singly(t, "more", g), singly(t, "fewer", last)
			if !slices.EqualFunc(more[:len(fewer)], fewer, slices.Equal[nodes]) {
				t.Fatalf("%v, depth %d, part %d: %v with %d rounds, and %v with one fewer", l, depth, part, more, rounds, fewer)
			}
		}
		last, lastWrong = g, wrong
	}
	return len(last.Trees)
}

// TestMoreRounds: what is learned is not worse for more rounds, and what came of fewer is there.
func TestMoreRounds(t *testing.T) {
	var s noise = 4
	seen := map[int]int{}
	for range 250 {
		features := s.below(9)
		l := s.samples(1+s.below(s.pick(4, 12, 60)), features)
		seen[checkRounds(t, l, features, 1+s.below(4), s.pick(1, 10, 33, 50, 99, 100, 1+s.below(100)))]++
	}
	for trees := 1; trees <= 9; trees++ {
		if seen[trees] == 0 {
			t.Errorf("so many trees came so often: %v", seen)
		}
	}
	for depth := 1; depth <= 4; depth++ {
		for _, part := range []int{1, 10, 50, 100} {
			checkRounds(t, plenty(60, 8), 8, depth, part)
			checkRounds(t, plenty(60, 1), 1, depth, part)
		}
	}
}

// TestFitAgainstPlain: many samples; their order does not matter.
func TestFitAgainstPlain(t *testing.T) {
	var s noise = 5
	beyond := 0
	for round := range 2000 {
		features := s.below(9)
		l := s.samples(1+s.below(s.pick(3, 8, 60)), features)
		depth, part := 1+round%4, s.pick(1, 2, 10, 50, 99, 100, 1+s.below(100))
		g := checkFit(t, "many", l, features, round%9, depth, part)
		checkGrown(t, "many, shuffled", s.shuffled(l), features, round%9, depth, part, g.Trees...)
		mean := singly(t, "many", g)[0][0].Value
		if len(g.Trees) > 1 && slices.ContainsFunc(l, func(s api.Sample) bool { return s.Target-mean < -most || s.Target-mean > most }) {
			beyond++
		}
	}
	if beyond < 50 {
		t.Errorf("more than MaxTarget was left %d times", beyond)
	}
}

// everySamples calls do with all samples of one feature whose cells are 0 to 2 and whose Targets are -2 to 2, so many of them.
func everySamples(count int, do func(l samples)) {
	l := make(samples, count)
	var lay func(at int)
	lay = func(at int) {
		if at == count {
			do(l)
			return
		}
		for cell := range 3 {
			for target := -2; target <= 2; target++ {
				l[at] = sample(target, cell)
				lay(at + 1)
			}
		}
	}
	lay(0)
}

// TestFitOfEvery: all small samples.
func TestFitOfEvery(t *testing.T) {
	for count := 1; count <= 3; count++ {
		everySamples(count, func(l samples) {
			for _, part := range []int{50, 100} {
				checkFit(t, "every", l, 1, 3, 2, part)
			}
		})
	}
}

// guarded gives a list with memory behind its length, and all of that memory.
func guarded[T any](l []T, behind ...T) (list, all []T) {
	all = append(slices.Clone(l), behind...)
	return all[:len(l)], all
}

// guardedSamples gives samples with memory behind their list and behind each row, and all of that memory.
func guardedSamples(l samples) (list, all samples) {
	list, all = guarded(copied(l), slices.Repeat(samples{broken()}, 4)...)
	for i := range list {
		list[i].Row, _ = guarded(l[i].Row, highest, gone, lowest)
	}
	return list, all
}

// wholeSamples gives samples with all the memory of their rows, in memory of its own.
func wholeSamples(l samples) samples {
	l = slices.Clone(l)
	for i := range l {
		l[i].Row = slices.Clone(l[i].Row[:cap(l[i].Row)])
	}
	return l
}

// guardedGrove gives a grove with memory behind its lists that would be wrong, and all of that memory.
func guardedGrove(g api.Grove) (list, all api.Grove) {
	list, all = g, g
	list.Weights, all.Weights = guarded(g.Weights, 0, lowest, highest)
	list.Trees, all.Trees = guarded(g.Trees, nil, says(highest))
	for i := range list.Trees {
		list.Trees[i], _ = guarded(g.Trees[i], leaf(highest), leaf(lowest))
	}
	return list, all
}

// wholeGrove gives a grove with all the memory of its trees, in memory of its own.
func wholeGrove(g api.Grove) api.Grove {
	g.Weights, g.Trees = slices.Clone(g.Weights), slices.Clone(g.Trees)
	for i, n := range g.Trees {
		g.Trees[i] = slices.Clone(n[:cap(n)])
	}
	return g
}

// lengths of the lists within a grove and samples, which must stay too.
func lengths(g api.Grove, l samples) []int {
	var all []int
	for _, n := range g.Trees {
		all = append(all, len(n))
	}
	for _, s := range l {
		all = append(all, len(s.Row))
	}
	return all
}

// answers gives all that is told of a grove and samples.
func answers(g api.Grove, l samples, features, rounds, part int) string {
	grown, err := boost.Fit(l, features, rounds, 3, part)
	rest, bad := boost.Rest(g, l)
	wrong, ill := boost.Wrong(g, l)
	return fmt.Sprintln(grown, told(err), rest, told(bad), wrong, told(ill))
}

// TestStay: what is handed in, and what stands behind it, is as it was, and what stands behind it is not read.
func TestStay(t *testing.T) {
	lists := []samples{plenty(60, 3), plenty(1, 3), bits(0, 7), line(5, 3, 1), plenty(61, 3), nil}
	for _, f := range faults() {
		lists = append(lists, append(plenty(4, 3), f.sample))
	}
	groves := []api.Grove{{}, wood(8, api.Vote, ones(12), slices.Repeat([]nodes{even(63)}, 12)...), wood(1, api.Sum, ones(1), says(4))}
	for _, way := range ways() {
		groves = append(groves, three(way))
	}
	for _, f := range flaws() {
		groves = append(groves, changed(three(api.Mean), f.change))
	}
	for _, c := range lists {
		for _, wild := range groves {
			l, all := guardedSamples(c)
			g, allGrove := guardedGrove(wild)
			was, wasGrove, wasLong := wholeSamples(all), wholeGrove(allGrove), lengths(allGrove, all)
			for _, features := range []int{-1, 1, 3} {
				got, want := answers(g, l, features, 2, 60), answers(wild, c, features, 2, 60)
				if got != want {
					t.Fatalf("%v, %v with memory behind: %s, want %s", wild, c, got, want)
				}
			}
			if !equal(wholeSamples(all), was) || !sameGrove(wholeGrove(allGrove), wasGrove) || !slices.Equal(lengths(allGrove, all), wasLong) {
				t.Fatalf("%v, %v were written into", wild, c)
			}
		}
	}
}

// scribble writes into all the memory of a list, also behind its length.
func scribble[T any](l []T, x T) {
	for i := range l[:cap(l)] {
		l[:cap(l)][i] = x
	}
}

// TestFresh: changing what came changes nothing of what was handed in, nor of what comes next, nor the other way round.
func TestFresh(t *testing.T) {
	var s noise = 6
	for range 200 {
		features := s.below(9)
		c := s.samples(1+s.below(60), features)
		l := copied(c)
		g := checkFit(t, "fresh", l, features, 8, 4, 50)
		want := copiedGrove(g)
		for i := range g.Trees {
			scribble(g.Trees[i], leaf(77))
			// The trees behind, and the Weights, have memory of their own.
			for j, n := range g.Trees[i+1:] {
				if !slices.Equal(n, want.Trees[i+1+j]) {
					t.Fatalf("tree %d of %v changed as tree %d was written into", i+1+j, want, i)
				}
			}
		}
		if !slices.Equal(g.Weights, want.Weights) {
			t.Fatalf("the Weights of %v changed as its trees were written into", want)
		}
		scribble(g.Weights, 78)
		scribble(g.Trees, says(79))
		if !equal(l, c) {
			t.Fatalf("%v changed as the grove was written into", c)
		}
		g = checkFit(t, "fresh", l, features, 8, 4, 50)
		if !sameGrove(g, want) {
			t.Fatalf("Fit of %v is %v then, want %v", c, g, want)
		}
		for i := range l {
			scribble(l[i].Row, 80)
		}
		scribble(l, sample(81))
		if !sameGrove(g, want) {
			t.Fatalf("the grove of %v is %v, as these were written into, want %v", c, g, want)
		}
	}
}

// TestRestIsFresh: what is left is the caller's, and goes on being what it was.
func TestRestIsFresh(t *testing.T) {
	for _, way := range ways() {
		g, l := three(way), plenty(60, 3)
		first, err := boost.Rest(g, l)
		if err != nil {
			t.Fatal(err)
		}
		want := slices.Clone(first)
		second, err := boost.Rest(g, l)
		scribble(first, 77)
		if !slices.Equal(second, want) || err != nil || !sameGrove(g, three(way)) || !equal(l, plenty(60, 3)) {
			t.Errorf("something changed as what is left was written into")
		}
		checkRest(t, "then", g, l, want, plainSquares(want))
		for i := range l {
			scribble(l[i].Row, 3)
			l[i].Target = 5
		}
		for _, n := range g.Trees {
			scribble(n, leaf(5))
		}
		scribble(g.Weights, 1)
		if !slices.Equal(second, want) {
			t.Errorf("what is left changed as samples and the grove were written into")
		}
	}
}

// TestOneRow: several samples may have one list as their row, and several trees may be one list.
func TestOneRow(t *testing.T) {
	row, other := []int{1, 2}, []int{1, 3}
	l := samples{{Row: row, Target: 5}, {Row: row, Target: 7}, {Row: other, Target: 50}, {Row: other, Target: 52}, {Row: row, Target: 6}}
	// The mean is 24; what is left is -19, -17, 26, 28 and -18.
	checkGrown(t, "one row", l, 2, 8, 4, 100, says(48), smallLess(1, 3, -36, 54))
	if !slices.Equal(row, []int{1, 2}) || !slices.Equal(other, []int{1, 3}) {
		t.Errorf("rows are %v and %v then", row, other)
	}
	n := small(1, 3, 6, 51)
	checkRest(t, "one tree twice", wood(2, api.Mean, ones(2), n, n), l, []int{-1, 1, -1, 1, 0}, 4)
}

// TestSameAgain: the same answers come whatever was asked between.
func TestSameAgain(t *testing.T) {
	l := plenty(60, 4)
	first := checkFit(t, "first", l, 4, 8, 3, 40)
	checkFit(t, "between", plenty(30, 2), 2, 8, 4, 100)
	checkNoFit(t, "between", nil, 2, 8, 4, 100, api.ErrNone)
	if again := checkFit(t, "again", l, 4, 8, 3, 40); !reflect.DeepEqual(again, first) {
		t.Errorf("Fit is %v, and %v ahead", again, first)
	}
}
