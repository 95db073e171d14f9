package grow_test

import (
	"errors"
	"fmt"
	"math"
	"math/big"
	"slices"
	"testing"

	"orchardry/api"
	"orchardry/grow"
	"orchardry/prune"
	"orchardry/tree"
)

const (
	end     = api.MaxCell
	most    = api.MaxTarget
	gone    = api.Nil
	lowest  = math.MinInt
	highest = math.MaxInt
)

// none stands for an error that is nil.
const none = api.OK

// told gives what an error tells; -1, if it is none of the program's, or OK, which no error may be.
func told(err error) api.Errno {
	var e api.Errno
	switch {
	case err == nil:
		return none
	case errors.As(err, &e) && e != api.OK:
		return e
	}
	return -1
}

// samples that are handed in.
type samples = []api.Sample

// sample of a Target and cells.
func sample(target int, cells ...int) api.Sample { return api.Sample{Row: cells, Target: target} }

// line gives samples of one feature, whose cells are 0, 1, 2 and so on.
func line(targets ...int) samples {
	var l samples
	for i, target := range targets {
		l = append(l, sample(target, i))
	}
	return l
}

// table gives samples of two features.
func table(l ...[3]int) samples {
	var all samples
	for _, x := range l {
		all = append(all, sample(x[0], x[1], x[2]))
	}
	return all
}

// plenty gives so many samples that are right; some questions put more right than others.
func plenty(count, features int) samples {
	l := make(samples, count)
	for i := range l {
		l[i].Target = (i*i*7)%200 - 90
		for f := range features {
			l[i].Row = append(l[i].Row, (i*(f+3))%(7+f)-3)
		}
	}
	return l
}

// copied gives samples that share nothing with others.
func copied(l samples) samples {
	l = slices.Clone(l)
	for i := range l {
		l[i].Row = slices.Clone(l[i].Row)
	}
	return l
}

// equal tells whether samples are the same.
func equal(a, b samples) bool {
	return slices.EqualFunc(a, b, func(x, y api.Sample) bool { return x.Target == y.Target && slices.Equal(x.Row, y.Row) })
}

// with another thing at a place.
func with[T any](l []T, place int, x T) []T {
	l = slices.Clone(l)
	l[place] = x
	return l
}

// nodes of a tree.
type nodes = []api.Node

// leaf that says a value.
func leaf(value int) api.Node { return api.Node{Feature: api.Leaf, Value: value} }

// ask whether a feature is below a cut; what is not there goes to Right.
func ask(feature, cut, left, right int) api.Node {
	return api.Node{Feature: feature, Cut: cut, Left: left, Right: right}
}

// says is a tree that says one value of every row.
func says(value int) nodes { return nodes{leaf(value)} }

// behind gives nodes that stand so many places further back.
func behind(n nodes, by int) nodes {
	n = slices.Clone(n)
	for i := range n {
		if n[i].Feature != api.Leaf {
			n[i].Left += by
			n[i].Right += by
		}
	}
	return n
}

// fork asks ahead of two trees; what is not there goes to Right.
func fork(feature, cut int, left, right nodes) nodes {
	return slices.Concat(nodes{ask(feature, cut, 1, 1+len(left))}, behind(left, 1), behind(right, 1+len(left)))
}

// forkLess is fork, but what is not there goes to Left.
func forkLess(feature, cut int, left, right nodes) nodes {
	n := fork(feature, cut, left, right)
	n[0].Less = true
	return n
}

// small has one question.
func small(feature, cut, left, right int) nodes { return fork(feature, cut, says(left), says(right)) }

// smallLess is small, but what is not there goes to Left.
func smallLess(feature, cut, left, right int) nodes {
	return forkLess(feature, cut, says(left), says(right))
}

// even has below place i those at 2i+1 and 2i+2.
func even(count int) nodes {
	t := make(nodes, count)
	for i := range t {
		if 2*i+2 < count {
			t[i] = ask(i%8, i-20, 2*i+1, 2*i+2)
		} else {
			t[i] = leaf(i)
		}
	}
	return t
}

// chain is as deep as it is told: below 0 comes to 0, each further number to one more, and what is at the last cut or above it to 100.
func chain(deep int) nodes {
	var t nodes
	for level := range deep {
		t = append(t, ask(0, level, len(t)+1, len(t)+2), leaf(level))
	}
	return append(t, leaf(100))
}

// noise: numbers that look as if they had no order, the same ones each time.
type noise uint64

func (s *noise) below(n int) int {
	*s = *s*6364136223846793005 + 1442695040888963407
	return int(uint64(*s) >> 33 % uint64(n))
}

// pick one of some numbers.
func (s *noise) pick(l ...int) int { return l[s.below(len(l))] }

// samples that are right; cells and Targets are from few numbers or from many, so that equal ones come often, or seldom.
func (s *noise) samples(count, features int) samples {
	cells, targets := s.pick(1, 2, 3, 7, 1000), s.pick(1, 2, 3, 20, most)
	wide := s.below(8) == 0
	l := make(samples, count)
	for i := range l {
		l[i].Target = s.below(2*targets+1) - targets
		for range features {
			cell := s.below(cells+1) - cells/2
			if wide {
				cell = s.pick(-end, -end+1, 0, end-1, end)
			}
			l[i].Row = append(l[i].Row, cell)
		}
	}
	return l
}

// shuffled gives the same samples in another order.
func (s *noise) shuffled(l samples) samples {
	l = slices.Clone(l)
	for i := range l {
		j := i + s.below(len(l)-i)
		l[i], l[j] = l[j], l[i]
	}
	return l
}

// tree of at most so many questions that is right, each node's Left right behind it, with cuts where cells often are.
func (s *noise) tree(questions, features, deep int) nodes {
	if questions == 0 || features == 0 || deep == 0 {
		return says(s.pick(-end, -most, -1, 0, 1, 5, most, end))
	}
	left := s.below(questions)
	n := fork(s.below(features), s.pick(-end, -3, -1, 0, 1, 3, end), s.tree(left, features, deep-1), s.tree(questions-1-left, features, deep-1))
	n[0].Less = s.below(2) == 0
	return n
}

func TestNumbers(t *testing.T) {
	if api.MaxSamples != 60 || api.MaxTarget != 1000 || api.MaxRow != 8 || api.MaxCell != 1000000 || api.MaxNodes != 63 {
		t.Errorf("MaxSamples is %d, MaxTarget %d, MaxRow %d, MaxCell %d, MaxNodes %d", api.MaxSamples, api.MaxTarget, api.MaxRow, api.MaxCell, api.MaxNodes)
	}
}

// checkTold holds Check to a place and an error.
func checkTold(t *testing.T, name string, l samples, features, place int, want api.Errno) {
	t.Helper()
	if at, err := grow.Check(l, features); at != place || told(err) != want {
		t.Errorf("%s: Check with %d = %d, %v, want %d, %v", name, features, at, err, place, want)
	}
}

// checkNoSplit holds Split to an error, and with it to nothing else.
func checkNoSplit(t *testing.T, name string, l samples, features, least int, want api.Errno) {
	t.Helper()
	if f, c, err := grow.Split(l, features, least); f != 0 || c != 0 || told(err) != want {
		t.Errorf("%s: Split of %v with %d, least %d = %d, %d, %v, want %v", name, l, features, least, f, c, err, want)
	}
}

// checkNoFit holds Fit to an error, and with it to nothing else.
func checkNoFit(t *testing.T, name string, l samples, features, depth, least int, want api.Errno) {
	t.Helper()
	if n, err := grow.Fit(l, features, depth, least); n != nil || told(err) != want {
		t.Errorf("%s: Fit of %v with %d, depth %d, least %d = %v, %v, want %v", name, l, features, depth, least, n, err, want)
	}
}

// checkNotWrong holds Wrong to an error, and with it to nothing else.
func checkNotWrong(t *testing.T, name string, n nodes, l samples, want api.Errno) {
	t.Helper()
	if x, err := grow.Wrong(n, l); x != 0 || told(err) != want {
		t.Errorf("%s: Wrong = %d, %v, want %v", name, x, err, want)
	}
}

// bad numbers for depth and for least.
func badDepths() []int { return []int{lowest, -2, -1, 6, 7, 60, highest} }
func badLeasts() []int { return []int{lowest, -2, -1, 0, 61, 62, highest} }

// checkRefused holds Check, Split and Fit to what is wrong with samples, whatever depth and least are.
func checkRefused(t *testing.T, name string, l samples, features, place int, want api.Errno) {
	t.Helper()
	checkTold(t, name, l, features, place, want)
	for _, least := range []int{1, 60, 0, 61, lowest} {
		checkNoSplit(t, name, l, features, least, want)
		for _, depth := range []int{0, 5, -1, 6, highest} {
			checkNoFit(t, name, l, features, depth, least, want)
		}
	}
}

// checkTaken holds Check, Split and Fit to take samples; that there is no question to split by is nothing wrong with them.
func checkTaken(t *testing.T, name string, l samples, features int) {
	t.Helper()
	checkTold(t, name, l, features, 0, none)
	if f, c, err := grow.Split(l, features, 1); told(err) != none && told(err) != api.ErrNone {
		t.Errorf("%s: Split = %d, %d, %v", name, f, c, err)
	}
	for _, depth := range []int{0, 5} {
		if n, err := grow.Fit(l, features, depth, 60); len(n) == 0 || err != nil {
			t.Errorf("%s: Fit with depth %d = %v, %v", name, depth, n, err)
		}
	}
}

// broken is a sample that has all that may be wrong.
func broken() api.Sample {
	return sample(highest, lowest, gone, highest, 0, 0, 0, 0, 0, 0)
}

func TestHowMany(t *testing.T) {
	for _, features := range []int{0, 1, 3, 8} {
		for _, count := range []int{1, 2, 30, 59, 60} {
			checkTaken(t, fmt.Sprint(count), plenty(count, features), features)
		}
	}
	for _, features := range []int{lowest, -1, 0, 1, 3, 8, 9, highest} {
		checkRefused(t, "nil", nil, features, 0, api.ErrNone)
		checkRefused(t, "empty", samples{}, features, 0, api.ErrNone)
		checkRefused(t, "61", plenty(61, 3), features, 0, api.ErrFull)
		checkRefused(t, "62", plenty(62, 0), features, 0, api.ErrFull)
		checkRefused(t, "61, all of them wrong", slices.Repeat(samples{broken()}, 61), features, 0, api.ErrFull)
	}
	checkTold(t, "100000", make(samples, 100000), 0, 0, api.ErrFull)
	checkTold(t, "60, all of them wrong", slices.Repeat(samples{broken()}, 60), 3, 0, api.ErrFull)
}

func TestFeatures(t *testing.T) {
	for _, features := range []int{lowest, lowest + 1, -2, -1, 9, 10, 60, highest - 1, highest} {
		for _, l := range []samples{
			plenty(1, 0), plenty(60, 8), plenty(3, 1),
			{sample(1, 1, 2, 3, 4, 5, 6, 7, 8, 9)},
			{sample(1, gone)},
			{sample(most + 1)},
			{sample(1), sample(1, 2)},
			{broken()},
		} {
			checkRefused(t, "features", l, features, 0, api.ErrRange)
		}
	}
	for features := range 9 {
		for cells := range 10 {
			name := fmt.Sprint(cells, " cells, features: ", features)
			l := samples{sample(5, make([]int, cells)...)}
			switch {
			case cells > 8:
				checkRefused(t, name, l, features, 0, api.ErrFull)
			case cells != features:
				checkRefused(t, name, l, features, 0, api.ErrShape)
			default:
				checkTaken(t, name, l, features)
			}
		}
	}
}

// fault of a sample of three features.
type fault struct {
	name   string
	sample api.Sample
	want   api.Errno
}

// faults, alone and several at once.
func faults() []fault {
	return []fault{
		{"9 cells", sample(0, 0, 0, 0, 0, 0, 0, 0, 0, 0), api.ErrFull},
		{"1000 cells", sample(0, make([]int, 1000)...), api.ErrFull},
		{"the first cell beyond", sample(0, end+1, 0, 0), api.ErrRange},
		{"the first cell beyond, below 0", sample(0, -end-1, 0, 0), api.ErrRange},
		{"the second cell beyond", sample(0, 0, highest, 0), api.ErrRange},
		{"the last cell beyond", sample(0, 0, 0, end+1), api.ErrRange},
		{"the last cell beyond, below 0", sample(0, 0, 0, lowest), api.ErrRange},
		{"one below what is not there", sample(0, gone-1, 0, 0), api.ErrRange},
		{"one above what is not there", sample(0, 0, gone+1, 0), api.ErrRange},
		{"Target beyond", sample(most+1, 0, 0, 0), api.ErrRange},
		{"Target beyond, below 0", sample(-most-1, 0, 0, 0), api.ErrRange},
		{"Target that is not there", sample(gone, 0, 0, 0), api.ErrRange},
		{"Target the least", sample(lowest, 0, 0, 0), api.ErrRange},
		{"Target the greatest", sample(highest, 0, 0, 0), api.ErrRange},
		{"no cells", sample(0), api.ErrShape},
		{"1 cell", sample(0, 0), api.ErrShape},
		{"2 cells", sample(0, 0, 0), api.ErrShape},
		{"4 cells", sample(0, 0, 0, 0, 0), api.ErrShape},
		{"8 cells", sample(0, make([]int, 8)...), api.ErrShape},
		{"the first cell not there", sample(0, gone, 0, 0), api.ErrNone},
		{"the second cell not there", sample(0, 0, gone, 0), api.ErrNone},
		{"the last cell not there", sample(0, 0, 0, gone), api.ErrNone},
		{"no cell there", sample(0, gone, gone, gone), api.ErrNone},

		{"9 cells, one beyond", sample(0, 0, 0, 0, 0, 0, 0, 0, 0, end+1), api.ErrFull},
		{"9 cells, the first beyond", sample(0, end+1, 0, 0, 0, 0, 0, 0, 0, 0), api.ErrFull},
		{"9 cells, one not there", sample(0, gone, 0, 0, 0, 0, 0, 0, 0, 0), api.ErrFull},
		{"9 cells, Target beyond", sample(most+1, 0, 0, 0, 0, 0, 0, 0, 0, 0), api.ErrFull},
		{"a cell beyond, Target beyond", sample(most+1, 0, 0, end+1), api.ErrRange},
		{"a cell beyond, 2 cells", sample(0, 0, end+1), api.ErrRange},
		{"a cell beyond, 4 cells", sample(0, 0, 0, 0, end+1), api.ErrRange},
		{"a cell beyond, one ahead not there", sample(0, gone, 0, end+1), api.ErrRange},
		{"a cell beyond, one behind not there", sample(0, -end-1, 0, gone), api.ErrRange},
		{"Target beyond, no cells", sample(most + 1), api.ErrRange},
		{"Target beyond, 2 cells", sample(-most-1, 0, 0), api.ErrRange},
		{"Target beyond, 4 cells", sample(most+1, 0, 0, 0, 0), api.ErrRange},
		{"Target beyond, a cell not there", sample(-most-1, gone, 0, 0), api.ErrRange},
		{"Target beyond, 2 cells, one not there", sample(most+1, 0, gone), api.ErrRange},
		{"2 cells, one not there", sample(0, gone, 0), api.ErrShape},
		{"4 cells, the last not there", sample(0, 0, 0, 0, gone), api.ErrShape},
		{"4 cells, none there", sample(0, gone, gone, gone, gone), api.ErrShape},
		{"all of it", broken(), api.ErrFull},
	}
}

// TestFaults: each alone, at the first place, within, and last; and each ahead of each other.
func TestFaults(t *testing.T) {
	for _, f := range faults() {
		checkRefused(t, f.name, samples{f.sample}, 3, 0, f.want)
		for _, place := range []int{0, 1, 29, 58, 59} {
			checkRefused(t, fmt.Sprint(f.name, " at ", place), with(plenty(60, 3), place, f.sample), 3, place, f.want)
		}
		for _, g := range faults() {
			two := with(with(plenty(5, 3), 1, f.sample), 3, g.sample)
			checkTold(t, f.name+", then "+g.name, two, 3, 1, f.want)
			checkNoSplit(t, f.name+", then "+g.name, two, 3, 1, f.want)
			checkNoFit(t, f.name+", then "+g.name, two, 3, 2, 1, f.want)
		}
	}
}

// TestEnds: Targets and cells at both ends, one within, and 0.
func TestEnds(t *testing.T) {
	for _, target := range []int{-most, -most + 1, -1, 0, 1, most - 1, most} {
		for _, cell := range []int{-end, -end + 1, -1, 0, 1, end - 1, end} {
			for place := range 3 {
				row := []int{4, 4, 4}
				row[place] = cell
				name := fmt.Sprint(target, " with ", cell, " at ", place)
				checkTaken(t, name, samples{sample(target, row...)}, 3)
				checkTaken(t, name, append(plenty(9, 3), sample(target, row...)), 3)
			}
		}
	}
	for _, target := range []int{-most - 1, most + 1} {
		checkRefused(t, "without cells", samples{sample(0), sample(target)}, 0, 1, api.ErrRange)
	}
}

// plainSample tells what is wrong with a sample.
func plainSample(s api.Sample, features int) api.Errno {
	beyond, missing := 0, 0
	for _, cell := range s.Row {
		if cell == gone {
			missing++
		} else if cell < -1000000 || 1000000 < cell {
			beyond++
		}
	}
	switch {
	case len(s.Row) > 8:
		return api.ErrFull
	case beyond > 0, s.Target < -1000, 1000 < s.Target:
		return api.ErrRange
	case len(s.Row) != features:
		return api.ErrShape
	case missing > 0:
		return api.ErrNone
	}
	return none
}

// plainCheck tells it of the first that is wrong.
func plainCheck(l samples, features int) (int, api.Errno) {
	switch {
	case len(l) > 60:
		return 0, api.ErrFull
	case len(l) == 0:
		return 0, api.ErrNone
	case features < 0 || 8 < features:
		return 0, api.ErrRange
	}
	for i, s := range l {
		if e := plainSample(s, features); e != none {
			return i, e
		}
	}
	return 0, none
}

// spoil changes some samples to such as may be wrong.
func (s *noise) spoil(l samples) {
	for range s.below(4) {
		x := &l[s.below(len(l))]
		switch s.below(5) {
		case 0:
			x.Target = s.pick(lowest, gone, -1001, -1000, 0, 1000, 1001, highest)
		case 1:
			x.Row = append(x.Row, make([]int, s.below(9))...)
		case 2:
			x.Row = x.Row[:s.below(len(x.Row)+1)]
		default:
			if len(x.Row) > 0 {
				x.Row[s.below(len(x.Row))] = s.pick(lowest, gone-1, gone, gone, gone+1, -1000001, -1000000, 1000000, 1000001, highest)
			}
		}
	}
}

// TestCheckAgainstPlain: many samples with some things spoilt.
func TestCheckAgainstPlain(t *testing.T) {
	var s noise = 1
	seen := map[api.Errno]int{}
	for range 4000 {
		features := s.below(9)
		l := s.samples(1+s.below(8), features)
		s.spoil(l)
		place, want := plainCheck(l, features)
		seen[want]++
		checkTold(t, "many", l, features, place, want)
		if want != none {
			checkNoSplit(t, "many", l, features, s.pick(0, 1, 61), want)
			checkNoFit(t, "many", l, features, s.pick(-1, 0, 5, 6), s.pick(0, 1, 61), want)
		}
	}
	for _, e := range []api.Errno{none, api.ErrFull, api.ErrRange, api.ErrShape, api.ErrNone} {
		if seen[e] < 100 {
			t.Errorf("%v came %d times", e, seen[e])
		}
	}
}

// flaw of a tree of three features.
type flaw struct {
	name string
	tree nodes
	want api.Errno
}

// flaws: each way in which a tree is wrong.
func flaws() []flaw {
	return []flaw{
		{"64 nodes", append(even(63), leaf(1)), api.ErrFull},
		{"65 nodes", even(65), api.ErrFull},
		{"100000 nodes", make(nodes, 100000), api.ErrFull},
		{"no nodes", nil, api.ErrNone},
		{"an empty list of nodes", nodes{}, api.ErrNone},
		{"a Value beyond", says(end + 1), api.ErrRange},
		{"a Value beyond, below 0", says(-end - 1), api.ErrRange},
		{"a leaf with a Cut", nodes{{Feature: api.Leaf, Cut: 1}}, api.ErrShape},
		{"a leaf with a Left", nodes{{Feature: api.Leaf, Left: 1}}, api.ErrShape},
		{"a leaf with a Right", nodes{{Feature: api.Leaf, Right: 1}}, api.ErrShape},
		{"a leaf with Less", nodes{{Feature: api.Leaf, Less: true}}, api.ErrShape},
		{"a Feature below", small(-2, 0, 1, 2), api.ErrRange},
		{"a Feature beyond", small(3, 0, 1, 2), api.ErrRange},
		{"a Cut beyond", small(0, end+1, 1, 2), api.ErrRange},
		{"a Cut beyond, below 0", small(0, -end-1, 1, 2), api.ErrRange},
		{"a Left that is not behind", nodes{ask(0, 0, 0, 1), leaf(1)}, api.ErrRange},
		{"a Right that is not behind", nodes{ask(0, 0, 1, 0), leaf(1)}, api.ErrRange},
		{"a Left beyond", nodes{ask(0, 0, 3, 1), leaf(1), leaf(2)}, api.ErrRange},
		{"a Right far beyond", nodes{ask(0, 0, 1, highest), leaf(1), leaf(2)}, api.ErrRange},
		{"one that asks with a Value", nodes{{Left: 1, Right: 2, Value: 1}, leaf(1), leaf(2)}, api.ErrShape},
		{"Left that is Right", nodes{ask(0, 0, 1, 1), leaf(1)}, api.ErrShape},
		{"a leaf that is nobody's", append(small(0, 0, 1, 2), leaf(3)), api.ErrClash},
		{"a leaf that is two's", nodes{ask(0, 0, 1, 2), ask(0, 0, 2, 3), leaf(1), leaf(2)}, api.ErrClash},
		{"too deep", chain(11), api.ErrFull},
		{"a Value beyond where nobody comes", small(0, -end, end+1, 1), api.ErrRange},
		{"a Feature beyond where nobody comes", fork(0, -end, small(3, 0, 1, 2), says(3)), api.ErrRange},
	}
}

// TestWrongOfNone: without samples nothing else is told.
func TestWrongOfNone(t *testing.T) {
	for _, l := range []samples{nil, {}} {
		for _, n := range []nodes{says(1), small(0, 0, 1, 2), small(7, 0, 1, 2), even(63)} {
			checkNotWrong(t, "no samples", n, l, api.ErrNone)
		}
		for _, f := range flaws() {
			checkNotWrong(t, "no samples, "+f.name, f.tree, l, api.ErrNone)
		}
	}
}

// TestWrongOfFlaws: what is wrong with the tree is told ahead of what is wrong with samples.
func TestWrongOfFlaws(t *testing.T) {
	for _, f := range flaws() {
		checkNotWrong(t, f.name, f.tree, plenty(1, 3), f.want)
		checkNotWrong(t, f.name, f.tree, plenty(60, 3), f.want)
		checkNotWrong(t, f.name+", 61 samples", f.tree, plenty(61, 3), f.want)
		for _, g := range faults() {
			checkNotWrong(t, f.name+", "+g.name, f.tree, append(plenty(1, 3), g.sample), f.want)
		}
	}
}

// TestWrongOfFaults: the first row is right, so there are three features; with it wrong it tells how many there are.
func TestWrongOfFaults(t *testing.T) {
	for _, n := range []nodes{says(1), small(2, 0, 1, 2), chain(10)} {
		for _, f := range faults() {
			for _, place := range []int{1, 30, 59} {
				checkNotWrong(t, fmt.Sprint(f.name, " at ", place), n, with(plenty(60, 3), place, f.sample), f.want)
			}
			for _, g := range faults() {
				checkNotWrong(t, f.name+", then "+g.name, n, append(plenty(2, 3), f.sample, g.sample), f.want)
			}
		}
		checkNotWrong(t, "61 samples", n, plenty(61, 3), api.ErrFull)
		checkNotWrong(t, "61 samples, one wrong", n, with(plenty(61, 3), 1, sample(most+1, 0, 0, 0)), api.ErrFull)
		checkNotWrong(t, "61 samples, the first one wrong", n, with(plenty(61, 3), 0, sample(most+1, 0, 0, 0)), api.ErrFull)
	}
}

// TestWrongOfTheFirst: as many features as the first row has cells, whatever else is wrong with it.
func TestWrongOfTheFirst(t *testing.T) {
	for _, c := range []struct {
		name string
		tree nodes
		l    samples
		want api.Errno
	}{
		{"9 cells", says(1), samples{sample(0, make([]int, 9)...)}, api.ErrRange},
		{"9 cells, the rest right", small(0, 0, 1, 2), append(samples{sample(0, make([]int, 9)...)}, plenty(3, 3)...), api.ErrRange},
		{"9 cells, no nodes", nil, samples{sample(0, make([]int, 9)...)}, api.ErrNone},
		{"9 cells, 65 nodes", even(65), samples{sample(0, make([]int, 9)...)}, api.ErrFull},
		{"9 cells, a leaf with Less", nodes{{Feature: api.Leaf, Less: true}}, samples{sample(0, make([]int, 9)...)}, api.ErrRange},
		{"9 cells, 61 samples", says(1), slices.Repeat(samples{sample(0, make([]int, 9)...)}, 61), api.ErrRange},
		{"2 cells, the third is asked", small(2, 0, 1, 2), append(samples{sample(0, 1, 2)}, plenty(3, 3)...), api.ErrRange},
		{"2 cells, the second is asked, then 3", small(1, 0, 1, 2), append(samples{sample(0, 1, 2)}, plenty(3, 3)...), api.ErrShape},
		{"4 cells, the fourth is asked, then 3", small(3, 0, 1, 2), append(samples{sample(0, 1, 2, 3, 4)}, plenty(3, 3)...), api.ErrShape},
		{"no cells, the first is asked", small(0, 0, 1, 2), samples{sample(0), sample(0, 1)}, api.ErrRange},
		{"no cells, nothing is asked, then 1", says(1), samples{sample(0), sample(0, 1)}, api.ErrShape},
		{"8 cells, then 9", says(1), samples{sample(0, make([]int, 8)...), sample(0, make([]int, 9)...)}, api.ErrFull},
		{"a cell beyond", small(0, 0, 1, 2), samples{sample(0, end+1)}, api.ErrRange},
		{"a cell beyond, a leaf that is nobody's", append(small(0, 0, 1, 2), leaf(3)), samples{sample(0, end+1)}, api.ErrClash},
		{"a cell not there", small(0, 0, 1, 2), samples{sample(0, gone)}, api.ErrNone},
		{"a cell not there, Less", smallLess(0, 0, 1, 2), samples{sample(0, gone)}, api.ErrNone},
		{"a cell not there that is not asked", says(1), samples{sample(0, gone)}, api.ErrNone},
		{"a cell not there, Left that is Right", nodes{ask(0, 0, 1, 1), leaf(1)}, samples{sample(0, gone)}, api.ErrShape},
		{"Target beyond", small(0, 0, 1, 2), samples{sample(most+1, 0)}, api.ErrRange},
		{"Target beyond, too deep", chain(11), samples{sample(most+1, 0)}, api.ErrFull},
	} {
		checkNotWrong(t, c.name, c.tree, c.l, c.want)
	}
}

// checkWrong holds Wrong to a number.
func checkWrong(t *testing.T, name string, n nodes, l samples, want int) {
	t.Helper()
	if x, err := grow.Wrong(n, l); x != want || err != nil {
		t.Errorf("%s: Wrong of %v, %v = %d, %v, want %d", name, n, l, x, err, want)
	}
}

func TestWrong(t *testing.T) {
	for _, c := range []struct {
		name string
		tree nodes
		l    samples
		want int
	}{
		{"what is right", says(7), samples{sample(7)}, 0},
		{"one more", says(8), samples{sample(7)}, 1},
		{"one less", says(6), samples{sample(7)}, 1},
		{"across 0", says(-3), samples{sample(7)}, 100},
		{"two", says(1), samples{sample(3), sample(-3)}, 4 + 16},
		{"one twice", says(1), samples{sample(3), sample(3)}, 8},
		{"a question", small(0, 5, -7, 9), samples{sample(-7, 4), sample(9, 5)}, 0},
		{"a question, the other way", small(0, 5, -7, 9), samples{sample(-7, 5), sample(9, 4)}, 512},
		{"at the cut", small(0, 5, -7, 9), samples{sample(0, 5)}, 81},
		{"below the cut", small(0, 5, -7, 9), samples{sample(0, 4)}, 49},
		{"Less is for what is not there", smallLess(0, 5, -7, 9), samples{sample(0, 5)}, 81},
		{"two questions", fork(0, 5, smallLess(2, -5, 10, 20), says(30)), samples{sample(0, 4, 0, -6), sample(0, 4, 0, -5), sample(0, 5, 0, -6)}, 100 + 400 + 900},
		{"the deepest", chain(10), samples{sample(0, -1), sample(0, 0), sample(0, 8), sample(0, 9), sample(0, end)}, 0 + 1 + 81 + 10000 + 10000},
		{"the last feature", small(7, 1, 2, 3), samples{sample(0, 9, 9, 9, 9, 9, 9, 9, 0), sample(0, 0, 0, 0, 0, 0, 0, 0, 1)}, 4 + 9},
		{"a Value at the end", says(end), samples{sample(0)}, 1000000000000},
		{"a Value at the end, below 0", says(-end), samples{sample(1)}, 1000002000001},
		{"beyond MaxNum", says(end), samples{sample(0), sample(0)}, 2000000000000},
		{"the greatest of one", says(end), samples{sample(-most)}, 1002001000000},
		{"the greatest of one, below 0", says(-end), samples{sample(most)}, 1002001000000},
		{"the greatest", says(end), slices.Repeat(samples{sample(-most)}, 60), 60120060000000},
		{"the greatest, below 0", says(-end), slices.Repeat(samples{sample(most)}, 60), 60120060000000},
		{"the greatest, both ways", small(0, 0, end, -end), slices.Concat(slices.Repeat(samples{sample(-most, -end)}, 30), slices.Repeat(samples{sample(most, end)}, 30)), 60120060000000},
	} {
		checkWrong(t, c.name, c.tree, c.l, c.want)
	}
}

// comesTo goes down by itself; all cells are there.
func comesTo(n nodes, row []int) int {
	at := 0
	for n[at].Feature != api.Leaf {
		if row[n[at].Feature] < n[at].Cut {
			at = n[at].Left
		} else {
			at = n[at].Right
		}
	}
	return at
}

// plainWrong adds up by itself.
func plainWrong(n nodes, l samples) int {
	sum := new(big.Int)
	for _, s := range l {
		off := big.NewInt(int64(s.Target - n[comesTo(n, s.Row)].Value))
		sum.Add(sum, off.Mul(off, off))
	}
	return int(sum.Int64())
}

// TestWrongAgainstPlain: many trees and samples; the order of samples does not matter.
func TestWrongAgainstPlain(t *testing.T) {
	var s noise = 2
	for range 2000 {
		features := s.below(9)
		n, l := s.tree(s.below(32), features, 10), s.samples(1+s.below(60), features)
		want := plainWrong(n, l)
		checkWrong(t, "many", n, l, want)
		checkWrong(t, "many, shuffled", n, s.shuffled(l), want)
	}
}

// choice of a question: how many are on both sides, and what is put right by it.
type choice struct {
	feature, cut  int
	below, others int
	right         *big.Rat
}

// part gives the samples with a cell below a cut, and the others.
func part(l samples, feature, cut int) (below, others samples) {
	for _, s := range l {
		if s.Row[feature] < cut {
			below = append(below, s)
		} else {
			others = append(others, s)
		}
	}
	return below, others
}

// squared gives the square of the sum of Targets over how many they are.
func squared(l samples) *big.Rat {
	sum := int64(0)
	for _, s := range l {
		sum += int64(s.Target)
	}
	return big.NewRat(sum*sum, int64(len(l)))
}

// choices gives all questions, by feature and then by cut.
func choices(l samples, features int) []choice {
	var all []choice
	for f := range features {
		for cut := range cellsOf(l, f) {
			below, others := part(l, f, cut)
			// The least number has nothing below it.
			if len(below) > 0 {
				right := squared(below)
				all = append(all, choice{f, cut, len(below), len(others), right.Add(right, squared(others))})
			}
		}
	}
	slices.SortFunc(all, func(a, b choice) int {
		if a.feature != b.feature {
			return a.feature - b.feature
		}
		return a.cut - b.cut
	})
	return all
}

// cellsOf tells how often each number stands at a feature.
func cellsOf(l samples, feature int) map[int]int {
	cells := map[int]int{}
	for _, s := range l {
		cells[s.Row[feature]]++
	}
	return cells
}

// plainSplit gives all questions that are as good as the best one, which stands first; none, if there is none that puts more right than no question.
func plainSplit(l samples, features, least int) []choice {
	best, most := []choice(nil), squared(l)
	for _, c := range choices(l, features) {
		if c.below < least || c.others < least {
			continue
		}
		switch more := c.right.Cmp(most); {
		case more > 0:
			best, most = []choice{c}, c.right
		case more == 0 && best != nil:
			best = append(best, c)
		}
	}
	return best
}

// checkSplit holds Split to a question.
func checkSplit(t *testing.T, name string, l samples, features, least, feature, cut int) {
	t.Helper()
	if f, c, err := grow.Split(l, features, least); f != feature || c != cut || err != nil {
		t.Errorf("%s: Split of %v with %d, least %d = %d, %d, %v, want %d, %d", name, l, features, least, f, c, err, feature, cut)
	}
}

// checkAgainstAll holds Split to all questions tried one by one, and gives those that are as good as the best one.
func checkAgainstAll(t *testing.T, name string, l samples, features, least int) []choice {
	t.Helper()
	best := plainSplit(l, features, least)
	if len(best) == 0 {
		checkNoSplit(t, name, l, features, least, api.ErrNone)
	} else {
		checkSplit(t, name, l, features, least, best[0].feature, best[0].cut)
	}
	return best
}

func TestSplit(t *testing.T) {
	for _, c := range []struct {
		name            string
		l               samples
		features, least int
		feature, cut    int
	}{
		{"two", line(1, 2), 1, 1, 0, 1},
		{"two, falling", line(2, 1), 1, 1, 0, 1},
		{"one is far off", line(5, 5, 5, 90), 1, 1, 0, 3},
		{"one is far off, the first", line(90, 5, 5, 5), 1, 1, 0, 1},
		{"one is far off, below 0", line(5, 5, 5, -90), 1, 1, 0, 3},
		{"one is far off, but not the last", line(5, 5, -90, 5), 1, 1, 0, 2},
		{"the cut is the number on the right side", samples{sample(1, -5), sample(9, 40), sample(9, 41)}, 1, 1, 0, 40},
		{"cells at the ends", samples{sample(1, -end), sample(2, end)}, 1, 1, 0, end},
		{"cells just above the low end", samples{sample(1, -end), sample(2, -end+1)}, 1, 1, 0, -end + 1},
		{"Targets at the ends", line(-most, -most, most), 1, 1, 0, 2},
		{"Targets that come to 0", line(-1, 1), 1, 1, 0, 1},
		{"Targets of 0 but one", line(0, 0, 0, 0, 1), 1, 1, 0, 4},
		{"sums of 0 put nothing right", line(3, -3, 0, 0), 1, 1, 0, 1},
		{"the second feature", table([3]int{1, 0, 0}, [3]int{9, 0, 1}, [3]int{1, 1, 0}, [3]int{9, 1, 1}), 2, 1, 1, 1},
		{"the last feature", samples{sample(1, 0, 0, 0, 0, 0, 0, 0, 3), sample(2, 0, 0, 0, 0, 0, 0, 0, 4)}, 8, 1, 7, 4},
		{"the better one of two", table([3]int{1, 0, 0}, [3]int{8, 1, 0}, [3]int{9, 1, 1}, [3]int{9, 1, 1}), 2, 1, 0, 1},
		{"the better one of two, the other way", table([3]int{1, 0, 0}, [3]int{8, 0, 1}, [3]int{9, 1, 1}, [3]int{9, 1, 1}), 2, 1, 1, 1},
		{"better by a small part", table([3]int{0, 0, 0}, [3]int{0, 0, 0}, [3]int{1, 0, 1}, [3]int{0, 1, 1}, [3]int{1, 1, 1}), 2, 1, 1, 1},
	} {
		checkSplit(t, c.name, c.l, c.features, c.least, c.feature, c.cut)
		checkAgainstAll(t, c.name, c.l, c.features, c.least)
	}
}

// swapped gives samples of two features with these changed round.
func swapped(l samples) samples {
	l = copied(l)
	for i := range l {
		l[i].Row[0], l[i].Row[1] = l[i].Row[1], l[i].Row[0]
	}
	return l
}

// TestEqualOnes: the least feature, then the least cut, wherever samples stand.
func TestEqualOnes(t *testing.T) {
	var s noise = 3
	for _, c := range []struct {
		name         string
		l            samples
		features     int
		feature, cut int
		many         int // how many are as good
	}{
		{"two cuts", line(0, 1, 0), 1, 0, 1, 2},
		{"two cuts below 0", samples{sample(0, -9), sample(1, -5), sample(0, -2)}, 1, 0, -5, 2},
		{"two cuts, the first of them far from the first cell", line(0, 0, 5, 5, 5, 0, 0), 1, 0, 2, 2},
		{"two features", table([3]int{1, 0, 0}, [3]int{2, 1, 1}), 2, 0, 1, 2},
		{"two features, the second one's cut is less", table([3]int{1, 8, -8}, [3]int{2, 9, -7}), 2, 0, 9, 2},
		{"two features, the first one's cut is less", table([3]int{1, -8, 8}, [3]int{2, -7, 9}), 2, 0, -7, 2},
		{"two features that ask for other samples", table([3]int{5, 0, 1}, [3]int{5, 1, 0}, [3]int{0, 1, 1}), 2, 0, 1, 2},
		{"two features, one the other way round", table([3]int{1, 0, 1}, [3]int{1, 0, 1}, [3]int{2, 1, 0}), 2, 0, 1, 2},
		{"two cuts of two features", table([3]int{0, 0, 5}, [3]int{1, 1, 6}, [3]int{0, 2, 7}), 2, 0, 1, 4},
	} {
		for range 10 {
			l := s.shuffled(c.l)
			checkSplit(t, c.name, l, c.features, 1, c.feature, c.cut)
			if best := checkAgainstAll(t, c.name, l, c.features, 1); len(best) != c.many {
				t.Errorf("%s: %d are as good, want %d: %v", c.name, len(best), c.many, best)
			}
		}
	}
}

// nineAndEight gives ten samples whose Targets come to 0. The first feature parts one from nine, with sums 3 and -3 times by: 9 and 9 over 9 squares of by are put right; the second two from eight, with 4 and -4 times by: 16 over 2 and 16 over 8, which is as many.
func nineAndEight(by int) samples {
	l := table([3]int{3 * by, 0, 1}, [3]int{2 * by, 1, 0}, [3]int{2 * by, 1, 0})
	for range 7 {
		l = append(l, sample(-by, 1, 1))
	}
	return l
}

// TestEqualFractions: what is put right is the same, but comes of other counts.
func TestEqualFractions(t *testing.T) {
	for _, by := range []int{1, -1, 2, 7, 100, 333, -333} {
		l := nineAndEight(by)
		best := checkAgainstAll(t, "nine and eight", l, 2, 1)
		if len(best) != 2 || best[0].below != 1 || best[1].below != 2 {
			t.Fatalf("these are as good: %v", best)
		}
		checkSplit(t, "one and nine first", l, 2, 1, 0, 1)
		checkSplit(t, "two and eight first", swapped(l), 2, 1, 0, 1)
		checkSplit(t, "one and nine first, but two are the least", l, 2, 2, 1, 1)
		// One Target more or less makes the one or the other better, by little.
		for place := range l {
			for _, off := range []int{-1, 1} {
				other := copied(l)
				other[place].Target += off
				checkAgainstAll(t, "nearly nine and eight", other, 2, 1)
				checkAgainstAll(t, "nearly nine and eight, swapped", swapped(other), 2, 1)
			}
		}
	}
}

// TestSplitOfNothing: there is no question, or none that puts more right.
func TestSplitOfNothing(t *testing.T) {
	for _, c := range []struct {
		name     string
		l        samples
		features int
	}{
		{"one sample", line(5), 1},
		{"one sample of eight features", plenty(1, 8), 8},
		{"no features", plenty(60, 0), 0},
		{"no features, one sample", plenty(1, 0), 0},
		{"all Targets alike", line(5, 5, 5, 5, 5), 1},
		{"all Targets 0", line(0, 0, 0), 1},
		{"all Targets at an end", slices.Repeat(line(-most, -most), 30), 1},
		{"all rows alike", table([3]int{1, 7, 8}, [3]int{2, 7, 8}, [3]int{3, 7, 8}), 2},
		{"all rows and Targets alike", table([3]int{1, 7, 8}, [3]int{1, 7, 8}), 2},
		{"the means of both sides alike", table([3]int{0, 0, 0}, [3]int{1, 0, 1}, [3]int{0, 1, 1}, [3]int{1, 1, 0}), 2},
		{"the means of both sides alike, not as many", samples{sample(4, 0), sample(1, 1), sample(7, 1), sample(4, 1)}, 1},
		{"the means of both sides 0", samples{sample(0, 0), sample(-1, 1), sample(1, 1)}, 1},
		{"the means of both sides a third", samples{sample(1, 0), sample(0, 0), sample(0, 0), sample(1, 1), sample(0, 1), sample(0, 1), sample(1, 1), sample(1, 1), sample(-1, 1)}, 1},
	} {
		checkNoSplit(t, c.name, c.l, c.features, 1, api.ErrNone)
		checkAgainstAll(t, c.name, c.l, c.features, 1)
	}
}

// TestLeastNumber: the least number there is no cut, as nothing is below it, and what stands there in no sample is none either.
func TestLeastNumber(t *testing.T) {
	for _, first := range []int{-end, -3, 0, 5, end - 1} {
		checkNoSplit(t, "one number", samples{sample(1, first), sample(9, first)}, 1, 1, api.ErrNone)
		checkSplit(t, "two numbers", samples{sample(9, first+1), sample(1, first)}, 1, 1, 0, first+1)
		checkSplit(t, "two numbers far from each other", samples{sample(1, first), sample(9, end)}, 1, 1, 0, end)
	}
}

// TestLeast: from 1 to 60, and beyond.
func TestLeast(t *testing.T) {
	l := plenty(60, 3)
	for _, least := range badLeasts() {
		for _, m := range []samples{l, plenty(1, 3), plenty(60, 0), plenty(8, 8)} {
			checkNoSplit(t, "least", m, len(m[0].Row), least, api.ErrRange)
		}
		checkNoSplit(t, "least, all Targets alike", line(5, 5, 5), 1, least, api.ErrRange)
		for _, f := range faults() {
			checkNoSplit(t, "least, "+f.name, with(l, 7, f.sample), 3, least, f.want)
		}
		checkNoSplit(t, "least, no samples", nil, 3, least, api.ErrNone)
		checkNoSplit(t, "least, 61 samples", plenty(61, 3), 3, least, api.ErrFull)
		checkNoSplit(t, "least, of a feature too few", l, 2, least, api.ErrShape)
	}
	rising := make([]int, 60)
	for i := range rising {
		rising[i] = i
	}
	for least := 1; least <= 60; least++ {
		checkAgainstAll(t, "least", l, 3, least)
		if least <= 30 {
			checkSplit(t, "rising", line(rising...), 1, least, 0, 30)
		} else {
			checkNoSplit(t, "rising", line(rising...), 1, least, api.ErrNone)
		}
	}
}

// TestTooFew: the one that is far off cannot stand alone, where there are to be more.
func TestTooFew(t *testing.T) {
	first, last := line(90, 0, 1, 2, 3, 4, 5, 6), line(6, 5, 4, 3, 2, 1, 0, 90)
	for least := 1; least <= 60; least++ {
		if least > 4 {
			checkNoSplit(t, "first", first, 1, least, api.ErrNone)
			checkNoSplit(t, "last", last, 1, least, api.ErrNone)
			continue
		}
		checkSplit(t, "first", first, 1, least, 0, least)
		checkSplit(t, "last", last, 1, least, 0, 8-least)
	}
	// By the first feature one stands alone, and most is put right; by the second there are three on both sides.
	l := table([3]int{900, 0, 0}, [3]int{1, 1, 0}, [3]int{2, 1, 0}, [3]int{3, 1, 1}, [3]int{4, 1, 1}, [3]int{5, 1, 1})
	checkSplit(t, "one of two features", l, 2, 1, 0, 1)
	checkSplit(t, "one of two features, 2", l, 2, 2, 1, 1)
	checkSplit(t, "one of two features, 3", l, 2, 3, 1, 1)
	checkNoSplit(t, "one of two features, 4", l, 2, 4, api.ErrNone)
	checkNoSplit(t, "one feature", l[:1], 2, 1, api.ErrNone)
	// What is left where there are to be two puts no more right than no question.
	no := line(3, 0, 3, 0)
	checkSplit(t, "only with one alone", no, 1, 1, 0, 1)
	checkNoSplit(t, "only with one alone, 2", no, 1, 2, api.ErrNone)
}

// TestSplitAgainstAll: many samples, with many that are as good.
func TestSplitAgainstAll(t *testing.T) {
	var s noise = 4
	var nothing, cuts, features int
	for range 15000 {
		count := s.pick(1, 1, s.below(9))
		l := s.samples(1+s.below(s.pick(4, 12, 60)), count)
		least := s.pick(1, 1, 1, 2, 3, 1+s.below(60))
		best := checkAgainstAll(t, "many", l, count, least)
		if len(best) == 0 {
			nothing++
			continue
		}
		checkSplit(t, "many, shuffled", s.shuffled(l), count, least, best[0].feature, best[0].cut)
		for _, c := range best[1:] {
			if c.feature == best[0].feature {
				cuts++
			} else {
				features++
			}
		}
	}
	if nothing < 500 || cuts < 100 || features < 500 {
		t.Errorf("nothing came %d times; as good: %d cuts, %d features", nothing, cuts, features)
	}
}

// TestManyEqualFractions: of nine or ten samples as much may be put right by parting one from the rest as by parting more.
func TestManyEqualFractions(t *testing.T) {
	var s noise = 9
	counts := 0
	for range 6000 {
		l := make(samples, 9+s.below(2))
		for i := range l {
			l[i].Target = s.below(7) - 3
			for range 8 {
				l[i].Row = append(l[i].Row, s.pick(0, 1, 1))
			}
		}
		best := checkAgainstAll(t, "nine or ten", l, 8, 1)
		for _, c := range best {
			if min(c.below, c.others) != min(best[0].below, best[0].others) {
				counts++
			}
		}
	}
	if counts < 20 {
		t.Errorf("other counts were as good %d times", counts)
	}
}

// everySamples does something with all samples, so many of them, of cells from 0 to 2 and Targets from -1 to 1.
func everySamples(count int, do func(l samples)) {
	all := 1
	for range count {
		all *= 9
	}
	for code := range all {
		var l samples
		for range count {
			l = append(l, sample(code%3-1, code/3%3))
			code /= 9
		}
		do(l)
	}
}

// TestSplitOfEvery: all small samples.
func TestSplitOfEvery(t *testing.T) {
	for count := 1; count <= 4; count++ {
		everySamples(count, func(l samples) {
			for least := 1; least <= 3; least++ {
				checkAgainstAll(t, "every", l, 1, least)
			}
		})
	}
}

// floorOf gives the mean of Targets, rounded down: the greatest number that, so many times, is not above their sum.
func floorOf(l samples) int {
	sum := 0
	for _, s := range l {
		sum += s.Target
	}
	mean := -most
	for (mean+1)*len(l) <= sum {
		mean++
	}
	return mean
}

// growth is what a tree is held to.
type growth struct {
	tree            nodes
	features, least int
}

// check holds the node at a place, and all below it, to samples and to how much deeper it may go; it gives the place behind them.
func (g growth) check(t *testing.T, name string, at int, l samples, depth int) int {
	t.Helper()
	if at >= len(g.tree) {
		t.Fatalf("%s: %v has no node at %d", name, g.tree, at)
	}
	best := checkAgainstAll(t, name, l, g.features, g.least)
	if depth == 0 || len(best) == 0 {
		if want := leaf(floorOf(l)); g.tree[at] != want {
			t.Fatalf("%s: %v at %d of %v, want %v of %v", name, g.tree[at], at, g.tree, want, l)
		}
		return at + 1
	}
	below, others := part(l, best[0].feature, best[0].cut)
	want := ask(best[0].feature, best[0].cut, at+1, g.check(t, name, at+1, below, depth-1))
	want.Less = len(below) > len(others)
	if g.tree[at] != want {
		t.Fatalf("%s: %v at %d of %v, want %v of %v", name, g.tree[at], at, g.tree, want, l)
	}
	return g.check(t, name, want.Right, others, depth-1)
}

// checkFit holds Fit to what is promised of it, and gives what comes.
func checkFit(t *testing.T, name string, l samples, features, depth, least int) nodes {
	t.Helper()
	n, err := grow.Fit(l, features, depth, least)
	if err != nil {
		t.Fatalf("%s: Fit of %v with %d, depth %d, least %d: %v", name, l, features, depth, least, err)
	}
	if at, err := tree.Check(n, features); err != nil {
		t.Fatalf("%s: %v is wrong at %d: %v", name, n, at, err)
	}
	if deep, err := tree.Depth(n); deep > depth || err != nil {
		t.Fatalf("%s: %v is %d deep, %v, want %d at most", name, n, deep, err, depth)
	}
	if sorted, err := prune.Sort(n, features); !slices.Equal(sorted, n) || err != nil {
		t.Fatalf("%s: %v is not in the order of Sort: %v, %v", name, n, sorted, err)
	}
	if last := (growth{n, features, least}).check(t, name, 0, l, depth); last != len(n) {
		t.Fatalf("%s: %v has more than %d nodes", name, n, last)
	}
	return n
}

// checkGrown holds Fit to a tree.
func checkGrown(t *testing.T, name string, l samples, features, depth, least int, want nodes) {
	t.Helper()
	if n := checkFit(t, name, l, features, depth, least); !slices.Equal(n, want) {
		t.Errorf("%s: Fit of %v with %d, depth %d, least %d = %v, want %v", name, l, features, depth, least, n, want)
	}
}

// TestFitRefuses: depth and least beyond both ends, one of them and both; samples are told ahead of both.
func TestFitRefuses(t *testing.T) {
	lists := []samples{plenty(60, 3), plenty(1, 3), {sample(5, 1, 1, 1), sample(5, 2, 2, 2)}}
	for _, depth := range append(badDepths(), 0, 3, 5) {
		for _, least := range append(badLeasts(), 1, 30, 60) {
			wrong := slices.Contains(badDepths(), depth) || slices.Contains(badLeasts(), least)
			name := fmt.Sprint("depth ", depth, ", least ", least)
			for _, l := range lists {
				if wrong {
					checkNoFit(t, name, l, 3, depth, least, api.ErrRange)
				} else {
					checkFit(t, name, l, 3, depth, least)
				}
			}
			for _, f := range faults() {
				checkNoFit(t, name+", "+f.name, append(plenty(2, 3), f.sample), 3, depth, least, f.want)
			}
			checkNoFit(t, name+", no samples", nil, 3, depth, least, api.ErrNone)
			checkNoFit(t, name+", 61 samples", plenty(61, 3), 3, depth, least, api.ErrFull)
			checkNoFit(t, name+", 9 features", plenty(9, 3), 9, depth, least, api.ErrRange)
			checkNoFit(t, name+", of a feature too many", plenty(9, 3), 4, depth, least, api.ErrShape)
		}
	}
}

// TestMeans: a leaf says the mean, rounded down.
func TestMeans(t *testing.T) {
	for _, c := range []struct {
		targets []int
		want    int
	}{
		{[]int{0}, 0},
		{[]int{7}, 7},
		{[]int{-7}, -7},
		{[]int{most}, most},
		{[]int{-most}, -most},
		{[]int{1, 2}, 1},
		{[]int{-1, -2}, -2},
		{[]int{0, -1}, -1},
		{[]int{0, 1}, 0},
		{[]int{0, 0, -1}, -1},
		{[]int{0, 0, 1}, 0},
		{[]int{0, 1, 1}, 0},
		{[]int{0, -1, -1}, -1},
		{[]int{-1, 1}, 0},
		{[]int{-2, 1}, -1},
		{[]int{-most, most}, 0},
		{[]int{-most, most - 1}, -1},
		{[]int{-3, -3, -3}, -3},
		{[]int{-3, -3, -4}, -4},
		{[]int{-3, -3, -2}, -3},
		{slices.Repeat([]int{most}, 60), most},
		{slices.Repeat([]int{-most}, 60), -most},
		{append(slices.Repeat([]int{-most}, 59), -most+1), -most},
		{append(slices.Repeat([]int{0}, 59), -1), -1},
		{append(slices.Repeat([]int{0}, 59), 1), 0},
	} {
		name := fmt.Sprint(c.targets)
		checkGrown(t, name, line(c.targets...), 1, 0, 1, says(c.want))
		checkGrown(t, name+", too few", line(c.targets...), 1, 5, 31, says(c.want))
		var l, both samples
		for _, target := range c.targets {
			l = append(l, sample(target))
			both = append(both, sample(target, 0))
		}
		checkGrown(t, name+", no features", l, 0, 5, 1, says(c.want))
		checkGrown(t, name+", all rows alike", both, 1, 5, 1, says(c.want))
		if len(both) == 60 || c.want > 0 {
			continue
		}
		// The same leaf below a question, whose other side has the Target that is furthest from all these.
		want := small(0, 1, c.want, most)
		want[0].Less = len(both) > 1
		checkGrown(t, name+", to Left", append(copied(both), sample(most, 1)), 1, 1, 1, want)
		checkGrown(t, name+", to Right", append(copied(both), sample(most, -1)), 1, 1, 1, small(0, 0, most, c.want))
	}
}

// TestLess: it is set if more samples are below the cut than not, also where Targets or cells are otherwise.
func TestLess(t *testing.T) {
	for below := 1; below <= 59; below++ {
		for others := 1; below+others <= 60; others += 1 + below%3 {
			l := slices.Concat(slices.Repeat(samples{sample(-4, 6)}, below), slices.Repeat(samples{sample(8, 7)}, others))
			want := small(0, 7, -4, 8)
			want[0].Less = below > others
			checkGrown(t, fmt.Sprint(below, " and ", others), l, 1, 5, 1, want)
		}
	}
	checkGrown(t, "more", line(1, 1, 9), 1, 1, 1, smallLess(0, 2, 1, 9))
	checkGrown(t, "as many", line(1, 1, 9, 9), 1, 1, 1, small(0, 2, 1, 9))
	checkGrown(t, "fewer", line(1, 9, 9), 1, 1, 1, small(0, 1, 1, 9))
}

// TestLessBelow: of each question the samples that come to it count, not all of them.
func TestLessBelow(t *testing.T) {
	l := line(0, 0, 0, 10, 500, 500, 500, 500, 500, 510, 510)
	want := fork(0, 4, smallLess(0, 3, 0, 10), smallLess(0, 9, 500, 510))
	checkGrown(t, "fewer, then more", l, 1, 2, 1, want)
	l = line(0, 10, 10, 10, 10, 500, 510, 510)
	want = forkLess(0, 5, small(0, 1, 0, 10), small(0, 6, 500, 510))
	checkGrown(t, "more, then fewer", l, 1, 2, 1, want)
}

// level asks for one feature on each level; its leaves say from first on, by steps.
func level(features []int, first, step int) nodes {
	if len(features) == 0 {
		return says(first)
	}
	half := step << (len(features) - 1)
	return fork(features[0], 1, level(features[1:], first, step), level(features[1:], first+half, step))
}

// bits gives 32 samples of five features: the first has the greatest part of the Target, each further one half of it.
func bits(first, step int) samples {
	var l samples
	for i := range 32 {
		l = append(l, sample(first+i*step, i>>4&1, i>>3&1, i>>2&1, i>>1&1, i&1))
	}
	return l
}

// TestDepths: a tree that is as great as it may be, and what comes of it with less depth.
func TestDepths(t *testing.T) {
	var s noise = 5
	all := []int{0, 1, 2, 3, 4}
	for depth := 0; depth <= 5; depth++ {
		// Where it ends, half of the Targets are above the middle, and half of them below it.
		step := 2 << (5 - depth)
		want := level(all[:depth], step/2-1-900, step)
		for range 5 {
			checkGrown(t, fmt.Sprint("depth ", depth), s.shuffled(bits(-900, 2)), 5, depth, 1, want)
		}
		if len(want) != 2<<depth-1 {
			t.Errorf("depth %d has %d nodes", depth, len(want))
		}
	}
	for depth := 0; depth <= 5; depth++ {
		checkGrown(t, "nothing to ask", line(5, 5, 5), 1, depth, 1, says(5))
		checkGrown(t, "one sample", line(-5), 1, depth, 1, says(-5))
		checkGrown(t, "no features", samples{sample(1), sample(4)}, 0, depth, 1, says(2))
		checkGrown(t, "all rows alike", samples{sample(1, 3), sample(4, 3)}, 1, depth, 1, says(2))
		checkGrown(t, "one question is enough", line(5, 5, 9, 9), 1, max(1, depth), 1, small(0, 2, 5, 9))
	}
}

// TestOneSide: questions one below the other, to Left and to Right.
func TestOneSide(t *testing.T) {
	right := line(-1000, -300, -90, -27, -8, -2, -1)
	checkGrown(t, "to Right, 2", right, 1, 2, 1, fork(0, 1, says(-1000), small(0, 2, -300, -26)))
	checkGrown(t, "to Right, 5", right, 1, 5, 1,
		fork(0, 1, says(-1000), fork(0, 2, says(-300), fork(0, 3, says(-90), fork(0, 4, says(-27), small(0, 5, -8, -2))))))
	left := line(1, 2, 8, 27, 90, 300, 1000)
	checkGrown(t, "to Left, 2", left, 1, 2, 1, forkLess(0, 6, smallLess(0, 5, 25, 300), says(1000)))
	checkGrown(t, "to Left, 5", left, 1, 5, 1,
		forkLess(0, 6, forkLess(0, 5, forkLess(0, 4, forkLess(0, 3, smallLess(0, 2, 1, 8), says(27)), says(90)), says(300)), says(1000)))
}

// TestLeastBelow: it holds at each question, not only at the first.
func TestLeastBelow(t *testing.T) {
	l := line(0, 0, 40, 500, 500, 500, 560)
	first, second := forkLess(0, 2, says(0), says(40)), forkLess(0, 6, says(500), says(560))
	checkGrown(t, "least 1", l, 1, 2, 1, fork(0, 3, first, second))
	checkGrown(t, "least 2", l, 1, 2, 2, fork(0, 3, says(13), small(0, 5, 500, 530)))
	checkGrown(t, "least 3", l, 1, 2, 3, small(0, 3, 13, 515))
	checkGrown(t, "least 3, deeper", l, 1, 5, 3, small(0, 3, 13, 515))
	for least := 4; least <= 60; least++ {
		checkGrown(t, "too many", l, 1, 5, least, says(300))
	}
}

// TestNoSplitBelow: it goes on below a question only where there is one that puts more right, by whatever feature.
func TestNoSplitBelow(t *testing.T) {
	l := table([3]int{0, 0, 0}, [3]int{0, 0, 1}, [3]int{500, 1, 0}, [3]int{600, 1, 1}, [3]int{600, 1, 1})
	checkGrown(t, "another feature", l, 2, 5, 1, fork(0, 1, says(0), small(1, 1, 500, 600)))
	l = table([3]int{0, 0, 0}, [3]int{1, 0, 1}, [3]int{1, 1, 0}, [3]int{0, 1, 1})
	checkGrown(t, "no question puts more right at first", l, 2, 5, 1, says(0))
}

// TestFitAgainstAll: many samples, with all depths and many leasts; their order does not matter.
func TestFitAgainstAll(t *testing.T) {
	var s noise = 6
	seen := map[int]int{}
	for round := range 900 {
		features := s.below(9)
		l := s.samples(1+s.below(s.pick(4, 12, 60)), features)
		depth, least := round%6, s.pick(1, 1, 1, 2, 3, 1+s.below(60))
		n := checkFit(t, "many", l, features, depth, least)
		seen[len(n)]++
		checkGrown(t, "many, shuffled", s.shuffled(l), features, depth, least, n)
	}
	greatest := 0
	for count := range seen {
		greatest = max(greatest, count)
	}
	if seen[1] == 0 || seen[1] > 600 || seen[3] < 20 || greatest < 40 {
		t.Errorf("so many nodes came so often: %v", seen)
	}
}

// TestFitOfEvery: all small samples.
func TestFitOfEvery(t *testing.T) {
	for count := 1; count <= 3; count++ {
		everySamples(count, func(l samples) {
			for depth := range 3 {
				checkFit(t, "every", l, 1, depth, 1)
			}
		})
	}
}

// TestWrongOfFit: what comes is less wrong than one leaf, but for what is rounded: less than 1 a sample.
func TestWrongOfFit(t *testing.T) {
	var s noise = 7
	for range 300 {
		features := 1 + s.below(8)
		l := s.samples(1+s.below(60), features)
		last := 0
		for depth := 0; depth <= 5; depth++ {
			n := checkFit(t, "less wrong", l, features, depth, 1)
			x, err := grow.Wrong(n, l)
			if err != nil || x != plainWrong(n, l) || depth > 0 && x > last+len(l) {
				t.Fatalf("Wrong of %v with depth %d = %d, %v, and %d ahead", l, depth, x, err, last)
			}
			last = x
		}
	}
}

// guarded gives samples with memory behind their list and behind each row, and all of that memory.
func guarded(l samples) (list, all samples) {
	all = append(copied(l), slices.Repeat(samples{broken()}, 4)...)
	for i := range l {
		row := append(slices.Clone(l[i].Row), highest, gone, lowest)
		all[i].Row = row[:len(l[i].Row)]
	}
	return all[:len(l)], all
}

// whole gives samples with all the memory of their rows, in memory of its own.
func whole(l samples) samples {
	l = slices.Clone(l)
	for i := range l {
		l[i].Row = slices.Clone(l[i].Row[:cap(l[i].Row)])
	}
	return l
}

// answers gives all that is told of samples.
func answers(n nodes, l samples, features, depth, least int) string {
	at, err := grow.Check(l, features)
	f, c, bad := grow.Split(l, features, least)
	grown, ill := grow.Fit(l, features, depth, least)
	x, no := grow.Wrong(n, l)
	return fmt.Sprintln(at, told(err), f, c, told(bad), grown, told(ill), x, told(no))
}

// TestStay: what is handed in, and what stands behind it, is as it was, and what stands behind it is not read.
func TestStay(t *testing.T) {
	lists := []samples{plenty(60, 3), plenty(1, 3), bits(0, 7), line(5, 3, 1), plenty(61, 3), nil}
	for _, f := range faults() {
		lists = append(lists, append(plenty(4, 3), f.sample))
	}
	trees := []nodes{says(1), small(2, 0, 5, 6), even(63), nil, append(small(0, 0, 1, 2), leaf(3))}
	for _, c := range lists {
		for _, n := range trees {
			for _, features := range []int{-1, 1, 3, 5} {
				for _, least := range []int{0, 1, 3} {
					l, all := guarded(c)
					was := whole(all)
					laid := append(slices.Clone(n), leaf(highest), leaf(lowest))
					wasLaid := slices.Clone(laid)
					got := answers(laid[:len(n)], l, features, 3, least)
					if !equal(whole(all), was) || !slices.Equal(laid, wasLaid) {
						t.Fatalf("%v, %v were written into", c, n)
					}
					if want := answers(n, c, features, 3, least); got != want {
						t.Fatalf("%v, %v with memory behind: %s, want %s", c, n, got, want)
					}
				}
			}
		}
	}
}

// scribble writes into all the memory of a list, also behind its length.
func scribble[T any](l []T, x T) {
	for i := range l[:cap(l)] {
		l[:cap(l)][i] = x
	}
}

// TestFresh: changing what came changes nothing of what was handed in, nor of what comes next, nor the other way round.
func TestFresh(t *testing.T) {
	var s noise = 8
	for range 200 {
		features := s.below(9)
		c := s.samples(1+s.below(60), features)
		l := copied(c)
		n := checkFit(t, "fresh", l, features, 5, 1)
		want := slices.Clone(n)
		scribble(n, leaf(77))
		if !equal(l, c) {
			t.Fatalf("%v changed as the tree was written into", c)
		}
		n = checkFit(t, "fresh", l, features, 5, 1)
		if !slices.Equal(n, want) {
			t.Fatalf("Fit of %v is %v then, want %v", c, n, want)
		}
		for i := range l {
			scribble(l[i].Row, 78)
		}
		scribble(l, sample(79))
		if !slices.Equal(n, want) {
			t.Fatalf("the tree of %v is %v, as these were written into, want %v", c, n, want)
		}
	}
}

// TestOneRow: several samples may have one list as their row.
func TestOneRow(t *testing.T) {
	row, other := []int{1, 2}, []int{1, 3}
	l := samples{sample(5, row...), sample(8, row...), sample(50, other...), sample(51, other...), sample(6, row...)}
	checkGrown(t, "one row", l, 2, 5, 1, smallLess(1, 3, 6, 50))
	if !slices.Equal(row, []int{1, 2}) || !slices.Equal(other, []int{1, 3}) {
		t.Errorf("rows are %v and %v then", row, other)
	}
	checkWrong(t, "one row", says(6), l, 1+4+44*44+45*45)
}
