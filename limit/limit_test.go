package limit_test

import (
	"errors"
	"fmt"
	"math"
	"slices"
	"testing"

	"orchardry/api"
	"orchardry/grove"
	"orchardry/limit"
	"orchardry/path"
	"orchardry/row"
	"orchardry/tree"
)

const (
	end   = api.MaxCell
	gone  = api.Nil
	least = math.MinInt
	great = math.MaxInt
)

// none stands for an error that is nil.
const none = api.OK

// told gives what an error tells; -1, if it is none of the program's, or OK, which no error may be.
func told(err error) api.Errno {
	var e api.Errno
	switch {
	case err == nil:
		return none
	case errors.As(err, &e) && e != api.OK:
		return e
	}
	return -1
}

// nodes of a tree.
type nodes = []api.Node

// spans of a row.
type spans = []api.Span

// leaf that says a value.
func leaf(value int) api.Node { return api.Node{Feature: api.Leaf, Value: value} }

// ask whether a feature is below a cut; what is not there goes to Right.
func ask(feature, cut, left, right int) api.Node {
	return api.Node{Feature: feature, Cut: cut, Left: left, Right: right}
}

// askLess is ask, but what is not there goes to Left.
func askLess(feature, cut, left, right int) api.Node {
	n := ask(feature, cut, left, right)
	n.Less = true
	return n
}

// says is a tree that says one value of every row.
func says(value int) nodes { return nodes{leaf(value)} }

// small has one question.
func small(feature, cut, left, right int) nodes {
	return nodes{ask(feature, cut, 1, 2), leaf(left), leaf(right)}
}

// smallLess is small, but what is not there goes to Left.
func smallLess(feature, cut, left, right int) nodes {
	return nodes{askLess(feature, cut, 1, 2), leaf(left), leaf(right)}
}

// two has two questions, the second one below Left of the first.
func two() nodes {
	return nodes{ask(0, 5, 1, 4), askLess(2, -5, 2, 3), leaf(10), leaf(20), leaf(30)}
}

// even has below place i those at 2i+1 and 2i+2.
func even(count int) nodes {
	t := make(nodes, count)
	for i := range t {
		if 2*i+2 < count {
			t[i] = ask(i%8, i-20, 2*i+1, 2*i+2)
		} else {
			t[i] = leaf(i)
		}
	}
	return t
}

// chain is as deep as it is told: below 0 comes to 0, each further number to one more, and what is at the last cut or above it to 100.
func chain(deep int) nodes {
	var t nodes
	for level := range deep {
		t = append(t, ask(0, level, len(t)+1, len(t)+2), leaf(level))
	}
	return append(t, leaf(100))
}

// span of numbers alone.
func span(low, high int) api.Span { return api.Span{Low: low, High: high} }

// spanNil is span, with Nil.
func spanNil(low, high int) api.Span { return api.Span{Low: low, High: high, Nil: true} }

// onlyNil has no number.
func onlyNil() api.Span { return spanNil(1, 0) }

// all that a cell may be.
func all() api.Span { return spanNil(-end, end) }

// free gives so many spans that let all by.
func free(count int) spans { return slices.Repeat(spans{all()}, count) }

// with another thing at a place.
func with[T any](l []T, place int, x T) []T {
	l = slices.Clone(l)
	l[place] = x
	return l
}

// ones gives so many Weights of 1.
func ones(count int) []int { return slices.Repeat([]int{1}, count) }

// wood lays a grove.
func wood(features, way int, weights []int, trees ...nodes) api.Grove {
	return api.Grove{Features: features, Way: way, Weights: weights, Trees: trees}
}

// three trees that are right, of three features.
func three(way int) api.Grove {
	return wood(3, way, []int{2, 3, 4}, small(0, 5, -7, 9), nodes{ask(1, 0, 1, 4), askLess(2, -5, 2, 3), leaf(10), leaf(20), leaf(30)}, says(6))
}

// copied gives a grove that shares nothing with another, whatever it is.
func copied(g api.Grove) api.Grove {
	g.Weights = slices.Clone(g.Weights)
	g.Trees = slices.Clone(g.Trees)
	for i, t := range g.Trees {
		g.Trees[i] = slices.Clone(t)
	}
	return g
}

// changed gives a grove with something of it changed.
func changed(g api.Grove, change func(g *api.Grove)) api.Grove {
	g = copied(g)
	change(&g)
	return g
}

// ways in which trees come together.
func ways() []int { return []int{api.Sum, api.Mean, api.Vote} }

// noise: numbers that look as if they had no order, the same ones each time.
type noise uint64

func (s *noise) below(n int) int {
	*s = *s*6364136223846793005 + 1442695040888963407
	return int(uint64(*s) >> 33 % uint64(n))
}

// cut from few, so that questions often ask the same.
func (s *noise) cut() int { return []int{-end, -end + 1, -3, -1, 0, 1, 2, 3, end}[s.below(9)] }

// value from few, so that several leaves often say the same.
func (s *noise) value() int { return []int{-end, -3, -2, 0, 1, 2, 7, end}[s.below(8)] }

// tree of so many questions, in any order in which what is below stands behind; it may be deeper than a tree may be.
func (s *noise) tree(questions, features int) nodes {
	t := make(nodes, 2*questions+1)
	// open holds the places that are somebody's and are not yet laid.
	open := []int{0}
	next := 1
	for range questions {
		pick := s.below(len(open))
		at := open[pick]
		left, right := next, next+1
		if s.below(2) == 0 {
			left, right = right, left
		}
		t[at] = ask(s.below(features), s.cut(), left, right)
		t[at].Less = s.below(2) == 0
		next += 2
		open = append(slices.Delete(open, pick, pick+1), left, right)
	}
	for _, at := range open {
		t[at] = leaf(s.value())
	}
	return t
}

// good tree of at most so many questions.
func (s *noise) good(questions, features int) nodes {
	if features == 0 {
		return says(s.value())
	}
	for {
		t := s.tree(s.below(questions+1), features)
		if _, err := tree.Check(t, features); err == nil {
			return t
		}
	}
}

// span that has something: all, Nil alone, one number, or numbers by the cuts.
func (s *noise) span() api.Span {
	a, b := s.cut(), s.cut()
	switch s.below(6) {
	case 0:
		return all()
	case 1:
		return spans{onlyNil(), spanNil(end, -end), spanNil(3, -3), spanNil(0, -1)}[s.below(4)]
	case 2:
		return span(a, a)
	case 3:
		return spanNil(min(a, b), max(a, b))
	}
	return span(min(a, b), max(a, b))
}

func (s *noise) spans(count int) spans {
	l := make(spans, count)
	for i := range l {
		l[i] = s.span()
	}
	return l
}

// cells within a span that tell all questions of a feature apart: its ends, the cuts, what is one below and one above them, and Nil.
func cells(n nodes, feature int, within api.Span) []int {
	l := []int{within.Low, within.High}
	for _, q := range n {
		if q.Feature == feature {
			l = append(l, q.Cut-1, q.Cut, q.Cut+1)
		}
	}
	l = slices.DeleteFunc(l, func(cell int) bool { return cell < within.Low || cell > within.High })
	if within.Nil {
		l = append(l, gone)
	}
	slices.Sort(l)
	return slices.Compact(l)
}

// rowsWithin gives all rows of such cells: there is one for each leaf to which a row within the spans comes, and each least number is among them.
func rowsWithin(n nodes, l spans) [][]int {
	rows := [][]int{{}}
	for feature, s := range l {
		var longer [][]int
		for _, r := range rows {
			for _, cell := range cells(n, feature, s) {
				longer = append(longer, append(slices.Clone(r), cell))
			}
		}
		rows = longer
	}
	return rows
}

// rowWithin gives one of them.
func (s *noise) rowWithin(n nodes, l spans) []int {
	r := make([]int, len(l))
	for i := range r {
		all := cells(n, i, l[i])
		r[i] = all[s.below(len(all))]
	}
	return r
}

// comesTo goes down by itself.
func comesTo(n nodes, r []int) int {
	at := 0
	for n[at].Feature != api.Leaf {
		q := n[at]
		cell := r[q.Feature]
		if cell == gone && q.Less || cell != gone && cell < q.Cut {
			at = q.Left
		} else {
			at = q.Right
		}
	}
	return at
}

// lesser gives a cell that comes first of two: the lower number, or the one that is a number.
func lesser(a, b int) int {
	if a == gone || b == gone {
		return max(a, b)
	}
	return min(a, b)
}

// tried is what came of rows that were tried one by one.
type tried struct {
	low, high   int
	least, most []int
}

// try all rows within spans; the first row of a leaf has the first of all cells with which rows came there.
func try(n nodes, l spans) tried {
	first := map[int][]int{}
	for _, r := range rowsWithin(n, l) {
		at := comesTo(n, r)
		if first[at] == nil {
			first[at] = slices.Clone(r)
		}
		for i, cell := range r {
			first[at][i] = lesser(first[at][i], cell)
		}
	}
	got := tried{low: great, high: least}
	for at := range n {
		if r, is := first[at]; is {
			if n[at].Value < got.low {
				got.low, got.least = n[at].Value, r
			}
			if n[at].Value > got.high {
				got.high, got.most = n[at].Value, r
			}
		}
	}
	return got
}

// checkTree holds Tree and Rows to what is to come.
func checkTree(t *testing.T, name string, n nodes, l spans, want tried) {
	t.Helper()
	low, high, err := limit.Tree(n, l)
	if low != want.low || high != want.high || err != nil {
		t.Errorf("%s: Tree of %v, %v = %d, %d, %v, want %d, %d", name, n, l, low, high, err, want.low, want.high)
	}
	a, b, err := limit.Rows(n, l)
	if !slices.Equal(a, want.least) || !slices.Equal(b, want.most) || err != nil {
		t.Errorf("%s: Rows of %v, %v = %v, %v, %v, want %v, %v", name, n, l, a, b, err, want.least, want.most)
		return
	}
	checkRow(t, name, n, l, a, low)
	checkRow(t, name, n, l, b, high)
}

// checkRow holds a row to be within spans, to come to a value, and to be Witness of what the Region of the first leaf that says so and the spans have in common.
func checkRow(t *testing.T, name string, n nodes, l spans, r []int, value int) {
	t.Helper()
	if fits, err := row.Fits(r, l); !fits || err != nil {
		t.Errorf("%s: %v is not within %v: %v", name, r, l, err)
	}
	if v, err := tree.Eval(n, r); v != value || err != nil {
		t.Errorf("%s: Eval of %v, %v = %d, %v, want %d", name, n, r, v, err, value)
	}
	for at, q := range n {
		if q.Feature != api.Leaf || q.Value != value {
			continue
		}
		region, _, err := path.Region(n, len(l), at)
		if err != nil {
			t.Fatalf("%s: Region of %d: %v", name, at, err)
		}
		both := spans{}
		for i, s := range region {
			both = append(both, api.Span{Low: max(s.Low, l[i].Low), High: min(s.High, l[i].High), Nil: s.Nil && l[i].Nil})
		}
		if want, err := path.Witness(both); err == nil {
			if !slices.Equal(r, want) {
				t.Errorf("%s: the row of %v, %v is %v, want %v, that of %d", name, n, l, r, want, at)
			}
			return
		}
	}
	t.Errorf("%s: no leaf of %v within %v says %d", name, n, l, value)
}

// checkNoTree holds Tree and Rows to an error, and with it to nothing else.
func checkNoTree(t *testing.T, name string, n nodes, l spans, want api.Errno) {
	t.Helper()
	if low, high, err := limit.Tree(n, l); low != 0 || high != 0 || told(err) != want {
		t.Errorf("%s: Tree = %d, %d, %v, want %v", name, low, high, err, want)
	}
	if a, b, err := limit.Rows(n, l); a != nil || b != nil || told(err) != want {
		t.Errorf("%s: Rows = %v, %v, %v, want %v", name, a, b, err, want)
	}
}

// TestOneLeaf: of any spans it tells one value, and both rows are their Witness.
func TestOneLeaf(t *testing.T) {
	for _, value := range []int{-end, -end + 1, -1, 0, 1, 63, end - 1, end} {
		for count := range 9 {
			for _, c := range []struct {
				s    api.Span
				cell int
			}{{all(), -end}, {span(0, 0), 0}, {onlyNil(), gone}, {spanNil(end, -end), gone}, {spanNil(-4, 9), -4}, {span(end, end), end}} {
				want := slices.Repeat([]int{c.cell}, count)
				checkTree(t, "one leaf", says(value), slices.Repeat(spans{c.s}, count), tried{value, value, want, want})
			}
		}
	}
	mixed := []int{gone, 7, -end, -2}
	checkTree(t, "one leaf", says(5), spans{onlyNil(), span(7, 9), all(), spanNil(-2, -2)}, tried{5, 5, mixed, mixed})
}

// TestOneQuestion: spans that lie on one side of a Cut, at it, one below it and around it, with Nil and without.
func TestOneQuestion(t *testing.T) {
	rising, falling := small(0, 5, 1, 2), small(0, 5, 2, 1)
	risingLess, fallingLess := smallLess(0, 5, 1, 2), smallLess(0, 5, 2, 1)
	left := func(cell int) tried { return tried{1, 1, []int{cell}, []int{cell}} }
	right := func(cell int) tried { return tried{2, 2, []int{cell}, []int{cell}} }
	both := func(a, b int) tried { return tried{1, 2, []int{a}, []int{b}} }
	for _, c := range []struct {
		name string
		n    nodes
		s    api.Span
		want tried
	}{
		{"all", rising, all(), both(-end, 5)},
		{"all, Less", risingLess, all(), both(-end, 5)},
		{"all, falling", falling, all(), both(5, -end)},
		{"all, falling, Less", fallingLess, all(), both(5, -end)},
		{"one below", rising, span(4, 4), left(4)},
		{"at", rising, span(5, 5), right(5)},
		{"one above", rising, span(6, 6), right(6)},
		{"to one below", rising, span(-3, 4), left(-3)},
		{"to the Cut", rising, span(-3, 5), both(-3, 5)},
		{"to one above", rising, span(-3, 6), both(-3, 5)},
		{"from one below", rising, span(4, 9), both(4, 5)},
		{"from the Cut", rising, span(5, 9), right(5)},
		{"from one above", rising, span(6, 9), right(6)},
		{"below and at", rising, span(4, 5), both(4, 5)},
		{"below and at, falling", falling, span(4, 5), both(5, 4)},
		{"far below", rising, span(-end, -end), left(-end)},
		{"far above", rising, span(end, end), right(end)},
		{"Nil alone", rising, onlyNil(), right(gone)},
		{"Nil alone, Less", risingLess, onlyNil(), left(gone)},
		{"Nil alone, the ends far apart", rising, spanNil(end, -end), right(gone)},
		{"Nil alone, the ends far apart, Less", risingLess, spanNil(end, -end), left(gone)},
		{"Nil alone, ends at the Cut", rising, spanNil(5, 4), right(gone)},
		{"Nil alone, ends at the Cut, Less", risingLess, spanNil(5, 4), left(gone)},
		{"Nil alone, ends below the Cut", rising, spanNil(3, 2), right(gone)},
		{"Nil alone, ends above the Cut, Less", risingLess, spanNil(8, 7), left(gone)},
		{"to one below, and Nil", rising, spanNil(-3, 4), both(-3, gone)},
		{"to one below, and Nil, Less", risingLess, spanNil(-3, 4), left(-3)},
		{"from the Cut, and Nil", rising, spanNil(5, 9), right(5)},
		{"from the Cut, and Nil, Less", risingLess, spanNil(5, 9), both(gone, 5)},
		{"one number below, and Nil", falling, spanNil(4, 4), both(gone, 4)},
		{"one number at, and Nil, Less", fallingLess, spanNil(5, 5), both(5, gone)},
	} {
		checkTree(t, c.name, c.n, spans{c.s}, c.want)
		for feature := range 8 {
			n := with(c.n, 0, api.Node{Feature: feature, Cut: 5, Left: 1, Right: 2, Less: c.n[0].Less})
			l := with(slices.Repeat(spans{span(3, 8)}, 8), feature, c.s)
			want := c.want
			want.least = with(slices.Repeat([]int{3}, 8), feature, c.want.least[0])
			want.most = with(slices.Repeat([]int{3}, 8), feature, c.want.most[0])
			checkTree(t, fmt.Sprint(c.name, ", feature ", feature), n, l, want)
		}
	}
}

// TestAtTheEnds: Cuts and spans at the ends of what cells can be, and leaves that say the least and the greatest.
func TestAtTheEnds(t *testing.T) {
	low, high := []int{-end}, []int{end}
	checkTree(t, "no number is below the lowest Cut", small(0, -end, 1, 2), free(1), tried{2, 2, low, low})
	checkTree(t, "Nil goes below the lowest Cut", smallLess(0, -end, 1, 2), free(1), tried{1, 2, []int{gone}, low})
	checkTree(t, "without Nil none does", smallLess(0, -end, 1, 2), spans{span(-end, end)}, tried{2, 2, low, low})
	checkTree(t, "the lowest alone", small(0, -end+1, 1, 2), spans{span(-end, end)}, tried{1, 2, low, []int{-end + 1}})
	checkTree(t, "the highest alone", small(0, end, 1, 2), free(1), tried{1, 2, low, high})
	checkTree(t, "ahead of the highest", small(0, end, 1, 2), spans{span(end-1, end-1)}, tried{1, 1, []int{end - 1}, []int{end - 1}})
	checkTree(t, "at the highest", small(0, end, 1, 2), spans{span(end, end)}, tried{2, 2, high, high})
	checkTree(t, "the least and the greatest", small(0, 0, -end, end), free(1), tried{-end, end, low, []int{0}})
	checkTree(t, "the least twice", small(0, 0, -end, -end), free(1), tried{-end, -end, low, low})
	checkTree(t, "the greatest twice", small(0, 0, end, end), free(1), tried{end, end, low, low})
	for feature := range 7 {
		l := with(with(slices.Repeat(spans{span(feature-9, feature-9)}, 8), feature, all()), feature+1, all())
		checkTree(t, "63 nodes", even(63), l, try(even(63), l))
	}
	checkTree(t, "as deep as may be", chain(10), free(1), tried{0, 100, low, []int{9}})
	for cell := range 9 {
		checkTree(t, "as deep as may be", chain(10), spans{span(cell, cell)}, tried{cell + 1, cell + 1, []int{cell}, []int{cell}})
		checkTree(t, "as deep as may be", chain(10), spans{span(-1, cell)}, tried{0, cell + 1, []int{-1}, []int{cell}})
		checkTree(t, "as deep as may be", chain(10), spans{spanNil(cell, 8)}, tried{cell + 1, 100, []int{cell}, []int{gone}})
	}
}

// TestNobodyComes: leaves to which no row comes, and no row within the spans, do not count.
func TestNobodyComes(t *testing.T) {
	// What is below 5 is not from 7 on, so nobody comes to 100.
	barred := nodes{ask(0, 5, 1, 2), ask(0, 7, 3, 4), leaf(9), leaf(1), leaf(100)}
	checkTree(t, "no row at all", barred, free(1), tried{1, 9, []int{-end}, []int{5}})
	checkTree(t, "no row at all, least", with(barred, 4, leaf(-100)), free(1), tried{1, 9, []int{-end}, []int{5}})
	// Nil does, where it goes to Left at first and to Right then.
	by := with(barred, 0, askLess(0, 5, 1, 2))
	checkTree(t, "by Nil alone", by, free(1), tried{1, 100, []int{-end}, []int{gone}})
	checkTree(t, "by Nil alone, within few", by, spans{spanNil(5, 6)}, tried{9, 100, []int{5}, []int{gone}})
	checkTree(t, "by Nil alone, and there is none", by, spans{span(-9, 9)}, tried{1, 9, []int{-9}, []int{5}})
	checkTree(t, "no row within", two(), spans{span(0, 4), all(), span(-9, -6)}, tried{10, 10, []int{0, -end, -9}, []int{0, -end, -9}})
	checkTree(t, "no row within", two(), spans{span(0, 4), all(), spanNil(-5, 3)}, tried{10, 20, []int{0, -end, gone}, []int{0, -end, -5}})
	checkTree(t, "no row within", two(), spans{span(5, 7), all(), all()}, tried{30, 30, []int{5, -end, -end}, []int{5, -end, -end}})
	checkTree(t, "no row within", two(), spans{onlyNil(), onlyNil(), onlyNil()}, tried{30, 30, []int{gone, gone, gone}, []int{gone, gone, gone}})
	checkTree(t, "no row within", two(), spans{spanNil(4, 4), onlyNil(), span(-5, -5)}, tried{20, 30, []int{4, gone, -5}, []int{gone, gone, -5}})
	// One feature says what another one's span is for.
	cross := nodes{ask(0, 0, 1, 2), ask(1, 0, 3, 4), ask(1, 0, 5, 6), leaf(-8), leaf(3), leaf(2), leaf(8)}
	checkTree(t, "two sides", cross, spans{span(-1, 0), span(0, 3)}, tried{3, 8, []int{-1, 0}, []int{0, 0}})
	checkTree(t, "two sides", cross, spans{span(-1, 0), span(-4, -2)}, tried{-8, 2, []int{-1, -4}, []int{0, -4}})
}

// TestFirstLeaf: of several leaves with the Value the first one's row is told, in the order in which they stand, if a row within the spans comes there.
func TestFirstLeaf(t *testing.T) {
	n := nodes{ask(0, 0, 2, 1), ask(0, 5, 4, 3), leaf(1), leaf(1), leaf(2)}
	checkTree(t, "Left ahead", n, free(1), tried{1, 2, []int{-end}, []int{0}})
	n = nodes{ask(0, 0, 2, 1), ask(0, 5, 3, 4), ask(0, -5, 6, 5), leaf(7), leaf(1), leaf(1), leaf(7)}
	checkTree(t, "the least of the right, the greatest too", n, free(1), tried{1, 7, []int{5}, []int{0}})
	checkTree(t, "one of them is not come to", n, spans{span(-9, 4)}, tried{1, 7, []int{-5}, []int{0}})
	checkTree(t, "the others are not come to", n, spans{span(-9, -3)}, tried{1, 7, []int{-5}, []int{-9}})
	checkTree(t, "only one of them is", n, spans{span(-9, -6)}, tried{7, 7, []int{-9}, []int{-9}})
	for _, value := range []int{-end, 0, end} {
		same := nodes{ask(0, 3, 2, 1), leaf(value), leaf(value)}
		checkTree(t, "of one Value", same, free(1), tried{value, value, []int{3}, []int{3}})
		checkTree(t, "of one Value, below", same, spans{span(-2, 2)}, tried{value, value, []int{-2}, []int{-2}})
		checkTree(t, "of one Value, at", same, spans{span(-2, 3)}, tried{value, value, []int{3}, []int{3}})
	}
}

// TestTreeAgainstTrying: many trees and spans, all rows within tried one by one.
func TestTreeAgainstTrying(t *testing.T) {
	var s noise = 9
	narrower, ties := 0, 0
	for range 4000 {
		features := s.below(4)
		n := s.good([]int{3, 8, 16}[s.below(3)], features)
		l := s.spans(features)
		want := try(n, l)
		checkTree(t, "many", n, l, want)
		if free := try(n, free(features)); free.low < want.low || free.high > want.high {
			narrower++
		}
		if slices.IndexFunc(n, func(q api.Node) bool { return q == leaf(want.low) }) != comesTo(n, want.least) {
			ties++
		}
		if t.Failed() {
			t.FailNow()
		}
	}
	if narrower < 500 || ties < 200 {
		t.Errorf("only %d times spans made less come, %d times the first leaf was none", narrower, ties)
	}
}

// TestTreeBoundsEval: of large trees with many features no row within the spans is beyond what Tree tells, and Rows' rows are at both ends.
func TestTreeBoundsEval(t *testing.T) {
	var s noise = 10
	for range 1500 {
		features := 4 + s.below(5)
		n := s.good(31, features)
		l := s.spans(features)
		low, high, err := limit.Tree(n, l)
		if err != nil || low > high {
			t.Fatalf("Tree of %v, %v = %d, %d, %v", n, l, low, high, err)
		}
		a, b, err := limit.Rows(n, l)
		if err != nil {
			t.Fatalf("Rows of %v, %v: %v", n, l, err)
		}
		checkRow(t, "least", n, l, a, low)
		checkRow(t, "most", n, l, b, high)
		for range 30 {
			r := s.rowWithin(n, l)
			if v, err := tree.Eval(n, r); v < low || v > high || err != nil {
				t.Fatalf("Eval of %v, %v = %d, %v, beyond %d, %d", n, r, v, err, low, high)
			}
		}
		if t.Failed() {
			t.FailNow()
		}
	}
}

// badSpans are wrong in a way that chapter 5 names, with what is told of them. There are three of each, but where they are too many.
type badSpans struct {
	name string
	l    spans
	want api.Errno
}

func wrongSpans() []badSpans {
	l := []badSpans{
		{"9 spans", free(9), api.ErrFull},
		{"9 spans, ends beyond", slices.Repeat(spans{span(least, great)}, 9), api.ErrFull},
		{"9 spans with nothing", slices.Repeat(spans{span(1, 0)}, 9), api.ErrFull},
		{"100000 spans", free(100000), api.ErrFull},
		{"nothing, then beyond", spans{all(), span(1, 0), span(0, end+1)}, api.ErrNone},
		{"beyond, then nothing", spans{all(), span(0, end+1), span(1, 0)}, api.ErrRange},
		{"all with nothing", slices.Repeat(spans{span(1, 0)}, 3), api.ErrNone},
		{"all beyond", slices.Repeat(spans{span(least, great)}, 3), api.ErrRange},
	}
	for _, c := range []struct {
		name string
		s    api.Span
		want api.Errno
	}{
		{"Low beyond, below 0", span(-end-1, 0), api.ErrRange},
		{"Low beyond, below 0, Nil", spanNil(-end-1, 0), api.ErrRange},
		{"Low beyond", spanNil(end+1, 0), api.ErrRange},
		{"Low beyond, and nothing", span(end+1, 0), api.ErrRange},
		{"High beyond", span(0, end+1), api.ErrRange},
		{"High beyond, Nil", spanNil(0, end+1), api.ErrRange},
		{"High beyond, below 0", spanNil(0, -end-1), api.ErrRange},
		{"High beyond, below 0, and nothing", span(0, -end-1), api.ErrRange},
		{"Low Nil", spanNil(gone, 0), api.ErrRange},
		{"both Nil", spanNil(gone, gone), api.ErrRange},
		{"as far as can be", span(least, great), api.ErrRange},
		{"as far as can be, turned", spanNil(great, least), api.ErrRange},
		{"nothing", span(1, 0), api.ErrNone},
		{"nothing, far apart", span(end, -end), api.ErrNone},
		{"nothing by the Cut", span(5, 4), api.ErrNone},
	} {
		for place := range 3 {
			l = append(l, badSpans{fmt.Sprint(c.name, " at ", place), with(free(3), place, c.s), c.want})
		}
	}
	return l
}

// fault of a tree, and what chapter 4 tells of it where features are three.
type fault struct {
	name string
	tree nodes
	want api.Errno
}

func faults() []fault {
	return []fault{
		{"64 nodes", append(even(63), leaf(1)), api.ErrFull},
		{"65 nodes", even(65), api.ErrFull},
		{"100000 nodes", make(nodes, 100000), api.ErrFull},
		{"no nodes", nil, api.ErrNone},
		{"an empty list of nodes", nodes{}, api.ErrNone},
		{"a Value beyond", says(end + 1), api.ErrRange},
		{"a Value beyond, below 0", says(-end - 1), api.ErrRange},
		{"a Value far beyond", says(least), api.ErrRange},
		{"a leaf with a Cut", nodes{{Feature: api.Leaf, Cut: 1}}, api.ErrShape},
		{"a leaf with a Left", nodes{{Feature: api.Leaf, Left: 1}}, api.ErrShape},
		{"a leaf with a Right", nodes{{Feature: api.Leaf, Right: 1}}, api.ErrShape},
		{"a leaf with Less", nodes{{Feature: api.Leaf, Less: true}}, api.ErrShape},
		{"a Feature below", small(-2, 0, 1, 2), api.ErrRange},
		{"a Feature beyond", small(3, 0, 1, 2), api.ErrRange},
		{"a Feature far beyond", small(great, 0, 1, 2), api.ErrRange},
		{"a Cut beyond", small(0, end+1, 1, 2), api.ErrRange},
		{"a Cut beyond, below 0", small(0, -end-1, 1, 2), api.ErrRange},
		{"a Cut that is not there", small(0, gone, 1, 2), api.ErrRange},
		{"a Left that is not behind", nodes{ask(0, 0, 0, 1), leaf(1)}, api.ErrRange},
		{"a Right that is not behind", nodes{ask(0, 0, 1, 0), leaf(1)}, api.ErrRange},
		{"a Left ahead", nodes{ask(0, 0, 1, 2), ask(0, 0, 0, 3), leaf(1), leaf(2)}, api.ErrRange},
		{"a Left beyond", nodes{ask(0, 0, 3, 1), leaf(1), leaf(2)}, api.ErrRange},
		{"a Left below", nodes{ask(0, 0, -1, 1), leaf(1), leaf(2)}, api.ErrRange},
		{"a Right far beyond", nodes{ask(0, 0, 1, great), leaf(1), leaf(2)}, api.ErrRange},
		{"one that asks with a Value", nodes{{Left: 1, Right: 2, Value: 1}, leaf(1), leaf(2)}, api.ErrShape},
		{"Left that is Right", nodes{ask(0, 0, 1, 1), leaf(1)}, api.ErrShape},
		{"a leaf that is nobody's", append(small(0, 0, 1, 2), leaf(3)), api.ErrClash},
		{"a leaf that is two's", nodes{ask(0, 0, 1, 2), ask(0, 0, 2, 3), leaf(1), leaf(2)}, api.ErrClash},
		{"too deep", chain(11), api.ErrFull},
		{"a Value beyond where nobody comes", small(0, -end, end+1, 1), api.ErrRange},
		{"a Feature beyond where nobody comes", nodes{ask(0, -end, 1, 2), ask(3, 0, 3, 4), leaf(1), leaf(2), leaf(3)}, api.ErrRange},
		{"a leaf with Less where nobody comes", nodes{ask(0, -end, 1, 2), {Feature: api.Leaf, Less: true}, leaf(1)}, api.ErrShape},
	}
}

// someSpans gives three spans that are right, of several kinds.
func someSpans() []spans {
	return []spans{free(3), slices.Repeat(spans{span(0, 0)}, 3), slices.Repeat(spans{onlyNil()}, 3), {span(-4, 4), onlyNil(), spanNil(3, -3)}}
}

// TestWrong: spans that are wrong, trees that are wrong, and both: what is wrong with the spans is told first.
func TestWrong(t *testing.T) {
	for _, b := range wrongSpans() {
		for _, n := range []nodes{says(1), small(0, 5, 1, 2), two(), small(2, 5, 1, 1)} {
			checkNoTree(t, b.name, n, b.l, b.want)
		}
		for _, f := range faults() {
			checkNoTree(t, b.name+"; "+f.name, f.tree, b.l, b.want)
		}
	}
	for _, f := range faults() {
		for _, l := range someSpans() {
			checkNoTree(t, f.name, f.tree, l, f.want)
		}
	}
	// The features are as many as the spans.
	for asked := range 8 {
		for count := range 9 {
			n, l := small(asked, 0, 1, 2), free(count)
			if asked >= count {
				checkNoTree(t, fmt.Sprint("feature ", asked, " of ", count), n, l, api.ErrRange)
				continue
			}
			checkTree(t, fmt.Sprint("feature ", asked, " of ", count), n, l,
				tried{1, 2, slices.Repeat([]int{-end}, count), with(slices.Repeat([]int{-end}, count), asked, 0)})
		}
	}
	checkNoTree(t, "nothing at all", nil, nil, api.ErrNone)
	checkTree(t, "no spans", says(3), nil, tried{low: 3, high: 3})
	checkTree(t, "an empty list of spans", says(3), spans{}, tried{low: 3, high: 3})
}

// TestEachLeaf: the leaves to which rows within spans come, rising, each with its Value and the Witness of those rows; nothing is done where something is wrong.
func TestEachLeaf(t *testing.T) {
	type visit struct {
		value int
		row   []int
	}
	visits := func(n nodes, l spans) (seen []visit, err error) {
		err = limit.EachLeaf(n, l, func(value int, row []int) { seen = append(seen, visit{value, row}) })
		return seen, err
	}
	same := func(a, b visit) bool { return a.value == b.value && slices.Equal(a.row, b.row) }
	for _, c := range []struct {
		l    spans
		want []visit
	}{
		{free(3), []visit{{10, []int{-end, -end, -end}}, {20, []int{-end, -end, -5}}, {30, []int{5, -end, -end}}}},
		{spans{span(0, 4), onlyNil(), span(-5, 9)}, []visit{{20, []int{0, gone, -5}}}},
		{spans{onlyNil(), all(), all()}, []visit{{30, []int{gone, -end, -end}}}},
		{spans{spanNil(4, 4), span(3, 3), onlyNil()}, []visit{{10, []int{4, 3, gone}}, {30, []int{gone, 3, gone}}}},
	} {
		got, err := visits(two(), c.l)
		if !slices.EqualFunc(got, c.want, same) || err != nil {
			t.Errorf("EachLeaf within %v: %v, %v, want %v", c.l, got, err, c.want)
			continue
		}
		for i := range got[1:] {
			scribble(got[i].row, 77)
			if !same(got[i+1], c.want[i+1]) {
				t.Errorf("EachLeaf within %v: row %d shares memory with the one ahead", c.l, i+1)
			}
		}
	}
	for _, b := range wrongSpans() {
		if got, err := visits(two(), b.l); got != nil || told(err) != b.want {
			t.Errorf("%s: EachLeaf: %v, %v, want %v", b.name, got, err, b.want)
		}
	}
	for _, f := range faults() {
		if got, err := visits(f.tree, free(3)); got != nil || told(err) != f.want {
			t.Errorf("%s: EachLeaf: %v, %v, want %v", f.name, got, err, f.want)
		}
	}
}

// flaw is something that is wrong with a grove.
type flaw struct {
	name   string
	change func(g *api.Grove)
	want   api.Errno
}

func flaws() []flaw {
	l := []flaw{
		{"Features -1", func(g *api.Grove) { g.Features = -1 }, api.ErrRange},
		{"Features 9", func(g *api.Grove) { g.Features = 9 }, api.ErrRange},
		{"Features far beyond", func(g *api.Grove) { g.Features = great }, api.ErrRange},
		{"Features far below", func(g *api.Grove) { g.Features = least }, api.ErrRange},
		{"Features too few for what is asked", func(g *api.Grove) { g.Features = 2 }, api.ErrRange},
		{"Way 0", func(g *api.Grove) { g.Way = 0 }, api.ErrRange},
		{"Way 4", func(g *api.Grove) { g.Way = 4 }, api.ErrRange},
		{"Way far below", func(g *api.Grove) { g.Way = least }, api.ErrRange},
		{"no trees", func(g *api.Grove) { g.Trees = nil }, api.ErrNone},
		{"no trees and no Weights", func(g *api.Grove) { g.Trees, g.Weights = nil, nil }, api.ErrNone},
		{"13 trees", func(g *api.Grove) { g.Trees, g.Weights = slices.Repeat([]nodes{says(1)}, 13), ones(13) }, api.ErrFull},
		{"100000 trees", func(g *api.Grove) { g.Trees, g.Weights = make([]nodes, 100000), nil }, api.ErrFull},
		{"no Weights", func(g *api.Grove) { g.Weights = nil }, api.ErrShape},
		{"a Weight too few", func(g *api.Grove) { g.Weights = g.Weights[1:] }, api.ErrShape},
		{"a Weight too many", func(g *api.Grove) { g.Weights = append(g.Weights, 1) }, api.ErrShape},
		{"the first Weight 0", func(g *api.Grove) { g.Weights[0] = 0 }, api.ErrRange},
		{"a Weight below 0", func(g *api.Grove) { g.Weights[1] = least }, api.ErrRange},
		{"the last Weight 1001", func(g *api.Grove) { g.Weights[len(g.Weights)-1] = 1001 }, api.ErrRange},
	}
	for _, f := range faults() {
		for place := range 3 {
			l = append(l, flaw{fmt.Sprint(f.name, " at ", place), func(g *api.Grove) { g.Trees[place] = f.tree }, f.want})
		}
	}
	return l
}

// checkGrove holds Grove to what is to come.
func checkGrove(t *testing.T, name string, g api.Grove, l spans, low, high int) {
	t.Helper()
	if a, b, err := limit.Grove(g, l); a != low || b != high || err != nil {
		t.Errorf("%s: Grove of %v, %v = %d, %d, %v, want %d, %d", name, g, l, a, b, err, low, high)
	}
}

// checkNoGrove holds Grove to an error, and with it to nothing else.
func checkNoGrove(t *testing.T, name string, g api.Grove, l spans, want api.Errno) {
	t.Helper()
	if a, b, err := limit.Grove(g, l); a != 0 || b != 0 || told(err) != want {
		t.Errorf("%s: Grove = %d, %d, %v, want %v", name, a, b, err, want)
	}
}

// TestGroveOfWrong: what is wrong with the grove is told first, then that there are not Features spans, then what is wrong with these.
func TestGroveOfWrong(t *testing.T) {
	for _, way := range ways() {
		for _, f := range flaws() {
			g := changed(three(way), f.change)
			if err := grove.Check(g); told(err) != f.want {
				t.Errorf("%s: Check = %v, want %v", f.name, err, f.want)
			}
			for _, count := range []int{0, 2, 3, 4, 8, 9, 13} {
				checkNoGrove(t, fmt.Sprint(f.name, ", spans: ", count), g, free(count), f.want)
				checkNoGrove(t, fmt.Sprint(f.name, ", spans with nothing: ", count), g, slices.Repeat(spans{span(1, 0)}, count), f.want)
			}
			for _, b := range wrongSpans() {
				checkNoGrove(t, f.name+"; "+b.name, g, b.l, f.want)
			}
		}
		for _, count := range []int{0, 1, 2, 4, 5, 8, 9, 10, 100000} {
			for _, s := range []api.Span{all(), span(1, 0), span(least, great)} {
				checkNoGrove(t, fmt.Sprint("spans: ", count), three(way), slices.Repeat(spans{s}, count), api.ErrShape)
			}
		}
		for _, b := range wrongSpans() {
			want := b.want
			if len(b.l) != 3 {
				want = api.ErrShape
			}
			checkNoGrove(t, b.name, three(way), b.l, want)
			if len(b.l) == 3 {
				checkNoGrove(t, b.name+", trees that ask for nothing", wood(3, way, ones(2), says(1), says(2)), b.l, want)
			}
		}
		for features := range 9 {
			for count := range 11 {
				g := wood(features, way, ones(1), says(4))
				if features != count {
					checkNoGrove(t, fmt.Sprint("spans: ", count, " of ", features), g, free(count), api.ErrShape)
				} else {
					checkGrove(t, "as many", g, free(count), 4, 4)
				}
			}
		}
	}
	checkNoGrove(t, "the empty grove", api.Grove{}, nil, api.ErrRange)
}

// TestGroveOfWrongTwice: where two things are wrong with a grove, the one that Check tells is told.
func TestGroveOfWrongTwice(t *testing.T) {
	for _, a := range flaws() {
		g := changed(three(api.Mean), a.change)
		// Others may need trees and Weights to change.
		if len(g.Trees) < 3 || len(g.Trees) > 100 || len(g.Weights) < 2 {
			continue
		}
		for _, b := range flaws() {
			both := changed(g, b.change)
			// Two may mend each other.
			if err := grove.Check(both); err != nil {
				checkNoGrove(t, a.name+"; "+b.name, both, slices.Repeat(spans{span(1, 0)}, 2), told(err))
			}
		}
	}
}

// TestGrove: what comes of each tree's least and greatest, by each Way.
func TestGrove(t *testing.T) {
	rising, falling := small(0, 5, 1, 4), small(0, 5, 3, 2)
	for _, c := range []struct {
		name            string
		l               spans
		sum, mean, vote [2]int
	}{
		// 5 times 1 to 4, and 3 times 2 to 3.
		{"all", free(1), [2]int{11, 29}, [2]int{1, 3}, [2]int{1, 4}},
		{"below", spans{span(-3, 4)}, [2]int{14, 14}, [2]int{1, 1}, [2]int{1, 3}},
		{"at", spans{span(5, 5)}, [2]int{26, 26}, [2]int{3, 3}, [2]int{2, 4}},
		{"Nil", spans{onlyNil()}, [2]int{26, 26}, [2]int{3, 3}, [2]int{2, 4}},
		{"below and at", spans{span(4, 5)}, [2]int{11, 29}, [2]int{1, 3}, [2]int{1, 4}},
		{"below and Nil", spans{spanNil(4, 4)}, [2]int{11, 29}, [2]int{1, 3}, [2]int{1, 4}},
	} {
		checkGrove(t, c.name, wood(1, api.Sum, []int{5, 3}, rising, falling), c.l, c.sum[0], c.sum[1])
		checkGrove(t, c.name, wood(1, api.Mean, []int{5, 3}, rising, falling), c.l, c.mean[0], c.mean[1])
		checkGrove(t, c.name, wood(1, api.Vote, []int{5, 3}, rising, falling), c.l, c.vote[0], c.vote[1])
		// A vote is bounded by all trees, however little their Weight.
		checkGrove(t, c.name, wood(1, api.Vote, []int{1000, 1}, rising, falling), c.l, c.vote[0], c.vote[1])
		checkGrove(t, c.name, wood(1, api.Vote, []int{1, 1, 1000}, rising, falling, falling), c.l, c.vote[0], c.vote[1])
	}
	checkGrove(t, "three", three(api.Sum), free(3), 2*-7+3*10+4*6, 2*9+3*30+4*6)
	checkGrove(t, "three", three(api.Mean), free(3), 4, 14) // 40 and 132, over 9
	checkGrove(t, "three", three(api.Vote), free(3), -7, 30)
	l := spans{span(5, 9), spanNil(-4, -1), span(-5, 0)}
	checkGrove(t, "three, within few", three(api.Sum), l, 2*9+3*20+4*6, 2*9+3*30+4*6)
	checkGrove(t, "three, within few", three(api.Mean), l, 11, 14) // 102 and 132, over 9
	checkGrove(t, "three, within few", three(api.Vote), l, 6, 30)
}

// TestGroveRounds: Mean is rounded down, below 0 too.
func TestGroveRounds(t *testing.T) {
	for _, c := range []struct{ low, high, a, b int }{
		{-1, 1, -1, 0}, {-2, 2, -1, 0}, {-3, 3, -1, 1}, {-4, 4, -2, 1}, {-5, 5, -2, 1}, {-6, 6, -2, 2}, {0, 0, 0, 0}, {-7, -1, -3, -1}, {1, 7, 0, 2},
	} {
		g := wood(1, api.Mean, []int{1, 2}, small(0, 0, c.low, c.high), says(0))
		checkGrove(t, "over 3", g, free(1), c.a, c.b)
		checkGrove(t, "over 3, falling", changed(g, func(g *api.Grove) { g.Trees[0] = small(0, 0, c.high, c.low) }), free(1), c.a, c.b)
	}
}

// TestGroveAtTheEnds: as much as trees can say, with as much Weight as they can have.
func TestGroveAtTheEnds(t *testing.T) {
	heavy := slices.Repeat([]int{api.MaxWeight}, api.MaxTrees)
	wide := slices.Repeat([]nodes{small(0, 0, -end, end)}, api.MaxTrees)
	const most = api.MaxTrees * api.MaxWeight * end
	checkGrove(t, "both ends", wood(1, api.Sum, heavy, wide...), free(1), -most, most)
	checkGrove(t, "the low end", wood(1, api.Sum, heavy, wide...), spans{span(-end, -1)}, -most, -most)
	checkGrove(t, "the high end", wood(1, api.Sum, heavy, wide...), spans{span(0, end)}, most, most)
	checkGrove(t, "both ends", wood(1, api.Mean, heavy, wide...), free(1), -end, end)
	checkGrove(t, "both ends", wood(1, api.Vote, heavy, wide...), free(1), -end, end)
	near := with(wide, 11, small(0, 0, -end+1, end-1))
	checkGrove(t, "near both ends", wood(1, api.Mean, heavy, near...), free(1), -end, end-1)
	checkGrove(t, "near both ends", wood(1, api.Sum, heavy, near...), free(1), -most+1000, most-1000)
}

// grove that is right, of trees that are not large.
func (s *noise) grove(features int) api.Grove {
	g := wood(features, 1+s.below(3), nil)
	for range 1 + s.below(12) {
		g.Trees = append(g.Trees, s.good(8, features))
		g.Weights = append(g.Weights, []int{1, 1, 2, 3, 999, 1000}[s.below(6)])
	}
	return g
}

// downTo is a over b, rounded down.
func downTo(a, b int) int { return int(math.Floor(float64(a) / float64(b))) }

// plainGrove reckons by the chapter's words.
func plainGrove(g api.Grove, l spans) (low, high int) {
	weights := 0
	least, most := great, least
	for i, n := range g.Trees {
		of := try(n, l)
		low += of.low * g.Weights[i]
		high += of.high * g.Weights[i]
		weights += g.Weights[i]
		least, most = min(least, of.low), max(most, of.high)
	}
	switch g.Way {
	case api.Mean:
		return downTo(low, weights), downTo(high, weights)
	case api.Vote:
		return least, most
	}
	return low, high
}

// TestGroveAgainstPlain: many groves and spans; and no row within the spans is beyond what is told.
func TestGroveAgainstPlain(t *testing.T) {
	var s noise = 11
	seen := map[int]int{}
	for range 600 {
		features := s.below(4)
		g, l := s.grove(features), s.spans(features)
		low, high := plainGrove(g, l)
		checkGrove(t, "many", g, l, low, high)
		rows := slices.Concat(g.Trees...)
		for range 40 {
			r := s.rowWithin(rows, l)
			if v, err := grove.Eval(g, r); v < low || v > high || err != nil {
				t.Fatalf("Eval of %v, %v = %d, %v, beyond %d, %d", g, r, v, err, low, high)
			}
		}
		if a, b, err := grove.Bounds(g); err != nil || low < a || high > b {
			t.Fatalf("Bounds of %v = %d, %d, %v, within %d, %d", g, a, b, err, low, high)
		}
		seen[g.Way]++
		if t.Failed() {
			t.FailNow()
		}
	}
	if seen[api.Sum] < 100 || seen[api.Mean] < 100 || seen[api.Vote] < 100 {
		t.Errorf("ways: %v", seen)
	}
}

// checkSteps holds Steps to Cuts and values.
func checkSteps(t *testing.T, name string, n nodes, r []int, feature int, cuts, values []int) {
	t.Helper()
	k, v, err := limit.Steps(n, r, feature)
	if !slices.Equal(k, cuts) || !slices.Equal(v, values) || err != nil {
		t.Errorf("%s: Steps of %v, %v, %d = %v, %v, %v, want %v, %v", name, n, r, feature, k, v, err, cuts, values)
	}
}

// checkNoSteps holds Steps to an error, and with it to nothing else.
func checkNoSteps(t *testing.T, name string, n nodes, r []int, feature int, want api.Errno) {
	t.Helper()
	if k, v, err := limit.Steps(n, r, feature); k != nil || v != nil || told(err) != want {
		t.Errorf("%s: Steps = %v, %v, %v, want %v", name, k, v, err, want)
	}
}

func TestSteps(t *testing.T) {
	for _, cell := range []int{-end, 4, 5, 6, end, gone} {
		checkSteps(t, "one question", small(0, 5, 1, 2), []int{cell}, 0, []int{5}, []int{1, 2})
		checkSteps(t, "one question, Less", smallLess(0, 5, 1, 2), []int{cell}, 0, []int{5}, []int{1, 2})
		checkSteps(t, "two of one feature", nodes{ask(0, 5, 2, 1), leaf(9), ask(0, 2, 3, 4), leaf(7), leaf(8)}, []int{cell}, 0, []int{2, 5}, []int{7, 8, 9})
		checkSteps(t, "a chain", chain(10), []int{cell}, 0, []int{0, 1, 2, 3, 4, 5, 6, 7, 8, 9}, []int{0, 1, 2, 3, 4, 5, 6, 7, 8, 9, 100})
		checkSteps(t, "the second of two", two(), []int{4, 0, cell}, 2, []int{-5}, []int{10, 20})
	}
	// To Right of the first one nobody is asked for the third cell, but the Cut stands there.
	checkSteps(t, "where the row does not come", two(), []int{5, 0, 0}, 2, []int{-5}, []int{30, 30})
	checkSteps(t, "where the row does not come", two(), []int{gone, 0, 0}, 2, []int{-5}, []int{30, 30})
	checkSteps(t, "where the cell that is not there goes", two(), []int{0, 0, gone}, 0, []int{5}, []int{10, 30})
	checkSteps(t, "where the cell goes", two(), []int{0, 0, -5}, 0, []int{5}, []int{20, 30})
	checkSteps(t, "where the cell goes", two(), []int{0, 0, -6}, 0, []int{5}, []int{10, 30})
	checkSteps(t, "nobody asks", two(), []int{0, 0, -6}, 1, nil, []int{10})
	checkSteps(t, "nobody asks", two(), []int{7, 0, -6}, 1, nil, []int{30})
	checkSteps(t, "nobody asks, and the cell is not there", two(), []int{0, gone, gone}, 1, nil, []int{10})
	for count := 1; count < 9; count++ {
		for feature := range count {
			checkSteps(t, "one leaf", says(-3), make([]int, count), feature, nil, []int{-3})
			checkSteps(t, "one leaf", says(end), slices.Repeat([]int{gone}, count), feature, nil, []int{end})
			checkSteps(t, "the one that is asked for", small(feature, 5, 1, 2), slices.Repeat([]int{7}, count), feature, []int{5}, []int{1, 2})
		}
	}
	again := nodes{ask(1, 3, 1, 2), ask(0, 3, 3, 4), ask(0, 3, 5, 6), leaf(1), leaf(2), ask(0, -3, 7, 8), leaf(3), leaf(4), leaf(5)}
	checkSteps(t, "Cuts that stand several times", again, []int{0, 0}, 0, []int{-3, 3}, []int{1, 1, 2})
	checkSteps(t, "Cuts that stand several times", again, []int{0, 3}, 0, []int{-3, 3}, []int{4, 5, 3})
	checkSteps(t, "Cuts that stand several times", again, []int{0, gone}, 0, []int{-3, 3}, []int{4, 5, 3})
	checkSteps(t, "another feature's Cut", again, []int{-4, gone}, 1, []int{3}, []int{1, 4})
	checkSteps(t, "a value that comes again", nodes{ask(0, 0, 1, 2), leaf(4), ask(0, 1, 3, 4), leaf(5), leaf(4)}, []int{9}, 0, []int{0, 1}, []int{4, 5, 4})
	// What is below 5 is not from 7 on.
	barred := nodes{ask(0, 5, 1, 2), ask(0, 7, 3, 4), leaf(9), leaf(1), leaf(100)}
	checkSteps(t, "a Cut that nothing passes", barred, []int{gone}, 0, []int{5, 7}, []int{1, 9, 9})
}

// TestStepsAtTheEnds: a number below the lowest Cut goes to Left, though no cell is as low; what is not there does not stand for it.
func TestStepsAtTheEnds(t *testing.T) {
	for _, cell := range []int{-end, 0, end, gone} {
		checkSteps(t, "the lowest", small(0, -end, 1, 2), []int{cell}, 0, []int{-end}, []int{1, 2})
		checkSteps(t, "the lowest, Less", smallLess(0, -end, 1, 2), []int{cell}, 0, []int{-end}, []int{1, 2})
		checkSteps(t, "the highest", small(0, end, 1, 2), []int{cell}, 0, []int{end}, []int{1, 2})
		both := nodes{ask(0, end, 1, 2), ask(0, -end, 3, 4), leaf(-end), leaf(0), leaf(end)}
		checkSteps(t, "both ends", both, []int{cell}, 0, []int{-end, end}, []int{0, end, -end})
		checkSteps(t, "both ends beside another", both, []int{cell, gone}, 0, []int{-end, end}, []int{0, end, -end})
	}
	near := small(0, -end+1, 1, 2)
	checkSteps(t, "one from the lowest", near, []int{gone}, 0, []int{-end + 1}, []int{1, 2})
}

// TestNoSteps: what Eval tells comes first, then that there is no such cell.
func TestNoSteps(t *testing.T) {
	beyond := []int{least, -2, -1, 3, 4, 8, 9, 63, great}
	for _, feature := range beyond {
		checkNoSteps(t, "no such cell", two(), []int{0, 0, 0}, feature, api.ErrRange)
		checkNoSteps(t, "no such cell", says(1), []int{0, gone, 0}, feature, api.ErrRange)
	}
	for _, feature := range []int{least, -1, 0, 1, great} {
		checkNoSteps(t, "no cells", says(1), nil, feature, api.ErrRange)
		checkNoSteps(t, "no cells", says(1), []int{}, feature, api.ErrRange)
	}
	for count := range 9 {
		checkNoSteps(t, "one too many", says(1), make([]int, count), count, api.ErrRange)
		checkNoSteps(t, "below", says(1), make([]int, count), -1, api.ErrRange)
	}
	for _, feature := range append(beyond, 0, 1, 2) {
		for _, f := range faults() {
			checkNoSteps(t, f.name, f.tree, []int{0, 0, 0}, feature, f.want)
		}
		for _, c := range []struct {
			name string
			r    []int
			want api.Errno
		}{
			{"9 cells", make([]int, 9), api.ErrFull},
			{"9 cells, one beyond", with(make([]int, 9), 3, great), api.ErrFull},
			{"a cell beyond", []int{0, end + 1, 0}, api.ErrRange},
			{"a cell beyond, below 0", []int{-end - 1, 0, 0}, api.ErrRange},
			{"by Nil", []int{0, 0, gone + 1}, api.ErrRange},
		} {
			checkNoSteps(t, c.name, two(), c.r, feature, c.want)
			for _, f := range faults() {
				checkNoSteps(t, c.name+"; "+f.name, f.tree, c.r, feature, c.want)
			}
		}
		checkNoSteps(t, "too few cells for what is asked", two(), []int{0, 0}, feature, api.ErrRange)
	}
}

// plainSteps tells the Cuts and what comes, each looked for by itself.
func plainSteps(n nodes, r []int, feature int) (cuts, values []int) {
	r = with(r, feature, -end-1)
	values = []int{n[comesTo(n, r)].Value}
	for {
		next := great
		for _, q := range n {
			if q.Feature == feature && q.Cut < next && (len(cuts) == 0 || q.Cut > cuts[len(cuts)-1]) {
				next = q.Cut
			}
		}
		if next == great {
			return cuts, values
		}
		cuts = append(cuts, next)
		values = append(values, n[comesTo(n, with(r, feature, next))].Value)
	}
}

// TestStepsAgainstPlain: many trees; and Eval of the row with any number there is what Steps tells for it.
func TestStepsAgainstPlain(t *testing.T) {
	var s noise = 12
	for range 3000 {
		features := 1 + s.below(8)
		n := s.good(31, features)
		r := s.rowWithin(n, free(features))
		feature := s.below(features)
		cuts, values := plainSteps(n, r, feature)
		checkSteps(t, "many", n, r, feature, cuts, values)
		k, v, err := limit.Steps(n, r, feature)
		if err != nil || len(v) != len(k)+1 {
			t.Fatalf("Steps of %v, %v, %d = %v, %v, %v", n, r, feature, k, v, err)
		}
		for _, cell := range cells(n, feature, span(-end, end)) {
			passed := 0
			for passed < len(k) && k[passed] <= cell {
				passed++
			}
			if got, err := tree.Eval(n, with(r, feature, cell)); got != v[passed] || err != nil {
				t.Fatalf("Eval of %v, %v with %d at %d = %d, %v, want %d", n, r, cell, feature, got, err, v[passed])
			}
		}
		if t.Failed() {
			t.FailNow()
		}
	}
}

// guarded gives a list with memory behind its length, and all of that memory.
func guarded[T any](l []T, behind T) (list, all []T) {
	all = append(slices.Clone(l), slices.Repeat([]T{behind}, 8)...)
	return all[:len(l)], all
}

// manySpans gives spans that are right and spans that are not.
func manySpans() []spans {
	l := append(someSpans(), nil, free(8))
	for _, b := range wrongSpans() {
		l = append(l, b.l)
	}
	return l
}

// manyTrees gives trees that are right and trees that are not.
func manyTrees() []nodes {
	l := []nodes{says(1), small(0, 5, 1, 2), smallLess(2, 5, 2, 2), two(), even(63), chain(10)}
	for _, f := range faults() {
		if len(f.tree) < 1000 {
			l = append(l, f.tree)
		}
	}
	return l
}

// TestTreeListsStay: what is handed in, and what stands behind it, is as it was, and what stands behind it is not read.
func TestTreeListsStay(t *testing.T) {
	for _, n := range manyTrees() {
		for _, l := range manySpans() {
			if len(l) > 1000 {
				continue
			}
			tree, allNodes := guarded(n, leaf(great))
			list, allSpans := guarded(l, span(great, least))
			wasNodes, wasSpans := slices.Clone(allNodes), slices.Clone(allSpans)
			low, high, err := limit.Tree(tree, list)
			a, b, bad := limit.Rows(tree, list)
			if !slices.Equal(allNodes, wasNodes) || !slices.Equal(allSpans, wasSpans) {
				t.Fatalf("%v, %v were written into", n, l)
			}
			x, y, wrong := limit.Tree(n, l)
			c, d, ill := limit.Rows(n, l)
			if low != x || high != y || told(err) != told(wrong) || !slices.Equal(a, c) || !slices.Equal(b, d) || told(bad) != told(ill) {
				t.Fatalf("%v, %v with memory behind: %d, %d, %v, %v, %v, %v", n, l, low, high, err, a, b, bad)
			}
		}
	}
}

// TestGroveListsStay: the same of Grove.
func TestGroveListsStay(t *testing.T) {
	for _, way := range ways() {
		groves := []api.Grove{three(way), {}}
		for _, f := range flaws() {
			groves = append(groves, changed(three(way), f.change))
		}
		for _, c := range groves {
			if len(c.Trees) > 1000 {
				continue
			}
			for _, l := range append(someSpans(), free(2), with(free(3), 1, span(1, 0))) {
				g := copied(c)
				weights, allWeights := guarded(c.Weights, least)
				trees, allTrees := guarded(g.Trees, says(great))
				list, allSpans := guarded(l, span(great, least))
				wasWeights, wasSpans := slices.Clone(allWeights), slices.Clone(allSpans)
				wasTrees := copied(api.Grove{Trees: allTrees}).Trees
				g.Trees, g.Weights = trees, weights
				low, high, err := limit.Grove(g, list)
				if !slices.Equal(allWeights, wasWeights) || !slices.Equal(allSpans, wasSpans) || !slices.EqualFunc(allTrees, wasTrees, slices.Equal[nodes]) {
					t.Fatalf("%v, %v were written into", c, l)
				}
				if x, y, wrong := limit.Grove(c, l); low != x || high != y || told(err) != told(wrong) {
					t.Fatalf("%v, %v with memory behind: %d, %d, %v, want %d, %d, %v", c, l, low, high, err, x, y, wrong)
				}
			}
		}
	}
}

// TestStepsListsStay: the same of Steps.
func TestStepsListsStay(t *testing.T) {
	for _, n := range manyTrees() {
		for _, r := range [][]int{nil, {0, 0, 0}, {4, gone, -6}, make([]int, 8), make([]int, 9), {0, great, 0}} {
			for feature := -1; feature < 10; feature++ {
				tree, allNodes := guarded(n, leaf(great))
				list, allCells := guarded(r, 1)
				wasNodes, wasCells := slices.Clone(allNodes), slices.Clone(allCells)
				k, v, err := limit.Steps(tree, list, feature)
				if !slices.Equal(allNodes, wasNodes) || !slices.Equal(allCells, wasCells) {
					t.Fatalf("%v, %v were written into", n, r)
				}
				if a, b, wrong := limit.Steps(n, r, feature); !slices.Equal(k, a) || !slices.Equal(v, b) || told(err) != told(wrong) {
					t.Fatalf("%v, %v, %d with memory behind: %v, %v, %v, want %v, %v, %v", n, r, feature, k, v, err, a, b, wrong)
				}
			}
		}
	}
}

// scribble writes into all the memory of a list, also behind its length.
func scribble[T any](l []T, x T) {
	for i := range l[:cap(l)] {
		l[:cap(l)][i] = x
	}
}

// TestFresh: changing what came changes nothing of what was handed in, nor of what came beside it, nor of what comes next, nor the other way round.
func TestFresh(t *testing.T) {
	for _, c := range manyTrees() {
		for _, l := range []spans{free(8), slices.Repeat(spans{span(3, 3)}, 8), slices.Repeat(spans{onlyNil()}, 8)} {
			n, list := slices.Clone(c), slices.Clone(l)
			a, b, err := limit.Rows(n, list)
			if err != nil {
				continue
			}
			wantA, wantB := slices.Clone(a), slices.Clone(b)
			scribble(a, 77)
			if !slices.Equal(b, wantB) {
				t.Fatalf("Rows of %v, %v: the second is %v, as the first was written into", c, l, b)
			}
			a, b, _ = limit.Rows(n, list)
			scribble(b, 77)
			if !slices.Equal(a, wantA) || !slices.Equal(n, c) || !slices.Equal(list, l) {
				t.Fatalf("Rows of %v, %v: the first is %v, as the second was written into", n, list, a)
			}
			a, b, _ = limit.Rows(n, list)
			scribble(n, leaf(78))
			scribble(list, span(78, 78))
			if !slices.Equal(a, wantA) || !slices.Equal(b, wantB) {
				t.Fatalf("Rows of %v, %v are %v, %v, as these were written into", c, l, a, b)
			}
		}
	}
}

// TestStepsAreFresh: the same of Steps.
func TestStepsAreFresh(t *testing.T) {
	for _, c := range manyTrees() {
		for feature := range 8 {
			r := []int{0, gone, 3, 4, -5, 6, 7, 8}
			n, list := slices.Clone(c), slices.Clone(r)
			k, v, err := limit.Steps(n, list, feature)
			if err != nil {
				continue
			}
			wantK, wantV := slices.Clone(k), slices.Clone(v)
			scribble(k, 77)
			if !slices.Equal(v, wantV) {
				t.Fatalf("Steps of %v: the values are %v, as the Cuts were written into", c, v)
			}
			k, v, _ = limit.Steps(n, list, feature)
			scribble(v, 77)
			if !slices.Equal(k, wantK) || !slices.Equal(n, c) || !slices.Equal(list, r) {
				t.Fatalf("Steps of %v, %v: the Cuts are %v, as the values were written into", n, list, k)
			}
			k, v, _ = limit.Steps(n, list, feature)
			scribble(n, leaf(78))
			scribble(list, 78)
			if !slices.Equal(k, wantK) || !slices.Equal(v, wantV) {
				t.Fatalf("Steps of %v, %v are %v, %v, as these were written into", c, r, k, v)
			}
		}
	}
}
