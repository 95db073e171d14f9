package path_test

import (
	"errors"
	"fmt"
	"math"
	"slices"
	"strings"
	"testing"

	"orchardry/api"
	"orchardry/path"
	"orchardry/row"
	"orchardry/tree"
)

const (
	end   = api.MaxCell
	gone  = api.Nil
	least = math.MinInt
	great = math.MaxInt
)

// none stands for an error that is nil.
const none = api.OK

// told gives what an error tells; -1, if it is none of the program's, or OK, which no error may be.
func told(err error) api.Errno {
	var e api.Errno
	switch {
	case err == nil:
		return none
	case errors.As(err, &e) && e != api.OK:
		return e
	}
	return -1
}

// nodes of a tree.
type nodes = []api.Node

// spans of a row.
type spans = []api.Span

// leaf that says a value.
func leaf(value int) api.Node { return api.Node{Feature: api.Leaf, Value: value} }

// ask whether a feature is below a cut; what is not there goes to Right.
func ask(feature, cut, left, right int) api.Node {
	return api.Node{Feature: feature, Cut: cut, Left: left, Right: right}
}

// askLess is ask, but what is not there goes to Left.
func askLess(feature, cut, left, right int) api.Node {
	n := ask(feature, cut, left, right)
	n.Less = true
	return n
}

// span of numbers alone.
func span(low, high int) api.Span { return api.Span{Low: low, High: high} }

// spanNil is span, with Nil.
func spanNil(low, high int) api.Span { return api.Span{Low: low, High: high, Nil: true} }

// all that a cell may be.
func all() api.Span { return spanNil(-end, end) }

// with another thing at a place.
func with[T any](l []T, place int, x T) []T {
	l = slices.Clone(l)
	l[place] = x
	return l
}

// small has one question.
func small() nodes { return nodes{ask(0, 5, 1, 2), leaf(-7), leaf(9)} }

// two has two questions, the second one below Left of the first.
func two() nodes {
	return nodes{ask(0, 5, 1, 4), askLess(2, -5, 2, 3), leaf(10), leaf(20), leaf(30)}
}

// even has below place i those at 2i+1 and 2i+2.
func even(count int) nodes {
	t := make(nodes, count)
	for i := range t {
		if 2*i+2 < count {
			t[i] = ask(i%8, i-20, 2*i+1, 2*i+2)
		} else {
			t[i] = leaf(i)
		}
	}
	return t
}

// chain lays questions one below the other, each at Left of the one above where left says so, else at Right; its last leaf is the last node, those that turn off stand at 1, 3, 5 and so on. Where they go to is set by it.
func chain(questions nodes, left func(level int) bool) nodes {
	var t nodes
	for level, q := range questions {
		here := len(t)
		q.Left, q.Right = here+1, here+2
		if left(level) {
			q.Left, q.Right = here+2, here+1
		}
		t = append(t, q, leaf(level))
	}
	return append(t, leaf(100))
}

func byLeft(int) bool         { return true }
func byRight(int) bool        { return false }
func toAndFro(level int) bool { return level%2 == 0 }
func froAndTo(level int) bool { return level%2 != 0 }

// noise: numbers that look as if they had no order, the same ones each time.
type noise uint64

func (s *noise) below(n int) int {
	*s = *s*6364136223846793005 + 1442695040888963407
	return int(uint64(*s) >> 33 % uint64(n))
}

// cut from few, so that questions often ask the same.
func (s *noise) cut() int {
	return []int{-end, -end + 1, -3, -1, 0, 1, 2, 3, end}[s.below(9)]
}

// tree of so many questions, in any order in which what is below stands behind; it may be deeper than a tree may be.
func (s *noise) tree(questions, features int) nodes {
	t := make(nodes, 2*questions+1)
	// free holds the places that are somebody's and are not yet laid.
	free := []int{0}
	next := 1
	for range questions {
		pick := s.below(len(free))
		at := free[pick]
		left, right := next, next+1
		if s.below(2) == 0 {
			left, right = right, left
		}
		t[at] = ask(s.below(features), s.cut(), left, right)
		t[at].Less = s.below(2) == 0
		next += 2
		free = append(slices.Delete(free, pick, pick+1), left, right)
	}
	for _, at := range free {
		t[at] = leaf(s.below(2*end+1) - end)
	}
	return t
}

// good tree of at most so many questions.
func (s *noise) good(questions, features int) nodes {
	for {
		t := s.tree(s.below(questions+1), features)
		if _, err := tree.Check(t, features); err == nil {
			return t
		}
	}
}

// cells that tell all questions of a feature apart: all its cuts, what is just below and above them, both ends, and Nil.
func cells(n nodes, feature int) []int {
	l := []int{-end, end, gone}
	for _, q := range n {
		if q.Feature == feature {
			l = append(l, max(q.Cut-1, -end), q.Cut, min(q.Cut+1, end))
		}
	}
	slices.Sort(l)
	return slices.Compact(l)
}

// row of cells that are near the cuts of a tree.
func (s *noise) row(n nodes, features int) []int {
	r := make([]int, features)
	for i := range r {
		l := cells(n, i)
		r[i] = l[s.below(len(l))]
	}
	return r
}

// goesLeft tells where a cell goes from a question, by the chapter's words.
func goesLeft(q api.Node, cell int) bool {
	if cell == gone {
		return q.Less
	}
	return cell < q.Cut
}

// plainPath goes down by itself.
func plainPath(n nodes, at int, r []int) []int {
	q := n[at]
	switch {
	case q.Feature == -1:
		return []int{at}
	case goesLeft(q, r[q.Feature]):
		return append([]int{at}, plainPath(n, q.Left, r)...)
	}
	return append([]int{at}, plainPath(n, q.Right, r)...)
}

// plainWay looks for a node below another one.
func plainWay(n nodes, from, to int) []int {
	if from == to {
		return []int{to}
	}
	if n[from].Feature == -1 {
		return nil
	}
	for _, on := range []int{n[from].Left, n[from].Right} {
		if way := plainWay(n, on, to); way != nil {
			return append([]int{from}, way...)
		}
	}
	return nil
}

// plainSpan tries all cells that may matter at all questions on a way.
func plainSpan(n nodes, way []int, feature int) api.Span {
	s := span(1, 0)
	for _, cell := range cells(n, feature) {
		by := true
		for i, to := range way[1:] {
			q := n[way[i]]
			if q.Feature == feature && goesLeft(q, cell) != (q.Left == to) {
				by = false
			}
		}
		switch {
		case !by:
		case cell == gone:
			s.Nil = true
		case s.Low > s.High:
			s.Low, s.High = cell, cell
		default:
			s.Low, s.High = min(s.Low, cell), max(s.High, cell)
		}
	}
	return s
}

// plainRegion of a leaf, and whether there is a row.
func plainRegion(n nodes, features, at int) (spans, bool) {
	way := plainWay(n, 0, at)
	is := true
	var l spans
	for f := range features {
		s := plainSpan(n, way, f)
		is = is && (s.Low <= s.High || s.Nil)
		l = append(l, s)
	}
	return l, is
}

// isLeaf tells whether a leaf stands at a place.
func isLeaf(n nodes, at int) bool { return at >= 0 && at < len(n) && n[at].Feature == api.Leaf }

// checkPath holds Path and Why to what they are.
func checkPath(t *testing.T, name string, n nodes, r, want []int, why string) {
	t.Helper()
	if got, err := path.Path(n, r); !slices.Equal(got, want) || err != nil {
		t.Errorf("%s: Path of %v = %v, %v, want %v", name, r, got, err, want)
	}
	if got, err := path.Why(n, r); got != why || err != nil {
		t.Errorf("%s: Why of %v = %q, %v, want %q", name, r, got, err, why)
	}
}

// checkFault holds Path and Why to an error, and with it to nothing else.
func checkFault(t *testing.T, name string, n nodes, r []int, want api.Errno) {
	t.Helper()
	if got, err := path.Path(n, r); len(got) != 0 || told(err) != want {
		t.Errorf("%s: Path = %v, %v, want %v", name, got, err, want)
	}
	if got, err := path.Why(n, r); got != "" || told(err) != want {
		t.Errorf("%s: Why = %q, %v, want %v", name, got, err, want)
	}
}

// checkRegion holds Region to spans and to whether there is a row.
func checkRegion(t *testing.T, name string, n nodes, features, at int, want spans, is bool) {
	t.Helper()
	if got, row, err := path.Region(n, features, at); !slices.Equal(got, want) || row != is || err != nil {
		t.Errorf("%s: Region of %d = %v, %v, %v, want %v, %v", name, at, got, row, err, want, is)
	}
}

// checkNoRegion holds Region to an error, and with it to nothing else.
func checkNoRegion(t *testing.T, name string, n nodes, features, at int, want api.Errno) {
	t.Helper()
	if got, is, err := path.Region(n, features, at); len(got) != 0 || is || told(err) != want {
		t.Errorf("%s: Region with %d of %d = %v, %v, %v, want %v", name, features, at, got, is, err, want)
	}
}

// checkReach holds Reach to leaves and an error.
func checkReach(t *testing.T, name string, n nodes, features int, want []int, fault api.Errno) {
	t.Helper()
	if got, err := path.Reach(n, features); !slices.Equal(got, want) || told(err) != fault {
		t.Errorf("%s: Reach with %d = %v, %v, want %v, %v", name, features, got, err, want, fault)
	}
}

// TestOneLeaf: the way is the leaf, and no blank stands ahead of its Value.
func TestOneLeaf(t *testing.T) {
	for value, why := range map[int]string{0: "=0", 7: "=7", -7: "=-7", end: "=1000000", -end: "=-1000000"} {
		for count := range 9 {
			n := nodes{leaf(value)}
			checkPath(t, "one leaf", n, make([]int, count), []int{0}, why)
			checkPath(t, "one leaf", n, slices.Repeat([]int{gone}, count), []int{0}, why)
			checkRegion(t, "one leaf", n, count, 0, slices.Repeat(spans{all()}, count), true)
			checkReach(t, "one leaf", n, count, []int{0}, none)
		}
	}
}

// TestOneQuestion: cells below, at and above Cut, and Nil.
func TestOneQuestion(t *testing.T) {
	for _, c := range []struct {
		name string
		n    api.Node
		cell int
		leaf int
		why  string
	}{
		{"below", ask(0, 5, 1, 2), 4, 1, "f0<5 =-7"},
		{"at", ask(0, 5, 1, 2), 5, 2, "f0>=5 =9"},
		{"above", ask(0, 5, 1, 2), 6, 2, "f0>=5 =9"},
		{"far below", ask(0, 5, 1, 2), -end, 1, "f0<5 =-7"},
		{"far above", ask(0, 5, 1, 2), end, 2, "f0>=5 =9"},
		{"Nil", ask(0, 5, 1, 2), gone, 2, "f0? =9"},
		{"below, Less", askLess(0, 5, 1, 2), 4, 1, "f0<5 =-7"},
		{"at, Less", askLess(0, 5, 1, 2), 5, 2, "f0>=5 =9"},
		{"above, Less", askLess(0, 5, 1, 2), 6, 2, "f0>=5 =9"},
		{"Nil, Less", askLess(0, 5, 1, 2), gone, 1, "f0? =-7"},
		{"below a Cut below 0", ask(0, -5, 1, 2), -6, 1, "f0<-5 =-7"},
		{"at a Cut below 0", ask(0, -5, 1, 2), -5, 2, "f0>=-5 =9"},
		{"Nil, and a Cut below 0", ask(0, -5, 1, 2), gone, 2, "f0? =9"},
		{"below a Cut of 0", ask(0, 0, 1, 2), -1, 1, "f0<0 =-7"},
		{"at a Cut of 0", ask(0, 0, 1, 2), 0, 2, "f0>=0 =9"},
		{"at the low end", ask(0, -end, 1, 2), -end, 2, "f0>=-1000000 =9"},
		{"below the high end", ask(0, end, 1, 2), end - 1, 1, "f0<1000000 =-7"},
		{"at the high end", ask(0, end, 1, 2), end, 2, "f0>=1000000 =9"},
		{"Nil, at the high end", ask(0, end, 1, 2), gone, 2, "f0? =9"},
		{"Nil, Less, at the low end", askLess(0, -end, 1, 2), gone, 1, "f0? =-7"},
		{"Left behind Right, below", ask(0, 5, 2, 1), 4, 2, "f0<5 =9"},
		{"Left behind Right, at", ask(0, 5, 2, 1), 5, 1, "f0>=5 =-7"},
		{"Left behind Right, Nil", ask(0, 5, 2, 1), gone, 1, "f0? =-7"},
		{"Left behind Right, Nil, Less", askLess(0, 5, 2, 1), gone, 2, "f0? =9"},
	} {
		checkPath(t, c.name, with(small(), 0, c.n), []int{c.cell}, []int{0, c.leaf}, c.why)
	}
	for feature := range 8 {
		n := with(small(), 0, ask(feature, 5, 1, 2))
		r := with(make([]int, 8), feature, 5)
		checkPath(t, "feature", n, r, []int{0, 2}, fmt.Sprintf("f%d>=5 =9", feature))
	}
}

// TestSeveralWords: a way of several questions, of one feature and of others.
func TestSeveralWords(t *testing.T) {
	checkPath(t, "two", two(), []int{4, 0, -6}, []int{0, 1, 2}, "f0<5 f2<-5 =10")
	checkPath(t, "two", two(), []int{4, 0, -5}, []int{0, 1, 3}, "f0<5 f2>=-5 =20")
	checkPath(t, "two", two(), []int{4, 0, gone}, []int{0, 1, 2}, "f0<5 f2? =10")
	checkPath(t, "two", two(), []int{5, 0, gone}, []int{0, 4}, "f0>=5 =30")
	checkPath(t, "two", two(), []int{gone, gone, gone}, []int{0, 4}, "f0? =30")
	n := chain(nodes{ask(3, 7, 0, 0), askLess(3, 2, 0, 0), askLess(0, -1, 0, 0)}, toAndFro)
	checkPath(t, "three", n, []int{-4, 0, 0, 3}, []int{0, 2, 4, 6}, "f3<7 f3>=2 f0<-1 =100")
	checkPath(t, "three", n, []int{gone, 0, 0, 2}, []int{0, 2, 4, 6}, "f3<7 f3>=2 f0? =100")
	checkPath(t, "three", n, []int{-1, 0, 0, 2}, []int{0, 2, 4, 5}, "f3<7 f3>=2 f0>=-1 =2")
	checkPath(t, "three", n, []int{-1, 0, 0, gone}, []int{0, 1}, "f3? =0")
}

// TestDeepWays: ways by Left, by Right and to and fro, down to the deepest that there may be.
func TestDeepWays(t *testing.T) {
	for name, left := range map[string]func(int) bool{"Left": byLeft, "Right": byRight, "to and fro": toAndFro, "fro and to": froAndTo} {
		for deep := range api.MaxDepth + 1 {
			var questions nodes
			want, why := []int{0}, ""
			r := make([]int, 8)
			for level := range deep {
				// Even questions are answered by numbers, odd ones by Nil, which goes on along the way.
				q := ask(level%8, 0, 0, 0)
				q.Less = left(level)
				questions = append(questions, q)
				want = append(want, 2*level+2)
				switch {
				case level%2 != 0:
					r[level%8] = gone
					why += fmt.Sprintf("f%d? ", level%8)
				case left(level):
					r[level%8] = -1
					why += fmt.Sprintf("f%d<0 ", level%8)
				default:
					why += fmt.Sprintf("f%d>=0 ", level%8)
				}
			}
			checkPath(t, fmt.Sprint(name, " ", deep), chain(questions, left), r, want, why+"=100")
		}
		checkFault(t, name+", too deep", chain(slices.Repeat(nodes{ask(0, 0, 0, 0)}, 11), left), []int{0}, api.ErrFull)
	}
}

// wrongTrees: with as many features as a tree asks for, and what is wrong with it then.
var wrongTrees = []struct {
	name     string
	n        nodes
	features int
	want     api.Errno
}{
	{"none", nil, 0, api.ErrNone},
	{"empty", nodes{}, 8, api.ErrNone},
	{"64", even(64), 8, api.ErrFull},
	{"65", even(65), 8, api.ErrFull},
	{"a Value beyond", with(small(), 2, leaf(end+1)), 1, api.ErrRange},
	{"a Cut beyond", with(small(), 0, ask(0, end+1, 1, 2)), 1, api.ErrRange},
	{"a Feature that is not there", small(), 0, api.ErrRange},
	{"another Feature that is not there", two(), 2, api.ErrRange},
	{"Left itself", with(small(), 0, ask(0, 0, 0, 2)), 1, api.ErrRange},
	{"Right behind all", with(small(), 0, ask(0, 0, 1, 3)), 1, api.ErrRange},
	{"Left is Right", with(small(), 0, ask(0, 0, 1, 1)), 1, api.ErrShape},
	{"a leaf that has a Cut", with(small(), 1, api.Node{Feature: api.Leaf, Cut: 1}), 1, api.ErrShape},
	{"nobody's", append(small(), leaf(0)), 1, api.ErrClash},
	{"below two", with(two(), 1, ask(0, 0, 2, 4)), 3, api.ErrClash},
	{"too deep", chain(slices.Repeat(nodes{ask(0, 0, 0, 0)}, 11), byLeft), 1, api.ErrFull},
}

// TestWrongTrees: what Check tells is told by all.
func TestWrongTrees(t *testing.T) {
	for _, c := range wrongTrees {
		checkFault(t, c.name, c.n, make([]int, c.features), c.want)
		checkReach(t, c.name, c.n, c.features, nil, c.want)
		for _, at := range []int{least, -1, 0, 1, 2, len(c.n) - 1, len(c.n), great} {
			checkNoRegion(t, c.name, c.n, c.features, at, c.want)
		}
	}
}

// TestWrongRows: what is wrong with a row is told ahead of what is wrong with a tree.
func TestWrongRows(t *testing.T) {
	rows := []struct {
		name string
		r    []int
		want api.Errno
	}{
		{"9 cells", make([]int, 9), api.ErrFull},
		{"9 cells, one beyond", with(make([]int, 9), 3, great), api.ErrFull},
		{"beyond the high end", []int{end + 1}, api.ErrRange},
		{"beyond the low end", []int{0, -end - 1, 0}, api.ErrRange},
		{"the least", []int{least}, api.ErrRange},
		{"the greatest, the last", with(make([]int, 8), 7, great), api.ErrRange},
		{"next to Nil", []int{gone + 1}, api.ErrRange},
	}
	for _, r := range rows {
		checkFault(t, r.name, nodes{leaf(1)}, r.r, r.want)
		checkFault(t, r.name, small(), r.r, r.want)
		for _, c := range wrongTrees {
			checkFault(t, r.name+", and "+c.name, c.n, r.r, r.want)
		}
	}
	checkFault(t, "no cell", small(), nil, api.ErrRange)
	checkFault(t, "two cells of three", two(), []int{9, 9}, api.ErrRange)
	checkPath(t, "three cells", two(), []int{9, 9, 9}, []int{0, 4}, "f0>=5 =30")
	checkPath(t, "eight cells", two(), slices.Repeat([]int{9}, 8), []int{0, 4}, "f0>=5 =30")
}

// TestFeatures: how many there may be, fewer than the tree asks for, and more.
func TestFeatures(t *testing.T) {
	for _, features := range []int{least, -end, -2, -1, 9, 10, end, great} {
		for _, at := range []int{least, -1, 0, 1, great} {
			checkNoRegion(t, "one leaf", nodes{leaf(1)}, features, at, api.ErrRange)
			checkNoRegion(t, "none", nil, features, at, api.ErrNone)
			checkNoRegion(t, "64", even(64), features, at, api.ErrFull)
			checkNoRegion(t, "of another shape", append(small(), leaf(1)), features, at, api.ErrRange)
		}
		checkReach(t, "one leaf", nodes{leaf(1)}, features, nil, api.ErrRange)
		checkReach(t, "none", nil, features, nil, api.ErrNone)
		checkReach(t, "64", even(64), features, nil, api.ErrFull)
	}
	for features := range 9 {
		n := two()
		if features < 3 {
			checkNoRegion(t, "fewer", n, features, 2, api.ErrRange)
			checkReach(t, "fewer", n, features, nil, api.ErrRange)
			continue
		}
		want := slices.Repeat(spans{all()}, features)
		want[0], want[2] = span(-end, 4), spanNil(-end, -6)
		checkRegion(t, "enough", n, features, 2, want, true)
		checkReach(t, "enough", n, features, []int{2, 3, 4}, none)
	}
}

// TestNoSuchLeaf: places at which there is none, and those of all questions.
func TestNoSuchLeaf(t *testing.T) {
	for _, n := range []nodes{{leaf(1)}, small(), two(), even(63), chain(slices.Repeat(nodes{ask(0, 0, 0, 0)}, 10), toAndFro)} {
		for _, at := range []int{least, least + 1, gone, -len(n), -2, -1, len(n), len(n) + 1, 63, 64, great - 1, great} {
			checkNoRegion(t, "outside", n, 8, at, api.ErrRange)
		}
		for at := range n {
			if !isLeaf(n, at) {
				checkNoRegion(t, "a question", n, 8, at, api.ErrRange)
				continue
			}
			want, is := plainRegion(n, 8, at)
			checkRegion(t, "a leaf", n, 8, at, want, is)
		}
	}
}

// TestRegionOfOne: a leaf on either side of one question.
func TestRegionOfOne(t *testing.T) {
	for _, c := range []struct {
		cut         int
		left, right api.Span
	}{
		{5, span(-end, 4), span(5, end)},
		{0, span(-end, -1), span(0, end)},
		{-5, span(-end, -6), span(-5, end)},
		{-end, span(1, 0), span(-end, end)},
		{-end + 1, span(-end, -end), span(-end+1, end)},
		{end, span(-end, end-1), span(end, end)},
		{end - 1, span(-end, end-2), span(end-1, end)},
	} {
		for feature := range 3 {
			three := func(s api.Span, with bool) spans {
				s.Nil = with
				l := spans{all(), all(), all()}
				l[feature] = s
				return l
			}
			name := fmt.Sprint("cut ", c.cut)
			has := c.left.Low <= c.left.High
			checkRegion(t, name, with(small(), 0, ask(feature, c.cut, 1, 2)), 3, 1, three(c.left, false), has)
			checkRegion(t, name, with(small(), 0, ask(feature, c.cut, 1, 2)), 3, 2, three(c.right, true), true)
			checkRegion(t, name, with(small(), 0, askLess(feature, c.cut, 1, 2)), 3, 1, three(c.left, true), true)
			checkRegion(t, name, with(small(), 0, askLess(feature, c.cut, 1, 2)), 3, 2, three(c.right, false), true)
			checkRegion(t, name, with(small(), 0, askLess(feature, c.cut, 2, 1)), 3, 2, three(c.left, true), true)
			checkRegion(t, name, with(small(), 0, ask(feature, c.cut, 2, 1)), 3, 1, three(c.right, true), true)
		}
	}
}

// TestRegionOfSeveral: questions of one feature, one below the other, and what they leave for the last leaf.
func TestRegionOfSeveral(t *testing.T) {
	// A way is cuts, each with where it goes: l and r as not Less says, L and R as Less says.
	for _, c := range []struct {
		sides string
		cuts  []int
		want  api.Span
		is    bool
	}{
		{"ll", []int{5, 3}, span(-end, 2), true},
		{"ll", []int{3, 5}, span(-end, 2), true},
		{"ll", []int{3, 3}, span(-end, 2), true},
		{"rr", []int{3, 5}, spanNil(5, end), true},
		{"rr", []int{5, 3}, spanNil(5, end), true},
		{"rr", []int{5, 5}, spanNil(5, end), true},
		{"rl", []int{3, 5}, span(3, 4), true},
		{"lr", []int{5, 3}, span(3, 4), true},
		{"rl", []int{3, 4}, span(3, 3), true},
		{"lr", []int{4, 3}, span(3, 3), true},
		{"rl", []int{3, 3}, span(1, 0), false},
		{"lr", []int{3, 3}, span(1, 0), false},
		{"rl", []int{5, 3}, span(1, 0), false},
		{"lr", []int{3, 5}, span(1, 0), false},
		{"lr", []int{-7, end}, span(1, 0), false},
		{"rl", []int{end, -end}, span(1, 0), false},
		{"rl", []int{-end, end}, span(-end, end-1), true},
		{"LL", []int{5, 3}, spanNil(-end, 2), true},
		{"RR", []int{3, 5}, span(5, end), true},
		{"rL", []int{3, 3}, spanNil(1, 0), true},
		{"Lr", []int{3, 3}, spanNil(1, 0), true},
		{"Lr", []int{-9, 9}, spanNil(1, 0), true},
		{"rL", []int{3, 5}, spanNil(3, 4), true},
		{"Lr", []int{5, 3}, spanNil(3, 4), true},
		{"Ll", []int{5, 3}, span(-end, 2), true},
		{"lL", []int{5, 3}, span(-end, 2), true},
		{"Rr", []int{3, 5}, span(5, end), true},
		{"rR", []int{3, 5}, span(5, end), true},
		{"RL", []int{3, 3}, span(1, 0), false},
		{"LR", []int{3, 3}, span(1, 0), false},
		{"L", []int{-end}, spanNil(1, 0), true},
		{"l", []int{-end}, span(1, 0), false},
		{"r", []int{-end}, all(), true},
		{"R", []int{-end}, span(-end, end), true},
		{"r", []int{end}, spanNil(end, end), true},
		{"R", []int{end}, span(end, end), true},
		{"L", []int{end}, spanNil(-end, end-1), true},
		{"rrrr", []int{-end, -end, -end, -end}, all(), true},
		{"LLL", []int{7, 1, 4}, spanNil(-end, 0), true},
		{"rrr", []int{7, 1, 4}, spanNil(7, end), true},
		{"rlr", []int{1, 9, 4}, span(4, 8), true},
		{"rlrl", []int{1, 9, 4, 5}, span(4, 4), true},
		{"rlrl", []int{1, 9, 4, 4}, span(1, 0), false},
		{"rLrL", []int{1, 9, 4, 4}, spanNil(1, 0), true},
		{"rLrLR", []int{1, 9, 4, 4, 2}, span(1, 0), false},
		{"rLrLr", []int{1, 9, 4, 4, -end}, spanNil(1, 0), true},
		{"Lr", []int{-end, -end}, spanNil(1, 0), true},
		{"LrLrLrLrLr", []int{9, -9, 8, -8, 7, -7, 6, -6, 5, 4}, spanNil(4, 4), true},
		{"LrLrLrLrLr", []int{9, -9, 8, -8, 7, -7, 6, -6, 5, 5}, spanNil(1, 0), true},
		{"LrLrLrLrLR", []int{9, -9, 8, -8, 7, -7, 6, -6, 5, 5}, span(1, 0), false},
		{"llllllllll", []int{9, -9, 8, -8, 7, -7, 6, -6, 5, -end + 1}, span(-end, -end), true},
		{"rrrrrrrrrr", []int{9, -9, 8, -8, 7, -7, 6, -6, end, 4}, spanNil(end, end), true},
	} {
		for _, feature := range []int{0, 1, 7} {
			var questions nodes
			for i, side := range c.sides {
				q := ask(feature, c.cuts[i], 0, 0)
				q.Less = strings.ContainsRune("LR", side)
				questions = append(questions, q)
			}
			n := chain(questions, func(level int) bool { return strings.ContainsRune("lL", rune(c.sides[level])) })
			name := fmt.Sprint(c.sides, " ", c.cuts)
			checkRegion(t, name, n, 8, len(n)-1, with(slices.Repeat(spans{all()}, 8), feature, c.want), c.is)
			reached, err := path.Reach(n, 8)
			if err != nil || slices.Contains(reached, len(n)-1) != c.is {
				t.Errorf("%s: Reach = %v, %v, want the last leaf there: %v", name, reached, err, c.is)
			}
		}
	}
}

// TestRegionOfOthers: one feature has nothing; what is told of the others is as if it had.
func TestRegionOfOthers(t *testing.T) {
	n := chain(nodes{ask(0, 3, 0, 0), ask(1, 5, 0, 0), ask(0, 3, 0, 0), askLess(2, 8, 0, 0)}, func(level int) bool { return level > 1 })
	// To Right by f0>=3 and f1>=5, to Left by f0<3 and f2<8: no f0.
	checkRegion(t, "nothing at first", n, 3, 8, spans{span(1, 0), spanNil(5, end), spanNil(-end, 7)}, false)
	checkRegion(t, "something at first", n, 3, 5, spans{spanNil(3, end), spanNil(5, end), all()}, true)
	checkRegion(t, "nothing, another leaf", n, 3, 7, spans{span(1, 0), spanNil(5, end), span(8, end)}, false)
	checkReach(t, "nothing at first", n, 3, []int{1, 3, 5}, none)
	last := chain(nodes{ask(2, -end, 0, 0)}, byLeft)
	checkRegion(t, "nothing at last", last, 3, 2, spans{all(), all(), span(1, 0)}, false)
	checkReach(t, "nothing at last", last, 3, []int{1}, none)
	checkReach(t, "Nil alone", chain(nodes{askLess(2, -end, 0, 0)}, byLeft), 3, []int{1, 2}, none)
}

// TestReach: trees to all of whose leaves some row comes, and such as have others; leaves rise, wherever they hang.
func TestReach(t *testing.T) {
	checkReach(t, "small", small(), 1, []int{1, 2}, none)
	checkReach(t, "small, Left behind Right", with(small(), 0, ask(0, 5, 2, 1)), 1, []int{1, 2}, none)
	checkReach(t, "two", two(), 3, []int{2, 3, 4}, none)
	// Each of its seven questions asks another feature: all leaves are come to.
	checkReach(t, "apart", even(15), 8, []int{7, 8, 9, 10, 11, 12, 13, 14}, none)
	twice := nodes{ask(0, 3, 4, 1), ask(0, 3, 2, 3), leaf(1), leaf(2), ask(0, 3, 6, 5), leaf(3), leaf(4)}
	checkReach(t, "asked twice", twice, 1, []int{3, 6}, none)
	less := nodes{ask(0, 3, 4, 1), askLess(0, 3, 2, 3), leaf(1), leaf(2), ask(0, 3, 6, 5), leaf(3), leaf(4)}
	checkReach(t, "asked twice, Nil the other way", less, 1, []int{2, 3, 6}, none)
	// A tree always says something: whatever it asks, some leaf is come to.
	never := nodes{ask(0, -end, 1, 2), ask(0, 0, 3, 4), leaf(1), leaf(2), leaf(3)}
	checkReach(t, "one alone", never, 1, []int{2}, none)
}

// TestWitness: cells, and what is wrong first.
func TestWitness(t *testing.T) {
	for _, c := range []struct {
		name string
		l    spans
		want []int
		e    api.Errno
	}{
		{"none", nil, nil, none},
		{"empty", spans{}, nil, none},
		{"zeros", spans{{}}, []int{0}, none},
		{"Low alone", spans{span(3, 8)}, []int{3}, none},
		{"Low, with Nil", spans{spanNil(3, 8)}, []int{3}, none},
		{"Low below 0", spans{span(-3, 8)}, []int{-3}, none},
		{"Low is High", spans{span(8, 8)}, []int{8}, none},
		{"Low is High, with Nil", spans{spanNil(8, 8)}, []int{8}, none},
		{"Low above High", spans{span(8, 7)}, nil, api.ErrNone},
		{"Low above High, with Nil", spans{spanNil(8, 7)}, []int{gone}, none},
		{"1 and 0", spans{span(1, 0)}, nil, api.ErrNone},
		{"1 and 0, with Nil", spans{spanNil(1, 0)}, []int{gone}, none},
		{"far above", spans{spanNil(end, -end)}, []int{gone}, none},
		{"far above, no Nil", spans{span(end, -end)}, nil, api.ErrNone},
		{"all", spans{all()}, []int{-end}, none},
		{"at the low end", spans{span(-end, -end)}, []int{-end}, none},
		{"within the low end", spans{span(-end+1, 0)}, []int{-end + 1}, none},
		{"Low beyond the low end", spans{span(-end-1, 0)}, nil, api.ErrRange},
		{"both beyond the low end", spans{span(-end-1, -end-1)}, nil, api.ErrRange},
		{"High beyond the low end, Nil", spans{spanNil(0, -end-1)}, nil, api.ErrRange},
		{"at the high end", spans{span(end, end)}, []int{end}, none},
		{"within the high end", spans{span(end-1, end-1)}, []int{end - 1}, none},
		{"High beyond the high end", spans{span(0, end+1)}, nil, api.ErrRange},
		{"both beyond the high end", spans{spanNil(end+1, end+1)}, nil, api.ErrRange},
		{"Low beyond the high end, Nil", spans{spanNil(end+1, 0)}, nil, api.ErrRange},
		{"Low beyond the high end, no Nil", spans{span(end+1, 0)}, nil, api.ErrRange},
		{"High beyond the low end, no Nil", spans{span(0, -end-1)}, nil, api.ErrRange},
		{"Low Nil", spans{spanNil(gone, 0)}, nil, api.ErrRange},
		{"High Nil", spans{spanNil(0, gone)}, nil, api.ErrRange},
		{"the least", spans{spanNil(least, 0)}, nil, api.ErrRange},
		{"the greatest", spans{spanNil(0, great)}, nil, api.ErrRange},
		{"least and greatest", spans{span(least, great)}, nil, api.ErrRange},
		{"greatest and least", spans{span(great, least)}, nil, api.ErrRange},
		{"several", spans{span(3, 8), spanNil(1, 0), spanNil(-4, -4)}, []int{3, gone, -4}, none},
		{"nothing, then beyond", spans{span(1, 0), span(0, end+1)}, nil, api.ErrNone},
		{"beyond, then nothing", spans{span(0, end+1), span(1, 0)}, nil, api.ErrRange},
		{"good, nothing, beyond", spans{all(), span(1, 0), span(0, end+1)}, nil, api.ErrNone},
		{"good, beyond, nothing", spans{all(), span(0, end+1), span(1, 0)}, nil, api.ErrRange},
		{"the last nothing", spans{all(), all(), span(1, 0)}, nil, api.ErrNone},
		{"8", slices.Repeat(spans{span(2, 5)}, 8), slices.Repeat([]int{2}, 8), none},
		{"8, the last beyond", with(slices.Repeat(spans{span(2, 5)}, 8), 7, span(2, great)), nil, api.ErrRange},
		{"8, the last nothing", with(slices.Repeat(spans{span(2, 5)}, 8), 7, span(2, 1)), nil, api.ErrNone},
		{"9", slices.Repeat(spans{all()}, 9), nil, api.ErrFull},
		{"9, beyond", slices.Repeat(spans{span(least, great)}, 9), nil, api.ErrFull},
		{"9, nothing", slices.Repeat(spans{span(1, 0)}, 9), nil, api.ErrFull},
		{"100000", slices.Repeat(spans{all()}, 100000), nil, api.ErrFull},
	} {
		got, err := path.Witness(c.l)
		if !slices.Equal(got, c.want) || told(err) != c.e {
			t.Errorf("%s: Witness = %v, %v, want %v, %v", c.name, got, err, c.want, c.e)
		}
		if fits, bad := row.Fits(got, c.l); err == nil && (!fits || bad != nil) {
			t.Errorf("%s: Witness = %v is not within: %v", c.name, got, bad)
		}
	}
}

// TestWitnessAgainstPlain: all spans of some ends, one, two and three of them.
func TestWitnessAgainstPlain(t *testing.T) {
	ends := []int{-end - 1, -end, 0, 1, end, end + 1}
	var kinds spans
	for _, low := range ends {
		for _, high := range ends {
			kinds = append(kinds, span(low, high), spanNil(low, high))
		}
	}
	plain := func(l spans) ([]int, api.Errno) {
		var r []int
		for _, s := range l {
			switch {
			case s.Low < -1000000, s.Low > 1000000, s.High < -1000000, s.High > 1000000:
				return nil, api.ErrRange
			case s.Low <= s.High:
				r = append(r, s.Low)
			case s.Nil:
				r = append(r, -1<<50)
			default:
				return nil, api.ErrNone
			}
		}
		return r, none
	}
	hold := func(l spans) {
		want, e := plain(l)
		if got, err := path.Witness(l); !slices.Equal(got, want) || told(err) != e {
			t.Fatalf("Witness of %v = %v, %v, want %v, %v", l, got, err, want, e)
		}
	}
	for _, a := range kinds {
		hold(spans{a})
		for _, b := range kinds {
			hold(spans{a, b})
			hold(spans{all(), a, b})
			hold(spans{a, b, spanNil(1, 0)})
		}
	}
}

// TestAgainstPlain holds many trees against what the chapter says word by word.
func TestAgainstPlain(t *testing.T) {
	var s noise = 5
	empty, full := 0, 0
	for range 3000 {
		features := 1 + s.below(8)
		n := s.good(31, features)
		var reached []int
		for at := range n {
			if !isLeaf(n, at) {
				checkNoRegion(t, "a question", n, features, at, api.ErrRange)
				continue
			}
			want, is := plainRegion(n, features, at)
			checkRegion(t, "a leaf", n, features, at, want, is)
			if is {
				reached = append(reached, at)
				full++
			} else {
				empty++
			}
		}
		checkReach(t, "many", n, features, reached, none)
		for range 10 {
			r := s.row(n, features)
			checkPath(t, "many", n, r, plainPath(n, 0, r), plainWhy(n, r))
		}
		if t.Failed() {
			t.Fatalf("tree %v", n)
		}
	}
	if empty < 1000 || full < 1000 {
		t.Errorf("only %d leaves without a row, %d with one", empty, full)
	}
}

// plainWhy tells the way word by word.
func plainWhy(n nodes, r []int) string {
	text := ""
	for at := 0; ; {
		q := n[at]
		if q.Feature == -1 {
			return text + fmt.Sprintf("=%d", q.Value)
		}
		cell := r[q.Feature]
		switch {
		case cell == gone:
			text += fmt.Sprintf("f%d? ", q.Feature)
		case cell < q.Cut:
			text += fmt.Sprintf("f%d<%d ", q.Feature, q.Cut)
		default:
			text += fmt.Sprintf("f%d>=%d ", q.Feature, q.Cut)
		}
		if goesLeft(q, cell) {
			at = q.Left
		} else {
			at = q.Right
		}
	}
}

// TestRowsAndRegions: a row is within the Region of the leaf to which it comes, and of no other one; and a Witness of a Region comes to its leaf.
func TestRowsAndRegions(t *testing.T) {
	var s noise = 6
	for range 1500 {
		features := 1 + s.below(4)
		n := s.good(20, features)
		regions := map[int]spans{}
		for at := range n {
			if isLeaf(n, at) {
				l, is, err := path.Region(n, features, at)
				if err != nil {
					t.Fatal(err)
				}
				regions[at] = l
				checkWitness(t, n, at, l, is)
			}
		}
		for range 30 {
			r := s.row(n, features)
			way, err := path.Path(n, r)
			if err != nil {
				t.Fatal(err)
			}
			for at, l := range regions {
				fits, err := row.Fits(r, l)
				if err != nil || fits != (at == way[len(way)-1]) {
					t.Errorf("the row %v comes by %v; within the Region %v of %d: %v, %v", r, way, l, at, fits, err)
				}
			}
		}
		if t.Failed() {
			t.Fatalf("tree %v", n)
		}
	}
}

// checkWitness: where there is a row, the Witness is one; where there is none, there is no Witness.
func checkWitness(t *testing.T, n nodes, at int, l spans, is bool) {
	t.Helper()
	r, err := path.Witness(l)
	if !is {
		if told(err) != api.ErrNone {
			t.Errorf("Witness of %v = %v, %v", l, r, err)
		}
		return
	}
	got, bad := tree.Leaf(n, r)
	if err != nil || bad != nil || got != at {
		t.Errorf("Witness of %v = %v, %v comes to %d, %v, not to %d", l, r, err, got, bad, at)
	}
}

// TestReachByRows tries all rows of cells that may matter: the leaves to which they come are those that Reach tells.
func TestReachByRows(t *testing.T) {
	var s noise = 7
	for range 300 {
		n := s.good(12, 2)
		var reached []int
		for _, a := range cells(n, 0) {
			for _, b := range cells(n, 1) {
				at, err := tree.Leaf(n, []int{a, b})
				if err != nil {
					t.Fatal(err)
				}
				reached = append(reached, at)
			}
		}
		slices.Sort(reached)
		checkReach(t, fmt.Sprint(n), n, 2, slices.Compact(reached), none)
	}
}

// guarded gives a list with memory behind its length, and all of that memory.
func guarded[T any](l []T, behind T) (list, all []T) {
	all = append(slices.Clone(l), slices.Repeat([]T{behind}, 8)...)
	return all[:len(l)], all
}

// TestListsStay: what is handed in, and what stands behind it, is as it was, and what stands behind it is not read.
func TestListsStay(t *testing.T) {
	trees := []nodes{nil, {leaf(1)}, small(), two(), even(63), even(64), with(two(), 1, leaf(end+1)), append(small(), leaf(0))}
	for _, l := range trees {
		for _, r := range [][]int{nil, {4, gone, 3}, make([]int, 8), make([]int, 9), {great}} {
			list, allNodes := guarded(l, leaf(3))
			row, allCells := guarded(r, 1)
			wasNodes, wasCells := slices.Clone(allNodes), slices.Clone(allCells)
			path.Path(list, row)
			path.Why(list, row)
			path.Reach(list, len(row))
			for at := -1; at <= len(list)+8; at++ {
				got, is, err := path.Region(list, len(row), at)
				if at >= len(l) && (got != nil || is || err == nil) {
					t.Errorf("Region of %d, behind %d nodes = %v, %v, %v", at, len(l), got, is, err)
				}
			}
			if !slices.Equal(allNodes, wasNodes) || !slices.Equal(allCells, wasCells) {
				t.Errorf("%v and %v were written into: %v, %v", l, r, allNodes, allCells)
			}
		}
	}
	for _, l := range []spans{nil, {all()}, {spanNil(1, 0), span(4, 4)}, {span(1, 0)}, {span(least, great)}, slices.Repeat(spans{all()}, 8), slices.Repeat(spans{all()}, 9)} {
		list, allSpans := guarded(l, span(great, least))
		was := slices.Clone(allSpans)
		want, e := path.Witness(l)
		if got, err := path.Witness(list); !slices.Equal(got, want) || told(err) != told(e) {
			t.Errorf("Witness = %v, %v, want %v, %v", got, err, want, e)
		}
		if !slices.Equal(allSpans, was) {
			t.Errorf("%v was written into: %v", l, allSpans)
		}
	}
}

// overwrite writes over all of a list's memory.
func overwrite[T any](l []T, x T) {
	l = l[:cap(l)]
	for i := range l {
		l[i] = x
	}
}

// TestAnswersAreFresh: writing into what came out changes nothing that was handed in, and nothing that comes later.
func TestAnswersAreFresh(t *testing.T) {
	n, r := two(), []int{4, 0, gone}
	l := spans{span(3, 8), spanNil(1, 0)}
	for range 2 {
		checkPath(t, "two", n, r, []int{0, 1, 2}, "f0<5 f2? =10")
		checkRegion(t, "two", n, 3, 3, spans{span(-end, 4), all(), span(-5, end)}, true)
		checkReach(t, "two", n, 3, []int{2, 3, 4}, none)
		cells, err := path.Witness(l)
		if !slices.Equal(cells, []int{3, gone}) || err != nil {
			t.Errorf("Witness = %v, %v", cells, err)
		}
		way, _ := path.Path(n, r)
		region, _, _ := path.Region(n, 3, 3)
		reached, _ := path.Reach(n, 3)
		overwrite(cells, 77)
		overwrite(way, 77)
		overwrite(reached, 77)
		overwrite(region, span(77, 77))
	}
	if !slices.Equal(n, two()) || !slices.Equal(r, []int{4, 0, gone}) || !slices.Equal(l, spans{span(3, 8), spanNil(1, 0)}) {
		t.Errorf("what was handed in is %v, %v, %v", n, r, l)
	}
}
