package grove_test

import (
	"errors"
	"fmt"
	"math"
	"math/big"
	"reflect"
	"slices"
	"testing"

	"orchardry/api"
	"orchardry/grove"
	"orchardry/path"
	"orchardry/row"
	"orchardry/tree"
)

const (
	end   = api.MaxCell
	gone  = api.Nil
	least = math.MinInt
	great = math.MaxInt
)

// none stands for an error that is nil.
const none = api.OK

// told gives what an error tells; -1, if it is none of the program's, or OK, which no error may be.
func told(err error) api.Errno {
	var e api.Errno
	switch {
	case err == nil:
		return none
	case errors.As(err, &e) && e != api.OK:
		return e
	}
	return -1
}

// nodes of a tree.
type nodes = []api.Node

// leaf that says a value.
func leaf(value int) api.Node { return api.Node{Feature: api.Leaf, Value: value} }

// ask whether a feature is below a cut; what is not there goes to Right.
func ask(feature, cut, left, right int) api.Node {
	return api.Node{Feature: feature, Cut: cut, Left: left, Right: right}
}

// askLess is ask, but what is not there goes to Left.
func askLess(feature, cut, left, right int) api.Node {
	n := ask(feature, cut, left, right)
	n.Less = true
	return n
}

// says is a tree that says one value of every row.
func says(value int) nodes { return nodes{leaf(value)} }

// small has one question.
func small(feature, cut, left, right int) nodes {
	return nodes{ask(feature, cut, 1, 2), leaf(left), leaf(right)}
}

// even has below place i those at 2i+1 and 2i+2.
func even(count int) nodes {
	t := make(nodes, count)
	for i := range t {
		if 2*i+2 < count {
			t[i] = ask(i%8, i-20, 2*i+1, 2*i+2)
		} else {
			t[i] = leaf(i)
		}
	}
	return t
}

// chain is as deep as it is told.
func chain(deep int) nodes {
	var t nodes
	for level := range deep {
		t = append(t, ask(0, level, len(t)+1, len(t)+2), leaf(level))
	}
	return append(t, leaf(100))
}

// with another thing at a place.
func with[T any](l []T, place int, x T) []T {
	l = slices.Clone(l)
	l[place] = x
	return l
}

// ones gives so many Weights of 1.
func ones(count int) []int { return slices.Repeat([]int{1}, count) }

// wood lays a grove.
func wood(features, way int, weights []int, trees ...nodes) api.Grove {
	return api.Grove{Features: features, Way: way, Weights: weights, Trees: trees}
}

// saying lays a grove of trees each of which says one value.
func saying(way int, weights []int, values ...int) api.Grove {
	g := wood(0, way, weights)
	for _, v := range values {
		g.Trees = append(g.Trees, says(v))
	}
	return g
}

// three trees that are right, of three features.
func three(way int) api.Grove {
	return wood(3, way, []int{2, 3, 4},
		small(0, 5, -7, 9),
		nodes{ask(1, 0, 1, 4), askLess(2, -5, 2, 3), leaf(10), leaf(20), leaf(30)},
		says(6))
}

// copied gives a grove that shares nothing with another, whatever it is.
func copied(g api.Grove) api.Grove {
	g.Weights = slices.Clone(g.Weights)
	g.Trees = slices.Clone(g.Trees)
	for i, t := range g.Trees {
		g.Trees[i] = slices.Clone(t)
	}
	return g
}

// changed gives a grove with something of it changed.
func changed(g api.Grove, change func(g *api.Grove)) api.Grove {
	g = copied(g)
	change(&g)
	return g
}

// ways in which trees come together.
func ways() []int { return []int{api.Sum, api.Mean, api.Vote} }

// noise: numbers that look as if they had no order, the same ones each time.
type noise uint64

func (s *noise) below(n int) int {
	*s = *s*6364136223846793005 + 1442695040888963407
	return int(uint64(*s) >> 33 % uint64(n))
}

// cell that may be, one in four not there.
func (s *noise) cell() int {
	switch s.below(4) {
	case 0:
		return gone
	case 1:
		return []int{-end, -end + 1, end - 1, end}[s.below(4)]
	}
	return s.below(9) - 4
}

func (s *noise) cells(count int) []int {
	l := make([]int, count)
	for i := range l {
		l[i] = s.cell()
	}
	return l
}

// value from few, so that trees often say the same.
func (s *noise) value() int { return []int{-end, -2, -1, 0, 1, 2, end}[s.below(7)] }

// tree of so many questions, in any order in which what is below stands behind; it may be deeper than a tree may be.
func (s *noise) tree(questions, features int) nodes {
	t := make(nodes, 2*questions+1)
	// free holds the places that are somebody's and are not yet laid.
	free := []int{0}
	next := 1
	for range questions {
		pick := s.below(len(free))
		at := free[pick]
		left, right := next, next+1
		if s.below(2) == 0 {
			left, right = right, left
		}
		t[at] = ask(s.below(features), []int{-end, -3, -1, 0, 1, 3, end}[s.below(7)], left, right)
		t[at].Less = s.below(2) == 0
		next += 2
		free = append(slices.Delete(free, pick, pick+1), left, right)
	}
	for _, at := range free {
		t[at] = leaf(s.value())
	}
	return t
}

// weight from few, so that they often are equal.
func (s *noise) weight() int { return []int{1, 1, 2, 3, 999, 1000}[s.below(6)] }

// grove that is right but for trees that may be too deep.
func (s *noise) grove() api.Grove {
	g := wood(s.below(9), 1+s.below(3), nil)
	for range 1 + s.below(12) {
		questions := 0
		if g.Features > 0 {
			questions = s.below(6)
		}
		g.Trees = append(g.Trees, s.tree(questions, max(g.Features, 1)))
		g.Weights = append(g.Weights, s.weight())
	}
	return g
}

// spoil changes some of a grove to what may be wrong.
func (s *noise) spoil(g *api.Grove) {
	pick := []int{least, gone, -end - 1, -2, -1, 0, 1, 2, 3, 4, 8, 9, 1000, 1001, end + 1, great}
	x := pick[s.below(len(pick))]
	switch s.below(9) {
	case 0:
		g.Features = x
	case 1:
		g.Way = x
	case 2:
		g.Trees = nil
	case 3:
		g.Trees = append(g.Trees, slices.Repeat([]nodes{says(x)}, s.below(12))...)
	case 4:
		g.Weights = append(g.Weights, x)
	case 5:
		if len(g.Weights) > 0 {
			g.Weights[s.below(len(g.Weights))] = x
		}
	case 6:
		if len(g.Weights) > 0 {
			g.Weights = g.Weights[1:]
		}
	case 7:
		if len(g.Trees) > 0 {
			g.Trees[s.below(len(g.Trees))] = []nodes{nil, says(x), even(65), small(x, 0, 1, 2), chain(11), append(says(1), leaf(2))}[s.below(6)]
		}
	case 8:
		for len(g.Weights) < len(g.Trees) {
			g.Weights = append(g.Weights, 1)
		}
	}
}

func TestNumbers(t *testing.T) {
	if api.MaxTrees != 12 || api.MaxWeight != 1000 || api.MaxRow != 8 || api.Sum != 1 || api.Mean != 2 || api.Vote != 3 {
		t.Errorf("MaxTrees is %d, MaxWeight %d, MaxRow %d, Sum %d, Mean %d, Vote %d", api.MaxTrees, api.MaxWeight, api.MaxRow, api.Sum, api.Mean, api.Vote)
	}
}

// isEmpty tells whether a grove is none.
func isEmpty(g api.Grove) bool { return reflect.DeepEqual(g, api.Grove{}) }

// checkTold holds every call to what is wrong with a grove, and with it to nothing else. The row that it asks of is right.
func checkTold(t *testing.T, name string, g api.Grove, want api.Errno) {
	t.Helper()
	if err := grove.Check(g); told(err) != want {
		t.Errorf("%s: Check = %v, want %v", name, err, want)
	}
	if low, high, err := grove.Bounds(g); told(err) != want || err != nil && (low != 0 || high != 0) {
		t.Errorf("%s: Bounds = %d, %d, %v, want %v", name, low, high, err, want)
	}
	checkRow(t, name, g, make([]int, min(max(g.Features, 0), 8)), want)
	if want == none {
		return
	}
	for _, other := range []api.Grove{three(api.Sum), g} {
		checkJoin(t, name, g, other, want)
	}
	checkJoin(t, name+", the second one", three(api.Mean), g, want)
}

// checkRow holds Each and Eval to an error, and with it to nothing else.
func checkRow(t *testing.T, name string, g api.Grove, r []int, want api.Errno) {
	t.Helper()
	if l, err := grove.Each(g, r); told(err) != want || err != nil && l != nil || err == nil && len(l) != len(g.Trees) {
		t.Errorf("%s: Each of %v = %v, %v, want %v", name, r, l, err, want)
	}
	if v, err := grove.Eval(g, r); told(err) != want || err != nil && v != 0 {
		t.Errorf("%s: Eval of %v = %d, %v, want %v", name, r, v, err, want)
	}
}

// checkJoin holds Join to an error, and with it to nothing else.
func checkJoin(t *testing.T, name string, a, b api.Grove, want api.Errno) {
	t.Helper()
	if g, err := grove.Join(a, b); told(err) != want || err != nil && !isEmpty(g) {
		t.Errorf("%s: Join = %v, %v, want %v", name, g, err, want)
	}
}

func TestFeatures(t *testing.T) {
	for _, features := range []int{least, least + 1, gone, -2, -1, 9, 10, 12, 63, great - 1, great} {
		checkTold(t, fmt.Sprint("Features ", features), wood(features, api.Sum, ones(1), says(4)), api.ErrRange)
	}
	for features := range 9 {
		checkTold(t, fmt.Sprint("Features ", features), wood(features, api.Sum, ones(1), says(4)), none)
	}
}

func TestWays(t *testing.T) {
	for _, way := range []int{least, least + 1, -3, -2, -1, 0, 4, 5, 1 << 32, 1<<32 + 1, great - 1, great} {
		checkTold(t, fmt.Sprint("Way ", way), changed(three(api.Sum), func(g *api.Grove) { g.Way = way }), api.ErrRange)
	}
	for _, way := range []int{1, 2, 3} {
		checkTold(t, fmt.Sprint("Way ", way), three(way), none)
	}
}

func TestHowMany(t *testing.T) {
	checkTold(t, "no trees", wood(3, api.Sum, nil), api.ErrNone)
	checkTold(t, "an empty list of them", wood(3, api.Sum, []int{}, []nodes{}...), api.ErrNone)
	checkTold(t, "the empty grove", api.Grove{}, api.ErrRange)
	for count := 1; count <= 12; count++ {
		checkTold(t, fmt.Sprint(count, " trees"), wood(8, api.Mean, ones(count), slices.Repeat([]nodes{even(63)}, count)...), none)
	}
	for _, count := range []int{13, 14, 24, 100000} {
		checkTold(t, fmt.Sprint(count, " trees"), wood(8, api.Mean, ones(count), slices.Repeat([]nodes{says(4)}, count)...), api.ErrFull)
		checkTold(t, fmt.Sprint(count, " trees without nodes"), wood(8, api.Mean, ones(count), make([]nodes, count)...), api.ErrFull)
	}
}

func TestHowManyWeights(t *testing.T) {
	for _, way := range ways() {
		for _, weights := range [][]int{nil, {}, {1}, {1, 1}, {1, 1, 1, 1}, ones(12), ones(13), ones(100000)} {
			checkTold(t, fmt.Sprint(len(weights), " Weights of three"), changed(three(way), func(g *api.Grove) { g.Weights = weights }), api.ErrShape)
		}
		checkTold(t, "2 Weights of one", saying(way, ones(2), 4), api.ErrShape)
		checkTold(t, "no Weight of one", saying(way, nil, 4), api.ErrShape)
		checkTold(t, "11 Weights of twelve", saying(way, ones(11), make([]int, 12)...), api.ErrShape)
		checkTold(t, "13 Weights of twelve", saying(way, ones(13), make([]int, 12)...), api.ErrShape)
		checkTold(t, "Weights without trees", saying(way, ones(3)), api.ErrNone)
	}
}

func TestWeights(t *testing.T) {
	for place := range 3 {
		for _, c := range []struct {
			weight int
			want   api.Errno
		}{
			{least, api.ErrRange}, {least + 1, api.ErrRange}, {gone, api.ErrRange}, {-1001, api.ErrRange}, {-1000, api.ErrRange},
			{-2, api.ErrRange}, {-1, api.ErrRange}, {0, api.ErrRange}, {1, none}, {2, none}, {999, none}, {1000, none},
			{1001, api.ErrRange}, {1 << 32, api.ErrRange}, {great - 1, api.ErrRange}, {great, api.ErrRange},
		} {
			for _, way := range ways() {
				g := changed(three(way), func(g *api.Grove) { g.Weights[place] = c.weight })
				checkTold(t, fmt.Sprint("Weight ", c.weight, " at ", place), g, c.want)
			}
		}
	}
}

// fault of a tree, and what chapter 4 tells of it where features are three.
type fault struct {
	name string
	tree nodes
	want api.Errno
}

func faults() []fault {
	return []fault{
		{"64 nodes", even(64), api.ErrFull},
		{"no nodes", nil, api.ErrNone},
		{"an empty list of nodes", nodes{}, api.ErrNone},
		{"a Value beyond", says(end + 1), api.ErrRange},
		{"a Value beyond, below 0", says(-end - 1), api.ErrRange},
		{"a Cut beyond", small(0, end+1, 1, 2), api.ErrRange},
		{"a Feature below", small(-2, 0, 1, 2), api.ErrRange},
		{"a Feature beyond", small(3, 0, 1, 2), api.ErrRange},
		{"a Feature far beyond", small(great, 0, 1, 2), api.ErrRange},
		{"a Left that is not behind", nodes{ask(0, 0, 0, 1), leaf(1)}, api.ErrRange},
		{"a leaf with a Cut", nodes{{Feature: api.Leaf, Cut: 1}}, api.ErrShape},
		{"Left that is Right", nodes{ask(0, 0, 1, 1), leaf(1)}, api.ErrShape},
		{"a leaf that is nobody's", append(small(0, 0, 1, 2), leaf(3)), api.ErrClash},
		{"too deep", chain(11), api.ErrFull},
	}
}

// TestTrees lays each fault at each place, all other trees being right.
func TestTrees(t *testing.T) {
	for _, f := range faults() {
		for place := range 3 {
			for _, way := range ways() {
				g := changed(three(way), func(g *api.Grove) { g.Trees[place] = f.tree })
				checkTold(t, fmt.Sprint(f.name, " at ", place), g, f.want)
			}
		}
		many := wood(3, api.Vote, ones(12), slices.Repeat([]nodes{says(1)}, 12)...)
		for place := range 12 {
			checkTold(t, fmt.Sprint(f.name, " at ", place, " of twelve"), changed(many, func(g *api.Grove) { g.Trees[place] = f.tree }), f.want)
		}
		checkTold(t, f.name+" alone", wood(3, api.Sum, ones(1), f.tree), f.want)
	}
}

// TestFirstTree: of several trees that are wrong, the first one's fault is told.
func TestFirstTree(t *testing.T) {
	for _, f := range faults() {
		for _, other := range faults() {
			for place := range 2 {
				g := changed(three(api.Sum), func(g *api.Grove) {
					g.Trees[place] = f.tree
					g.Trees[place+1] = other.tree
				})
				checkTold(t, fmt.Sprint(f.name, " at ", place, ", then ", other.name), g, f.want)
			}
		}
	}
}

// TestFeatureAsked: each tree asks for a feature, which must be one of the grove's, whatever the row has.
func TestFeatureAsked(t *testing.T) {
	for asked := range 8 {
		for features := range 9 {
			want := none
			if asked >= features {
				want = api.ErrRange
			}
			for place := range 3 {
				g := wood(features, api.Mean, ones(3), says(1), says(2), says(3))
				g.Trees[place] = small(asked, 0, 1, 2)
				name := fmt.Sprint("feature ", asked, " of ", features, " at ", place)
				checkTold(t, name, g, want)
				if want != none {
					checkRow(t, name+", a row that has it", g, make([]int, 8), want)
				}
			}
		}
	}
}

// flaw is something that is wrong with a grove, and after how many others it is told.
type flaw struct {
	name   string
	change func(g *api.Grove)
	want   api.Errno
	rank   int
}

// flaws in the order in which they are told; what comes later leaves the ones ahead as they are.
func flaws() []flaw {
	l := []flaw{
		{"Features -1", func(g *api.Grove) { g.Features = -1 }, api.ErrRange, 0},
		{"Features 9", func(g *api.Grove) { g.Features = 9 }, api.ErrRange, 0},
		{"Way 0", func(g *api.Grove) { g.Way = 0 }, api.ErrRange, 1},
		{"Way 4", func(g *api.Grove) { g.Way = 4 }, api.ErrRange, 1},
		{"no trees", func(g *api.Grove) { g.Trees = nil }, api.ErrNone, 2},
		{"13 trees", func(g *api.Grove) {
			g.Trees = slices.Repeat([]nodes{says(1)}, 13)
			g.Weights = ones(13)
		}, api.ErrFull, 2},
		{"a Weight too few", func(g *api.Grove) { g.Weights = slices.Clone(g.Weights[1:]) }, api.ErrShape, 3},
		{"a Weight too many", func(g *api.Grove) { g.Weights = append(g.Weights, 1) }, api.ErrShape, 3},
		{"the first Weight 0", func(g *api.Grove) { g.Weights[0] = 0 }, api.ErrRange, 4},
		{"the last Weight 1001", func(g *api.Grove) { g.Weights[len(g.Weights)-1] = 1001 }, api.ErrRange, 4},
	}
	for _, f := range faults() {
		for _, last := range []bool{false, true} {
			l = append(l, flaw{fmt.Sprint(f.name, ", the last one: ", last), func(g *api.Grove) {
				switch {
				case len(g.Trees) == 0:
				case last:
					g.Trees[len(g.Trees)-1] = f.tree
				default:
					g.Trees[0] = f.tree
				}
			}, f.want, 5})
		}
	}
	return l
}

// TestWhichIsFirst lays each two flaws that can meet, and each three.
func TestWhichIsFirst(t *testing.T) {
	l := flaws()
	for i, a := range l {
		checkTold(t, a.name, changed(three(api.Sum), a.change), a.want)
		for j, b := range l[i+1:] {
			if a.rank == b.rank {
				continue
			}
			g := changed(three(api.Sum), func(g *api.Grove) {
				a.change(g)
				b.change(g)
			})
			checkTold(t, a.name+"; "+b.name, g, a.want)
			for _, c := range l[i+j+2:] {
				if b.rank != c.rank {
					checkTold(t, a.name+"; "+b.name+"; "+c.name, changed(g, c.change), a.want)
				}
			}
		}
	}
}

// rowsOfThree gives rows, and what each tree of three says of them.
func rowsOfThree() []struct {
	row  []int
	want []int
} {
	return []struct {
		row  []int
		want []int
	}{
		{[]int{0, 0, 0}, []int{-7, 30, 6}},
		{[]int{4, -1, -6}, []int{-7, 10, 6}},
		{[]int{5, -1, -5}, []int{9, 20, 6}},
		{[]int{gone, -1, gone}, []int{9, 10, 6}},
		{[]int{gone, gone, gone}, []int{9, 30, 6}},
		{[]int{-end, -end, -end}, []int{-7, 10, 6}},
		{[]int{end, end, end}, []int{9, 30, 6}},
		{[]int{-end, -end, end}, []int{-7, 20, 6}},
	}
}

func TestEach(t *testing.T) {
	for _, c := range rowsOfThree() {
		for _, way := range ways() {
			g := three(way)
			if l, err := grove.Each(g, c.row); !slices.Equal(l, c.want) || err != nil {
				t.Errorf("Each of %v = %v, %v, want %v", c.row, l, err, c.want)
			}
			for i, n := range g.Trees {
				alone := wood(3, way, []int{1000}, n)
				if l, err := grove.Each(alone, c.row); !slices.Equal(l, c.want[i:i+1]) || err != nil {
					t.Errorf("tree %d: Each of %v = %v, %v, want %d", i, c.row, l, err, c.want[i])
				}
			}
		}
	}
	// Weights are none of its concern, nor is what others say.
	same := saying(api.Vote, []int{1, 1000, 5}, 3, -3, 3)
	if l, err := grove.Each(same, nil); !slices.Equal(l, []int{3, -3, 3}) || err != nil {
		t.Errorf("Each = %v, %v", l, err)
	}
}

// checkEval holds Eval of a row to a number.
func checkEval(t *testing.T, name string, g api.Grove, r []int, want int) {
	t.Helper()
	if v, err := grove.Eval(g, r); v != want || err != nil {
		t.Errorf("%s: Eval of %v = %d, %v, want %d", name, r, v, err, want)
	}
}

func TestEval(t *testing.T) {
	for _, c := range []struct {
		row             []int
		sum, mean, vote int
	}{
		// Weights 2, 3, 4: so the third tree has most of the votes.
		{[]int{0, 0, 0}, -14 + 90 + 24, 11, 6},
		{[]int{4, -1, -6}, -14 + 30 + 24, 4, 6},
		{[]int{5, -1, -5}, 18 + 60 + 24, 11, 6},
		{[]int{gone, -1, gone}, 18 + 30 + 24, 8, 6},
		{[]int{gone, gone, gone}, 18 + 90 + 24, 14, 6},
	} {
		checkEval(t, "Sum", three(api.Sum), c.row, c.sum)
		checkEval(t, "Mean", three(api.Mean), c.row, c.mean)
		checkEval(t, "Vote", three(api.Vote), c.row, c.vote)
	}
}

func TestSum(t *testing.T) {
	for _, c := range []struct {
		weights, values []int
		want            int
	}{
		{[]int{1}, []int{7}, 7},
		{[]int{3}, []int{7}, 21},
		{[]int{3}, []int{-7}, -21},
		{[]int{1000}, []int{0}, 0},
		{[]int{1, 1}, []int{7, 8}, 15},
		{[]int{5, 5}, []int{7, 8}, 75},
		{[]int{2, 5}, []int{7, -8}, -26},
		{[]int{5, 2}, []int{7, -8}, 19},
		{[]int{1, 2, 3}, []int{4, 4, 4}, 24},
		{[]int{1000, 1000}, []int{end, -end}, 0},
		{[]int{1000, 999}, []int{end, -end}, end},
		{[]int{999, 1000}, []int{end, -end}, -end},
		{[]int{1000}, []int{end}, 1_000_000_000},
		{[]int{1000}, []int{-end}, -1_000_000_000},
	} {
		checkEval(t, fmt.Sprint(c), saying(api.Sum, c.weights, c.values...), nil, c.want)
	}
}

// TestEnds: at the greatest Values and Weights nothing is cut off.
func TestEnds(t *testing.T) {
	weights := slices.Repeat([]int{1000}, 12)
	high, low := slices.Repeat([]int{end}, 12), slices.Repeat([]int{-end}, 12)
	checkEval(t, "Sum, above", saying(api.Sum, weights, high...), nil, 12_000_000_000)
	checkEval(t, "Sum, below", saying(api.Sum, weights, low...), nil, -12_000_000_000)
	checkEval(t, "Mean, above", saying(api.Mean, weights, high...), nil, end)
	checkEval(t, "Mean, below", saying(api.Mean, weights, low...), nil, -end)
	checkEval(t, "Vote, above", saying(api.Vote, weights, high...), nil, end)
	checkEval(t, "Vote, below", saying(api.Vote, weights, low...), nil, -end)
	checkEval(t, "Mean, above less one", saying(api.Mean, weights, with(high, 11, end-1)...), nil, end-1)
	checkEval(t, "Mean, below and one", saying(api.Mean, weights, with(low, 0, -end+1)...), nil, -end)
}

func TestMean(t *testing.T) {
	for _, c := range []struct {
		weights, values []int
		want            int
	}{
		{[]int{1}, []int{7}, 7},
		{[]int{1000}, []int{7}, 7},
		{[]int{3}, []int{-7}, -7},
		{[]int{1000}, []int{-end}, -end},
		{[]int{1, 1}, []int{1, 2}, 1},
		{[]int{1, 1}, []int{-1, -2}, -2},
		{[]int{1, 1}, []int{-1, -3}, -2},
		{[]int{1, 1}, []int{-1, 0}, -1},
		{[]int{1, 1}, []int{1, 0}, 0},
		{[]int{1, 1}, []int{5, -5}, 0},
		{[]int{1, 1}, []int{5, -6}, -1},
		{[]int{1, 1, 1}, []int{-1, 0, 0}, -1},
		{[]int{1, 1, 1}, []int{-1, -1, 0}, -1},
		{[]int{1, 1, 1}, []int{-1, -1, -1}, -1},
		{[]int{1, 1, 1}, []int{-1, -1, -2}, -2},
		{[]int{1, 1, 1}, []int{1, 1, 0}, 0},
		{[]int{1, 3}, []int{1, 2}, 1},
		{[]int{3, 1}, []int{-1, -2}, -2},
		{[]int{999, 1}, []int{0, -1}, -1},
		{[]int{999, 1}, []int{0, 1}, 0},
		{[]int{1000, 1}, []int{10, -end}, -990},
		{[]int{2, 2}, []int{1, 2}, 1},
		{[]int{2, 4, 6}, []int{1, 2, 3}, 2},
		{ones(12), []int{1, 2, 3, 4, 5, 6, 7, 8, 9, 10, 11, 12}, 6},
		{ones(12), []int{-1, -2, -3, -4, -5, -6, -7, -8, -9, -10, -11, -12}, -7},
		{with(ones(12), 11, 1000), []int{0, 0, 0, 0, 0, 0, 0, 0, 0, 0, 0, 1011}, 1000},
		{with(ones(12), 11, 1000), []int{0, 0, 0, 0, 0, 0, 0, 0, 0, 0, 0, 1010}, 999},
	} {
		checkEval(t, fmt.Sprint(c), saying(api.Mean, c.weights, c.values...), nil, c.want)
	}
}

func TestVote(t *testing.T) {
	for _, c := range []struct {
		name            string
		weights, values []int
		want            int
	}{
		{"one tree", []int{1}, []int{7}, 7},
		{"one tree of much Weight", []int{1000}, []int{-7}, -7},
		{"the first has most", []int{3, 2, 1}, []int{7, 8, 9}, 7},
		{"the middle has most", []int{2, 3, 1}, []int{7, 8, 9}, 8},
		{"the last has most", []int{1, 2, 3}, []int{7, 8, 9}, 9},
		{"most Weight, not most trees", []int{5, 2, 2}, []int{7, 8, 8}, 7},
		{"most Weight, not most trees, the least one against", []int{2, 2, 5}, []int{7, 7, 8}, 8},
		{"two together", []int{4, 3, 2}, []int{7, 8, 8}, 8},
		{"two together, apart", []int{3, 4, 2}, []int{8, 7, 8}, 8},
		{"three together", []int{5, 2, 2, 2}, []int{1, 2, 2, 2}, 2},
		{"three together, by one", []int{1000, 333, 333, 335}, []int{1, 9, 9, 9}, 9},
		{"two of two together", []int{2, 2, 1, 2}, []int{1, 2, 1, 2}, 2},
		{"two equal", []int{1, 1}, []int{8, 7}, 7},
		{"two equal, the least first", []int{1, 1}, []int{7, 8}, 7},
		{"two equal, one of two trees", []int{2, 1, 1}, []int{7, 8, 8}, 7},
		{"two equal, the least of two trees", []int{2, 1, 1}, []int{8, 7, 7}, 7},
		{"two equal, and a lesser one with less Weight", []int{1, 2, 2}, []int{6, 8, 7}, 7},
		{"two equal, and a greater one with less Weight", []int{2, 2, 1}, []int{8, 7, 9}, 7},
		{"three equal", []int{4, 4, 4}, []int{9, 7, 8}, 7},
		{"three equal, rising", []int{4, 4, 4}, []int{7, 8, 9}, 7},
		{"three equal, falling", []int{4, 4, 4}, []int{9, 8, 7}, 7},
		{"three equal, some of many trees", []int{4, 1, 2, 3, 2}, []int{9, 7, 8, 7, 8}, 7},
		{"below 0, the first has most", []int{2, 1}, []int{-1, -2}, -1},
		{"below 0, two equal", []int{1, 1}, []int{-1, -2}, -2},
		{"below and above 0, two equal", []int{1, 1}, []int{1, -2}, -2},
		{"below 0 and 0, two equal", []int{1, 1}, []int{0, -end}, -end},
		{"0 and above, two equal", []int{1, 1}, []int{end, 0}, 0},
		{"0 has most", []int{1, 2}, []int{-5, 0}, 0},
		{"0 has least", []int{2, 1}, []int{5, 0}, 5},
		{"above 0 alone, no vote of 0", []int{1, 1}, []int{5, 6}, 5},
		{"the ends, the greater has most", []int{999, 1000}, []int{-end, end}, end},
		{"the ends, equal", []int{1000, 1000}, []int{end, -end}, -end},
		{"twelve that differ", ones(12), []int{12, 11, 10, 9, 8, 7, 6, 5, 4, 3, 2, 1}, 1},
		{"twelve, two of them the same", ones(12), []int{12, 11, 10, 9, 8, 7, 6, 5, 12, 3, 2, 1}, 12},
	} {
		checkEval(t, c.name, saying(api.Vote, c.weights, c.values...), nil, c.want)
		// Turned round, it is the same.
		slices.Reverse(c.weights)
		slices.Reverse(c.values)
		checkEval(t, c.name+", turned round", saying(api.Vote, c.weights, c.values...), nil, c.want)
	}
}

// eachOrder gives all orders of so many places.
func eachOrder(count int, do func(order []int)) {
	order := make([]int, 0, count)
	var lay func()
	lay = func() {
		if len(order) == count {
			do(order)
			return
		}
		for i := range count {
			if !slices.Contains(order, i) {
				order = append(order, i)
				lay()
				order = order[:len(order)-1]
			}
		}
	}
	lay()
}

// TestOrders: in whatever order the trees stand, Eval and Bounds are the same, and Each is in theirs.
func TestOrders(t *testing.T) {
	weights, values := []int{3, 1, 4, 2, 5}, []int{-1, 6, 2, 6, -3}
	tests := []struct{ way, want int }{{api.Sum, 8}, {api.Mean, 0}, {api.Vote, -3}}
	eachOrder(5, func(order []int) {
		w, v := make([]int, 5), make([]int, 5)
		for i, from := range order {
			w[i], v[i] = weights[from], values[from]
		}
		for _, c := range tests {
			g := saying(c.way, w, v...)
			checkEval(t, fmt.Sprint(order), g, nil, c.want)
			if l, err := grove.Each(g, nil); !slices.Equal(l, v) || err != nil {
				t.Errorf("%v: Each = %v, %v, want %v", order, l, err, v)
			}
		}
	})
}

// TestRows: what is wrong with a grove is told ahead of what is wrong with the row, and that ahead of how many cells it has.
func TestRows(t *testing.T) {
	bad := []struct {
		row  []int
		want api.Errno
	}{
		{nil, api.ErrShape},
		{[]int{}, api.ErrShape},
		{[]int{1}, api.ErrShape},
		{[]int{1, 2}, api.ErrShape},
		{[]int{gone, gone}, api.ErrShape},
		{[]int{1, 2, 3, 4}, api.ErrShape},
		{make([]int, 8), api.ErrShape},
		{make([]int, 9), api.ErrFull},
		{make([]int, 100000), api.ErrFull},
		{slices.Repeat([]int{great}, 9), api.ErrFull},
		{[]int{end + 1, 2, 3}, api.ErrRange},
		{[]int{1, -end - 1, 3}, api.ErrRange},
		{[]int{1, 2, gone + 1}, api.ErrRange},
		{[]int{1, 2, gone - 1}, api.ErrRange},
		{[]int{least, 2, 3}, api.ErrRange},
		{[]int{1, 2, great}, api.ErrRange},
		{[]int{great}, api.ErrRange},
		{[]int{1, 2, 3, great}, api.ErrRange},
		{slices.Repeat([]int{great}, 8), api.ErrRange},
	}
	for _, way := range ways() {
		for _, c := range bad {
			checkRow(t, "three features", three(way), c.row, c.want)
			for _, f := range flaws() {
				checkRow(t, f.name, changed(three(way), f.change), c.row, f.want)
			}
		}
		// A grove that asks nothing takes no other rows for that.
		for features := range 9 {
			for cells := range 9 {
				want := none
				if cells != features {
					want = api.ErrShape
				}
				checkRow(t, fmt.Sprint(features, " features"), wood(features, way, ones(1), says(4)), make([]int, cells), want)
			}
			checkRow(t, fmt.Sprint(features, " features"), wood(features, way, ones(1), says(4)), make([]int, 9), api.ErrFull)
		}
	}
}

// checkBounds holds Bounds to two numbers.
func checkBounds(t *testing.T, name string, g api.Grove, low, high int) {
	t.Helper()
	if l, h, err := grove.Bounds(g); l != low || h != high || err != nil {
		t.Errorf("%s: Bounds = %d, %d, %v, want %d, %d", name, l, h, err, low, high)
	}
}

func TestBounds(t *testing.T) {
	// No row is below 0 and not below 5, so none comes to -50 or to 70, but they bound it.
	shut := nodes{ask(0, 0, 1, 4), ask(0, 5, 2, 3), leaf(1), leaf(70), ask(0, 0, 5, 6), leaf(-50), leaf(2)}
	if l, err := path.Reach(shut, 1); !slices.Equal(l, []int{2, 6}) || err != nil {
		t.Fatalf("to %v, %v rows come", l, err)
	}
	for _, c := range []struct {
		name                                                  string
		weights                                               []int
		trees                                                 []nodes
		sumLow, sumHigh, meanLow, meanHigh, voteLow, voteHigh int
	}{
		{"one leaf", []int{1}, []nodes{says(7)}, 7, 7, 7, 7, 7, 7},
		{"one leaf of Weight 5", []int{5}, []nodes{says(7)}, 35, 35, 7, 7, 7, 7},
		{"one leaf below 0", []int{3}, []nodes{says(-7)}, -21, -21, -7, -7, -7, -7},
		{"a leaf at the low end", []int{1000}, []nodes{says(-end)}, -1000 * end, -1000 * end, -end, -end, -end, -end},
		{"a leaf at the high end", []int{1000}, []nodes{says(end)}, 1000 * end, 1000 * end, end, end, end, end},
		{"one question, rising", []int{2}, []nodes{small(0, 0, -7, 9)}, -14, 18, -7, 9, -7, 9},
		{"one question, falling", []int{2}, []nodes{small(0, 0, 9, -7)}, -14, 18, -7, 9, -7, 9},
		{"above 0 alone", []int{2}, []nodes{small(0, 0, 9, 8)}, 16, 18, 8, 9, 8, 9},
		{"below 0 alone", []int{2}, []nodes{small(0, 0, -9, -8)}, -18, -16, -9, -8, -9, -8},
		{"the ends", []int{1}, []nodes{small(0, 0, -end, end)}, -end, end, -end, end, -end, end},
		{"many leaves", []int{3}, []nodes{even(63)}, 93, 186, 31, 62, 31, 62},
		{"leaves of no row", []int{1}, []nodes{shut}, -50, 70, -50, 70, -50, 70},
		{"leaves of no row, and another", []int{1, 3}, []nodes{shut, small(0, 3, 4, -1)}, -53, 82, -14, 20, -50, 70},
		{"rounded down at both ends", []int{1, 1}, []nodes{small(0, 0, -4, 2), small(0, 0, 3, -1)}, -5, 5, -3, 2, -4, 3},
		{"one tree against much Weight", []int{1, 1000, 1000}, []nodes{small(0, 0, -9, 9), says(1), says(2)}, 2991, 3009, 1, 1, -9, 9},
		{"the least and the greatest in two trees", []int{1, 2, 3}, []nodes{small(0, 0, 4, 5), small(0, 0, -6, 0), small(0, 0, 1, 8)}, -5, 29, -1, 4, -6, 8},
		{"votes of the least would win otherwise", []int{1, 1, 1}, []nodes{small(0, 0, 0, 5), small(0, 0, 1, 5), small(0, 0, 1, 6)}, 2, 16, 0, 5, 0, 6},
		{"twelve", ones(12), slices.Repeat([]nodes{small(0, 0, -1, 2)}, 12), -12, 24, -1, 2, -1, 2},
	} {
		checkBounds(t, c.name+", Sum", wood(8, api.Sum, c.weights, c.trees...), c.sumLow, c.sumHigh)
		checkBounds(t, c.name+", Mean", wood(8, api.Mean, c.weights, c.trees...), c.meanLow, c.meanHigh)
		checkBounds(t, c.name+", Vote", wood(8, api.Vote, c.weights, c.trees...), c.voteLow, c.voteHigh)
	}
	most := slices.Repeat([]int{1000}, 12)
	wide := slices.Repeat([]nodes{small(0, 0, end, -end)}, 12)
	checkBounds(t, "the widest, Sum", wood(1, api.Sum, most, wide...), -12_000_000_000, 12_000_000_000)
	checkBounds(t, "the widest, Mean", wood(1, api.Mean, most, wide...), -end, end)
	checkBounds(t, "the widest, Vote", wood(1, api.Vote, most, wide...), -end, end)
}

// plainCheck tells what is wrong with a grove, word by word.
func plainCheck(g api.Grove) api.Errno {
	switch {
	case g.Features < 0, g.Features > 8, !slices.Contains([]int{1, 2, 3}, g.Way):
		return api.ErrRange
	case len(g.Trees) == 0:
		return api.ErrNone
	case len(g.Trees) > 12:
		return api.ErrFull
	case len(g.Trees) != len(g.Weights):
		return api.ErrShape
	case slices.ContainsFunc(g.Weights, func(w int) bool { return w <= 0 || w > 1000 }):
		return api.ErrRange
	}
	for _, n := range g.Trees {
		if _, err := tree.Check(n, g.Features); err != nil {
			return told(err)
		}
	}
	return none
}

// plainTogether works out what a grove says if its trees say these values.
func plainTogether(g api.Grove, values []int) int {
	sum, all := new(big.Int), new(big.Int)
	for i, v := range values {
		sum.Add(sum, new(big.Int).Mul(big.NewInt(int64(v)), big.NewInt(int64(g.Weights[i]))))
		all.Add(all, big.NewInt(int64(g.Weights[i])))
	}
	switch g.Way {
	case 1:
		return int(sum.Int64())
	case 2:
		// Div leaves a rest that is not below 0, so it rounds down.
		return int(sum.Div(sum, all).Int64())
	}
	best, most := 0, 0
	for _, v := range slices.Sorted(slices.Values(values)) {
		votes := 0
		for i, other := range values {
			if other == v {
				votes += g.Weights[i]
			}
		}
		if votes > most {
			best, most = v, votes
		}
	}
	return best
}

// plainBounds works Bounds out of all leaves.
func plainBounds(g api.Grove) (low, high int) {
	var lows, highs, all []int
	for _, n := range g.Trees {
		var l []int
		for _, x := range n {
			if x.Feature == -1 {
				l = append(l, x.Value)
			}
		}
		slices.Sort(l)
		lows, highs, all = append(lows, l[0]), append(highs, l[len(l)-1]), append(all, l...)
	}
	if g.Way == 3 {
		slices.Sort(all)
		return all[0], all[len(all)-1]
	}
	return plainTogether(g, lows), plainTogether(g, highs)
}

// checkPlain holds Each, Eval and Bounds of a grove that is right to what the chapter says, and Eval to be between Bounds.
func checkPlain(t *testing.T, g api.Grove, r []int) {
	t.Helper()
	var want []int
	for _, n := range g.Trees {
		v, err := tree.Eval(n, r)
		if err != nil {
			t.Fatal(err)
		}
		want = append(want, v)
	}
	if l, err := grove.Each(g, r); !slices.Equal(l, want) || err != nil {
		t.Errorf("Each of %v = %v, %v, want %v", r, l, err, want)
	}
	value := plainTogether(g, want)
	checkEval(t, "plain", g, r, value)
	low, high := plainBounds(g)
	checkBounds(t, "plain", g, low, high)
	if value < low || value > high {
		t.Errorf("%d of %v is not between %d and %d", value, r, low, high)
	}
}

// TestAgainstPlain holds groves that are right, and such as are spoiled, against what the chapter says word by word.
func TestAgainstPlain(t *testing.T) {
	var s noise = 6
	seen := map[api.Errno]int{}
	for range 20000 {
		g := s.grove()
		for range s.below(4) {
			s.spoil(&g)
		}
		want := plainCheck(g)
		seen[want]++
		if err := grove.Check(g); told(err) != want {
			t.Errorf("Check = %v, want %v", err, want)
		}
		r := s.cells(s.below(10))
		switch {
		case want == none && len(r) > 8:
			checkRow(t, "too long", g, r, api.ErrFull)
		case want == none && len(r) != g.Features:
			checkRow(t, "of another length", g, r, api.ErrShape)
		default:
			checkRow(t, "any", g, r, want)
		}
		if want == none {
			for range 3 {
				checkPlain(t, g, s.cells(g.Features))
			}
		} else {
			checkTold(t, "spoiled", g, want)
		}
		if t.Failed() {
			t.Fatalf("grove %v, row %v", g, r)
		}
	}
	for _, e := range []api.Errno{none, api.ErrRange, api.ErrShape, api.ErrNone, api.ErrFull} {
		if seen[e] < 100 {
			t.Errorf("only %d groves come to %v", seen[e], e)
		}
	}
}

// TestFewValues tries all groves of up to four trees that say one of some values, with some Weights.
func TestFewValues(t *testing.T) {
	kinds := []struct{ weight, value int }{{1, -2}, {2, -2}, {1, -1}, {2, -1}, {3, -1}, {1, 0}, {2, 1}, {3, 1}}
	var weights, values []int
	var lay func(left int)
	lay = func(left int) {
		if len(values) > 0 {
			for _, way := range ways() {
				g := saying(way, weights, values...)
				want := plainTogether(g, values)
				checkEval(t, fmt.Sprint(g), g, nil, want)
			}
		}
		if left == 0 || t.Failed() {
			return
		}
		for _, k := range kinds {
			weights, values = append(weights, k.weight), append(values, k.value)
			lay(left - 1)
			weights, values = weights[:len(weights)-1], values[:len(values)-1]
		}
	}
	lay(4)
}

// TestTogether holds Together to what a grove of leaves says that has these values, and to its faults.
func TestTogether(t *testing.T) {
	var s noise = 67
	for range 5000 {
		way := s.below(5)
		weights, values := make([]int, s.below(15)), make([]int, s.below(15))
		if s.below(3) > 0 {
			weights = make([]int, len(values))
		}
		for i := range weights {
			weights[i] = s.weight()
		}
		for i := range values {
			values[i] = s.value()
		}
		if len(weights) > 0 && s.below(4) == 0 {
			weights[s.below(len(weights))] = []int{least, -1, 0, 1001, great}[s.below(5)]
		}
		wasWeights, wasValues := slices.Clone(weights), slices.Clone(values)
		g := saying(way, weights, values...)
		wrong := plainCheck(g)
		want := 0
		if wrong == none {
			want = plainTogether(g, values)
		}
		if v, err := grove.Together(way, weights, values); v != want || told(err) != wrong {
			t.Errorf("Together(%d, %v, %v) = %d, %v, want %d, %v", way, weights, values, v, err, want, wrong)
		}
		if !slices.Equal(weights, wasWeights) || !slices.Equal(values, wasValues) {
			t.Errorf("%v or %v was written into", wasWeights, wasValues)
		}
	}
	// Values that no leaf may have stay within what numbers may be.
	for _, way := range ways() {
		for _, v := range []int{least, great} {
			if _, err := grove.Together(way, []int{1000, 1000}, []int{v, v}); err != nil {
				t.Errorf("Together(%d) of %d = %v", way, v, err)
			}
		}
	}
}

// joined gives the trees of a, then of b.
func joined(a, b api.Grove) api.Grove {
	g := copied(a)
	other := copied(b)
	g.Weights = append(g.Weights, other.Weights...)
	g.Trees = append(g.Trees, other.Trees...)
	return g
}

// checkJoined holds Join of two that go together to all trees of both.
func checkJoined(t *testing.T, name string, a, b api.Grove) {
	t.Helper()
	g, err := grove.Join(a, b)
	if want := joined(a, b); !reflect.DeepEqual(g, want) || err != nil {
		t.Errorf("%s: Join = %v, %v, want %v", name, g, err, want)
	}
	if err := grove.Check(g); err != nil {
		t.Errorf("%s: Check of what Join gave = %v", name, err)
	}
}

// numbered lays a grove of so many trees that differ.
func numbered(features, way, count, from int) api.Grove {
	g := wood(features, way, nil)
	for i := range count {
		g.Weights = append(g.Weights, from+i)
		g.Trees = append(g.Trees, says(100+from+i))
	}
	return g
}

func TestJoin(t *testing.T) {
	for _, way := range ways() {
		checkJoined(t, "three and one", three(way), numbered(3, way, 1, 50))
		checkJoined(t, "one and three", numbered(3, way, 1, 50), three(way))
		checkJoined(t, "three with itself", three(way), three(way))
		for features := range 9 {
			checkJoined(t, fmt.Sprint(features, " features"), numbered(features, way, 2, 1), numbered(features, way, 3, 20))
		}
		for a := 1; a <= 12; a++ {
			for b := 1; b <= 12; b++ {
				first, second := numbered(3, way, a, 1), numbered(3, way, b, 20)
				if a+b <= 12 {
					checkJoined(t, fmt.Sprint(a, " and ", b), first, second)
				} else {
					checkJoin(t, fmt.Sprint(a, " and ", b), first, second, api.ErrFull)
				}
			}
		}
	}
	g := three(api.Mean)
	checkJoined(t, "one grove and itself", g, g)
	six, err := grove.Join(g, g)
	if err != nil {
		t.Fatal(err)
	}
	checkJoined(t, "six with itself", six, six)
	checkJoin(t, "six and seven", six, numbered(3, api.Mean, 7, 1), api.ErrFull)
}

func TestJoinOfOthers(t *testing.T) {
	for _, way := range ways() {
		for _, other := range ways() {
			for features := range 9 {
				a, b := numbered(features, way, 2, 1), numbered(3, other, 3, 1)
				full := numbered(features, way, 12, 1)
				want, wantFull := api.ErrShape, api.ErrShape
				if way == other && features == 3 {
					want, wantFull = none, api.ErrFull
				}
				name := fmt.Sprint("Way ", way, " and ", other, ", ", features, " features and 3")
				checkJoin(t, name, a, b, want)
				checkJoin(t, name+", turned round", b, a, want)
				checkJoin(t, name+", too many", full, b, wantFull)
				checkJoin(t, name+", too many, turned round", b, full, wantFull)
			}
		}
	}
}

// TestJoinOfWrong: what is wrong with a is told ahead of what is wrong with b, and that ahead of whether they go together and of how many there are.
func TestJoinOfWrong(t *testing.T) {
	right := []api.Grove{three(api.Sum), three(api.Vote), numbered(0, api.Sum, 1, 1), numbered(3, api.Sum, 12, 1), numbered(7, api.Mean, 12, 1)}
	for _, f := range flaws() {
		wrong := changed(three(api.Sum), f.change)
		for _, g := range right {
			checkJoin(t, f.name+", a", wrong, g, f.want)
			checkJoin(t, f.name+", b", g, wrong, f.want)
		}
		for _, other := range flaws() {
			checkJoin(t, f.name+", then "+other.name, wrong, changed(three(api.Mean), other.change), f.want)
		}
	}
}

// TestJoinTells: what Join gave says of a row what both say, in the order of a and b.
func TestJoinTells(t *testing.T) {
	var s noise = 66
	for tried := 0; tried < 2000; {
		a, b := s.grove(), s.grove()
		if len(a.Trees)+len(b.Trees) > 12 {
			continue
		}
		a.Features, b.Features, b.Way = 8, 8, a.Way
		if plainCheck(a) != none || plainCheck(b) != none {
			continue
		}
		tried++
		checkJoined(t, "any two", a, b)
		g, err := grove.Join(a, b)
		if err != nil {
			t.Fatal(err)
		}
		r := s.cells(8)
		checkPlain(t, g, r)
		first, err1 := grove.Each(a, r)
		second, err2 := grove.Each(b, r)
		if l, err := grove.Each(g, r); !slices.Equal(l, slices.Concat(first, second)) || err1 != nil || err2 != nil || err != nil {
			t.Errorf("Each of %v = %v, %v, of both %v and %v", r, l, err, first, second)
		}
		if t.Failed() {
			t.Fatalf("groves %v and %v, row %v", a, b, r)
		}
	}
}

// guarded gives a list with memory behind its length, and all of that memory.
func guarded[T any](l []T, behind T) (list, all []T) {
	all = append(slices.Clone(l), slices.Repeat([]T{behind}, 8)...)
	return all[:len(l)], all
}

// guardedGrove gives a grove all of whose lists have memory behind them that would be wrong, and a call that tells whether all of it is as it was.
func guardedGrove(g api.Grove) (api.Grove, func() bool) {
	var all, was []nodes
	lists := make([]nodes, len(g.Trees))
	for i, n := range g.Trees {
		var memory nodes
		lists[i], memory = guarded(n, leaf(great))
		all, was = append(all, memory), append(was, slices.Clone(memory))
	}
	weights, allWeights := guarded(g.Weights, least)
	wasWeights := slices.Clone(allWeights)
	trees, allTrees := guarded(lists, says(great))
	g.Weights, g.Trees = weights, trees
	stays := func() bool {
		for i, n := range allTrees {
			if i < len(lists) && (len(n) != len(lists[i]) || len(n) > 0 && &n[0] != &lists[i][0]) {
				return false
			}
			if i >= len(lists) && !slices.Equal(n, says(great)) {
				return false
			}
		}
		return slices.Equal(allWeights, wasWeights) && slices.EqualFunc(all, was, slices.Equal[nodes])
	}
	return g, stays
}

// TestListsStay: what is handed in, and what stands behind it, is as it was, and what stands behind it is not read.
func TestListsStay(t *testing.T) {
	groves := []api.Grove{{}, saying(api.Sum, ones(1), 1), wood(8, api.Vote, ones(12), slices.Repeat([]nodes{even(63)}, 12)...)}
	for _, way := range ways() {
		groves = append(groves, three(way), numbered(3, way, 9, 1))
		for _, f := range flaws() {
			groves = append(groves, changed(three(way), f.change))
		}
	}
	for _, c := range groves {
		for _, cells := range [][]int{nil, {4, gone, 3}, make([]int, 8), make([]int, 9), {great}} {
			g, stays := guardedGrove(c)
			r, all := guarded(cells, least)
			was := slices.Clone(all)
			if err := grove.Check(g); told(err) != plainCheck(c) {
				t.Errorf("Check of %v = %v, want %v", c, err, plainCheck(c))
			}
			if plainCheck(c) == none && row.Check(cells) == nil && len(cells) == c.Features {
				checkPlain(t, g, r)
			} else {
				grove.Each(g, r)
				grove.Eval(g, r)
			}
			grove.Bounds(g)
			grove.Join(g, g)
			grove.Join(g, three(api.Sum))
			grove.Join(three(api.Sum), g)
			if !stays() || !slices.Equal(all, was) {
				t.Errorf("%v or %v was written into", c, cells)
			}
		}
	}
}

// scribble writes into all the memory of a grove, also behind its lists.
func scribble(g api.Grove) {
	for _, n := range g.Trees[:cap(g.Trees)] {
		n = n[:cap(n)]
		for i := range n {
			n[i] = leaf(77)
		}
	}
	weights, trees := g.Weights[:cap(g.Weights)], g.Trees[:cap(g.Trees)]
	for i := range weights {
		weights[i] = 77
	}
	for i := range trees {
		trees[i] = says(78)
	}
}

// TestAnswersAreFresh: writing into what came out changes nothing that was handed in, nor anything that comes later.
func TestAnswersAreFresh(t *testing.T) {
	g, stays := guardedGrove(three(api.Sum))
	other, otherStays := guardedGrove(numbered(3, api.Sum, 2, 1))
	for _, c := range []struct{ a, b api.Grove }{{g, other}, {other, g}, {g, g}} {
		want := joined(c.a, c.b)
		first, err := grove.Join(c.a, c.b)
		if err != nil {
			t.Fatal(err)
		}
		again, err := grove.Join(c.a, c.b)
		if err != nil {
			t.Fatal(err)
		}
		scribble(first)
		if !stays() || !otherStays() {
			t.Errorf("what was handed in was written into by what Join gave")
		}
		if !reflect.DeepEqual(again, want) {
			t.Errorf("Join, once more = %v, want %v", again, want)
		}
	}
	r := []int{0, 0, 0}
	l, err := grove.Each(g, r)
	if err != nil {
		t.Fatal(err)
	}
	l = l[:cap(l)]
	for i := range l {
		l[i] = 77
	}
	if again, err := grove.Each(g, r); !slices.Equal(again, []int{-7, 30, 6}) || err != nil || !stays() {
		t.Errorf("Each, once more = %v, %v", again, err)
	}
}

// TestTreesOfJoinAreApart: no two trees that Join gave share memory, also where what was handed in does.
func TestTreesOfJoinAreApart(t *testing.T) {
	shared := small(0, 5, -7, 9)
	g := wood(3, api.Sum, ones(2), shared, shared)
	for place := range 4 {
		j, err := grove.Join(g, g)
		if err != nil {
			t.Fatal(err)
		}
		n := j.Trees[place][:cap(j.Trees[place])]
		for i := range n {
			n[i] = leaf(77)
		}
		for i, other := range j.Trees {
			if i != place && !slices.Equal(other, small(0, 5, -7, 9)) {
				t.Errorf("tree %d is %v, as tree %d was written into", i, other, place)
			}
		}
		if !slices.Equal(shared, small(0, 5, -7, 9)) {
			t.Errorf("what was handed in is %v", shared)
		}
	}
}

// TestJoinIsKeptFromChanges: writing into what was handed in changes nothing of what came out.
func TestJoinIsKeptFromChanges(t *testing.T) {
	a, b := three(api.Sum), numbered(3, api.Sum, 2, 1)
	want := joined(a, b)
	g, err := grove.Join(a, b)
	if err != nil {
		t.Fatal(err)
	}
	scribble(a)
	scribble(b)
	if !reflect.DeepEqual(g, want) {
		t.Errorf("what Join gave is %v, want %v", g, want)
	}
}
