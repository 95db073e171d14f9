package cut_test

import (
	"errors"
	"math"
	"slices"
	"testing"

	"orchardry/api"
	"orchardry/cut"
)

const (
	end   = api.MaxCell
	least = math.MinInt
	great = math.MaxInt
)

// none stands for an error that is nil.
const none = api.OK

// told gives what an error tells; -1, if it is none of the program's, or OK, which no error may be.
func told(err error) api.Errno {
	var e api.Errno
	switch {
	case err == nil:
		return none
	case errors.As(err, &e) && e != api.OK:
		return e
	}
	return -1
}

// run of numbers that rise: count of them, from first on, step apart.
func run(first, step, count int) []int {
	l := make([]int, count)
	for i := range l {
		l[i] = first + i*step
	}
	return l
}

// with another number at a place.
func with(l []int, place, n int) []int {
	l = slices.Clone(l)
	l[place] = n
	return l
}

// noise: numbers that look as if they had no order, the same ones each time.
type noise uint64

func (s *noise) below(n int) int {
	*s = *s*6364136223846793005 + 1442695040888963407
	return int(uint64(*s) >> 33 % uint64(n))
}

// rising cuts, fewer than most+1 of them, from low to low+span-1.
func (s *noise) rising(most, low, span int) []int {
	l := make([]int, s.below(most+1))
	for i := range l {
		l[i] = low + s.below(span)
	}
	slices.Sort(l)
	return slices.Compact(l)
}

// badCuts, and the error that Check tells first.
var badCuts = []struct {
	name string
	cuts []int
	want api.Errno
}{
	{"61", run(0, 1, 61), api.ErrFull},
	{"61 from the least one", run(-end, 1, 61), api.ErrFull},
	{"61, one of them beyond", with(run(0, 1, 61), 0, end+1), api.ErrFull},
	{"61 that fall", run(61, -1, 61), api.ErrFull},
	{"61 equal ones", make([]int, 61), api.ErrFull},
	{"1000", run(0, 1, 1000), api.ErrFull},
	{"above", []int{end + 1}, api.ErrRange},
	{"below", []int{-end - 1}, api.ErrRange},
	{"the greatest int", []int{great}, api.ErrRange},
	{"the least int", []int{least}, api.ErrRange},
	{"the last one is above", []int{1, 2, end + 1}, api.ErrRange},
	{"the 60th is above", with(run(0, 1, 60), 59, end+1), api.ErrRange},
	{"the first one is below", []int{-end - 1, 0, 1}, api.ErrRange},
	{"the last one is below, and falls", []int{1, 2, -end - 1}, api.ErrRange},
	{"the least int, behind", []int{0, least}, api.ErrRange},
	{"two that are above, and equal", []int{end + 1, end + 1}, api.ErrRange},
	{"equal ones", []int{4, 4}, api.ErrShape},
	{"equal ones at the upper end", []int{end, end}, api.ErrShape},
	{"equal ones at the lower end", []int{-end, -end}, api.ErrShape},
	{"zeros", []int{0, 0}, api.ErrShape},
	{"they fall", []int{4, 3}, api.ErrShape},
	{"they fall below 0", []int{-3, -4}, api.ErrShape},
	{"they fall from end to end", []int{end, -end}, api.ErrShape},
	{"the last ones are equal", []int{1, 2, 3, 3}, api.ErrShape},
	{"the 60th falls", with(run(0, 1, 60), 59, 57), api.ErrShape},
	{"one in the middle falls", []int{1, 5, 3, 7}, api.ErrShape},
	{"above the first one, yet it falls", []int{1, 9, 5}, api.ErrShape},
	{"it falls, then one is beyond", []int{3, 2, end + 1}, api.ErrShape},
	{"one is beyond, then it falls", []int{3, end + 1, 2}, api.ErrRange},
	{"equal, then beyond", []int{3, 3, least}, api.ErrShape},
}

// goodCuts, the edges among them.
var goodCuts = [][]int{
	nil, {}, {0}, {5}, {end}, {-end}, {end - 1}, {-end + 1},
	{-end, end}, {-end, -end + 1}, {end - 1, end}, {-end + 1, end - 1},
	{-1, 0, 1}, {-4, 0, 3, 5, 7},
	run(0, 1, 59), run(0, 1, 60), run(-end, 1, 60), run(end-59, 1, 60), run(-end, end/30, 60),
}

// badValues, and the error that is told first.
var badValues = []struct {
	name   string
	values []int
	want   api.Errno
}{
	{"1001", make([]int, 1001), api.ErrFull},
	{"1001, one of them beyond", with(make([]int, 1001), 0, end+1), api.ErrFull},
	{"5000 beyond", slices.Repeat([]int{least}, 5000), api.ErrFull},
	{"above", []int{end + 1}, api.ErrRange},
	{"below", []int{-end - 1}, api.ErrRange},
	{"the greatest int", []int{great}, api.ErrRange},
	{"the least int", []int{least}, api.ErrRange},
	{"no cell", []int{api.Nil}, api.ErrRange},
	{"the first one", []int{end + 1, 0, 0}, api.ErrRange},
	{"the last one", []int{0, 0, -end - 1}, api.ErrRange},
	{"the 1000th", with(make([]int, 1000), 999, end+1), api.ErrRange},
}

// edgeNumbers: at, just within and beyond the ends.
var edgeNumbers = []int{least, least + 1, -end - 1, -end, -end + 1, -1, 0, 1, end - 1, end, end + 1, great - 1, great}

func outside(n int) bool { return n < -end || n > end }

func TestNumbers(t *testing.T) {
	if api.MaxCell != 1000000 || api.MaxSamples != 60 {
		t.Errorf("MaxCell is %d, MaxSamples %d", api.MaxCell, api.MaxSamples)
	}
}

func TestCheck(t *testing.T) {
	for _, c := range badCuts {
		if got := told(cut.Check(c.cuts)); got != c.want {
			t.Errorf("%s: Check = %v, want %v", c.name, got, c.want)
		}
	}
	for _, c := range goodCuts {
		if err := cut.Check(c); err != nil {
			t.Errorf("Check(%v) = %v", c, err)
		}
	}
}

func TestCheckOneAndTwo(t *testing.T) {
	for _, a := range edgeNumbers {
		want := none
		if outside(a) {
			want = api.ErrRange
		}
		if got := told(cut.Check([]int{a})); got != want {
			t.Errorf("Check of %d = %v, want %v", a, got, want)
		}
		for _, b := range edgeNumbers {
			want := none
			switch {
			case outside(a) || outside(b):
				want = api.ErrRange
			case b <= a:
				want = api.ErrShape
			}
			if got := told(cut.Check([]int{a, b})); got != want {
				t.Errorf("Check of %d, %d = %v, want %v", a, b, got, want)
			}
		}
	}
}

func TestCuts(t *testing.T) {
	falling := run(1000, -1, 1000)
	for _, c := range []struct {
		name   string
		values []int
		many   int
		want   []int
	}{
		{"none", nil, 1, nil},
		{"empty", []int{}, 60, nil},
		{"one", []int{5}, 1, nil},
		{"one, by 60", []int{5}, 60, nil},
		{"two", []int{5, 3}, 1, []int{5}},
		{"two, by 60", []int{3, 5}, 60, []int{5}},
		{"three", []int{9, 1, 4}, 1, []int{4}},
		{"three, by two", []int{9, 1, 4}, 2, []int{4, 9}},
		{"three, by three", []int{9, 1, 4}, 3, []int{4, 9}},
		{"four", []int{4, 3, 2, 1}, 1, []int{3}},
		{"four, by two", []int{4, 3, 2, 1}, 2, []int{2, 3}},
		{"four, by three", []int{4, 3, 2, 1}, 3, []int{2, 3, 4}},
		{"five, by two", []int{10, 20, 30, 40, 50}, 2, []int{20, 40}},
		{"equal ones", slices.Repeat([]int{7}, 12), 6, nil},
		{"1000 equal ones", slices.Repeat([]int{-7}, 1000), 60, nil},
		{"the least one at a place", []int{1, 1, 1, 1, 2, 3}, 2, []int{2}},
		{"the least one at all places", []int{1, 1, 1, 2}, 1, nil},
		{"the least one is 0", []int{0, 0, 0, 5}, 3, []int{5}},
		{"the least one is below 0", []int{-5, -5, -5, 0}, 3, []int{0}},
		{"one met twice", []int{1, 2, 2, 2, 2, 3}, 5, []int{2, 3}},
		{"a place met twice", []int{8, 6, 7}, 7, []int{7, 8}},
		{"both ends", []int{end, -end}, 1, []int{end}},
		{"both ends, and 0", []int{0, end, -end}, 2, []int{0, end}},
		{"the lower end alone", []int{-end, -end}, 2, nil},
		{"the greatest one is not met", []int{1, 2, 3, 4, 5, 6, 7, 8, 9, 10}, 1, []int{6}},
		{"60 by 60", run(0, 1, 60), 60, run(1, 1, 59)},
		{"61 by 60", run(0, 1, 61), 60, run(1, 1, 60)},
		{"122 by 60", run(0, 1, 122), 60, run(2, 2, 60)},
		{"1000 that fall", falling, 1, []int{501}},
		{"1000 that fall, by three", falling, 3, []int{251, 501, 751}},
	} {
		got, err := cut.Cuts(c.values, c.many)
		if err != nil || !slices.Equal(got, c.want) {
			t.Errorf("%s: Cuts = %v, %v, want %v", c.name, got, err, c.want)
		}
	}
}

func TestCutsWrong(t *testing.T) {
	for _, many := range []int{least, -60, -1, 0, 61, 62, 1000, great} {
		for _, l := range [][]int{nil, {1, 2}, make([]int, 1001), {end + 1}} {
			if got, err := cut.Cuts(l, many); got != nil || told(err) != api.ErrRange {
				t.Errorf("Cuts of %d values by %d = %v, %v", len(l), many, got, err)
			}
		}
	}
	for _, many := range []int{1, 2, 59, 60} {
		for _, c := range badValues {
			if got, err := cut.Cuts(c.values, many); got != nil || told(err) != c.want {
				t.Errorf("%s: Cuts by %d = %v, %v, want %v", c.name, many, got, err, c.want)
			}
		}
		if _, err := cut.Cuts(make([]int, 1000), many); err != nil {
			t.Errorf("Cuts of 1000 by %d: %v", many, err)
		}
	}
}

// wantCuts gathers them as the promise words it.
func wantCuts(values []int, many int) []int {
	sorted := slices.Sorted(slices.Values(values))
	met := map[int]int{}
	for i := 1; i <= many && len(values) > 0; i++ {
		place := int(math.Floor(float64(i) * float64(len(values)) / float64(many+1)))
		if n := sorted[place]; n != slices.Min(values) {
			met[n]++
		}
	}
	var cuts []int
	for n := range met {
		cuts = append(cuts, n)
	}
	slices.Sort(cuts)
	return cuts
}

func TestCutsOfAll(t *testing.T) {
	var s noise = 2
	for count := 0; count <= 1000; count += 1 + count/12 {
		for _, span := range []int{1, 2, 5, 40, 2*end + 1} {
			values := make([]int, count)
			for i := range values {
				values[i] = max(-end, -span/2) + s.below(span)
			}
			for many := 1; many <= 60; many++ {
				got, err := cut.Cuts(values, many)
				if want := wantCuts(values, many); err != nil || !slices.Equal(got, want) {
					t.Fatalf("Cuts(%v, %d) = %v, %v, want %v", values, many, got, err, want)
				}
				if err := cut.Check(got); err != nil {
					t.Fatalf("Cuts(%v, %d) = %v: %v", values, many, got, err)
				}
			}
		}
	}
}

func TestBin(t *testing.T) {
	for _, c := range []struct {
		cuts    []int
		x, want int
	}{
		{nil, 0, 0}, {nil, end, 0}, {nil, -end, 0}, {[]int{}, 1, 0},
		{[]int{5}, 4, 0}, {[]int{5}, 5, 1}, {[]int{5}, 6, 1},
		{[]int{-4, 0, 3}, -5, 0}, {[]int{-4, 0, 3}, -4, 1}, {[]int{-4, 0, 3}, -1, 1},
		{[]int{-4, 0, 3}, 0, 2}, {[]int{-4, 0, 3}, 2, 2}, {[]int{-4, 0, 3}, 3, 3}, {[]int{-4, 0, 3}, 4, 3},
		{[]int{-end}, -end, 1}, {[]int{-end}, end, 1},
		{[]int{end}, end, 1}, {[]int{end}, end - 1, 0},
		{run(0, 1, 60), -1, 0}, {run(0, 1, 60), 0, 1}, {run(0, 1, 60), 58, 59}, {run(0, 1, 60), 59, 60}, {run(0, 1, 60), end, 60},
	} {
		if got, err := cut.Bin(c.cuts, c.x); got != c.want || err != nil {
			t.Errorf("Bin(%v, %d) = %d, %v, want %d", c.cuts, c.x, got, err, c.want)
		}
	}
}

func TestBinWrong(t *testing.T) {
	for _, x := range edgeNumbers {
		for _, c := range badCuts {
			if got, err := cut.Bin(c.cuts, x); got != 0 || told(err) != c.want {
				t.Errorf("%s: Bin of %d = %d, %v, want %v", c.name, x, got, err, c.want)
			}
		}
		want := none
		if outside(x) {
			want = api.ErrRange
		}
		for _, c := range goodCuts {
			got, err := cut.Bin(c, x)
			if told(err) != want || want != none && got != 0 {
				t.Errorf("Bin(%v, %d) = %d, %v, want %v", c, x, got, err, want)
			}
		}
	}
}

func TestEnds(t *testing.T) {
	for _, c := range []struct {
		cuts           []int
		bin, low, high int
	}{
		{nil, 0, -end, end}, {[]int{}, 0, -end, end},
		{[]int{5}, 0, -end, 4}, {[]int{5}, 1, 5, end},
		{[]int{-4, 0, 3}, 0, -end, -5}, {[]int{-4, 0, 3}, 1, -4, -1}, {[]int{-4, 0, 3}, 2, 0, 2}, {[]int{-4, 0, 3}, 3, 3, end},
		{[]int{7, 8}, 1, 7, 7}, {[]int{0, 1}, 1, 0, 0},
		{[]int{-end}, 0, -end, -end - 1}, {[]int{-end}, 1, -end, end},
		{[]int{-end, 0}, 0, -end, -end - 1}, {[]int{-end, 0}, 1, -end, -1}, {[]int{-end + 1}, 0, -end, -end},
		{[]int{end}, 0, -end, end - 1}, {[]int{end}, 1, end, end}, {[]int{end - 1, end}, 1, end - 1, end - 1},
		{run(0, 1, 60), 59, 58, 58}, {run(0, 1, 60), 60, 59, end},
	} {
		low, high, err := cut.Ends(c.cuts, c.bin)
		if low != c.low || high != c.high || err != nil {
			t.Errorf("Ends(%v, %d) = %d, %d, %v, want %d, %d", c.cuts, c.bin, low, high, err, c.low, c.high)
		}
	}
}

func TestEndsWrong(t *testing.T) {
	for _, bin := range []int{least, -1, 0, 1, 60, 61, great} {
		for _, c := range badCuts {
			low, high, err := cut.Ends(c.cuts, bin)
			if low != 0 || high != 0 || told(err) != c.want {
				t.Errorf("%s: Ends of %d = %d, %d, %v, want %v", c.name, bin, low, high, err, c.want)
			}
		}
	}
	for _, c := range goodCuts {
		for _, bin := range []int{least, -2, -1, len(c) + 1, len(c) + 2, 61, great} {
			low, high, err := cut.Ends(c, bin)
			if low != 0 || high != 0 || told(err) != api.ErrRange {
				t.Errorf("Ends(%v, %d) = %d, %d, %v", c, bin, low, high, err)
			}
		}
	}
}

// TestEndsAreOfBins: all bins one behind the other hold each number once, and Bin tells them so.
func TestEndsAreOfBins(t *testing.T) {
	for _, c := range goodCuts {
		next := -end
		for bin := 0; bin <= len(c); bin++ {
			low, high, err := cut.Ends(c, bin)
			if err != nil || low != next {
				t.Fatalf("Ends(%v, %d) = %d, %d, %v, want from %d on", c, bin, low, high, err, next)
			}
			for _, x := range []int{low, low + (high-low)/2, high} {
				if low > high {
					break
				}
				if got, err := cut.Bin(c, x); got != bin || err != nil {
					t.Errorf("Bin(%v, %d) = %d, %v, want %d", c, x, got, err, bin)
				}
			}
			next = high + 1
		}
		if next != end+1 {
			t.Errorf("the last bin of %v ends at %d", c, next-1)
		}
	}
}

func TestMerge(t *testing.T) {
	for _, c := range []struct {
		name       string
		a, b, want []int
	}{
		{"none", nil, nil, nil},
		{"empty ones", []int{}, []int{}, nil},
		{"none and some", nil, []int{1, 2}, []int{1, 2}},
		{"some and none", []int{1, 2}, nil, []int{1, 2}},
		{"one behind the other", []int{1, 2}, []int{3, 4}, []int{1, 2, 3, 4}},
		{"one ahead of the other", []int{3, 4}, []int{1, 2}, []int{1, 2, 3, 4}},
		{"by turns", []int{1, 3, 5}, []int{0, 2, 4, 6}, []int{0, 1, 2, 3, 4, 5, 6}},
		{"the same", []int{-1, 4}, []int{-1, 4}, []int{-1, 4}},
		{"some in both", []int{-1, 4, 9}, []int{4, 5, 9}, []int{-1, 4, 5, 9}},
		{"both ends", []int{-end, end}, []int{-end, 0, end}, []int{-end, 0, end}},
		{"either end", []int{end}, []int{-end}, []int{-end, end}},
		{"to 60", run(0, 2, 30), run(1, 2, 30), run(0, 1, 60)},
		{"60 and 60 that are the same", run(0, 1, 60), run(0, 1, 60), run(0, 1, 60)},
		{"60 and none", run(0, 1, 60), nil, run(0, 1, 60)},
		{"none and 60", nil, run(0, 1, 60), run(0, 1, 60)},
		{"60 and some of them", run(0, 1, 60), run(0, 3, 20), run(0, 1, 60)},
		{"to 60, with some in both", run(0, 1, 40), run(20, 1, 40), run(0, 1, 60)},
	} {
		got, err := cut.Merge(c.a, c.b)
		if err != nil || !slices.Equal(got, c.want) {
			t.Errorf("%s: Merge = %v, %v, want %v", c.name, got, err, c.want)
		}
	}
}

func TestMergeWrong(t *testing.T) {
	for _, c := range badCuts {
		for _, good := range goodCuts {
			if got, err := cut.Merge(c.cuts, good); got != nil || told(err) != c.want {
				t.Errorf("%s: Merge with good ones = %v, %v, want %v", c.name, got, err, c.want)
			}
			if got, err := cut.Merge(good, c.cuts); got != nil || told(err) != c.want {
				t.Errorf("%s: Merge of good ones with it = %v, %v, want %v", c.name, got, err, c.want)
			}
		}
		for _, d := range badCuts {
			if got, err := cut.Merge(c.cuts, d.cuts); got != nil || told(err) != c.want {
				t.Errorf("Merge of %s with %s = %v, %v, want %v", c.name, d.name, got, err, c.want)
			}
		}
	}
	for _, c := range []struct {
		name string
		a, b []int
	}{
		{"60 and one more behind", run(0, 1, 60), []int{60}},
		{"60 and one more ahead", run(0, 1, 60), []int{-1}},
		{"one and 60 more", []int{-1}, run(0, 1, 60)},
		{"31 and 30", run(0, 2, 31), run(1, 2, 30)},
		{"61, with some in both", run(0, 1, 40), run(20, 1, 41)},
		{"120", run(0, 1, 60), run(60, 1, 60)},
	} {
		if got, err := cut.Merge(c.a, c.b); got != nil || told(err) != api.ErrFull {
			t.Errorf("%s: Merge = %v, %v", c.name, got, err)
		}
	}
}

func TestCount(t *testing.T) {
	for _, c := range []struct {
		name               string
		cuts, values, want []int
	}{
		{"nothing", nil, nil, []int{0}},
		{"empty ones", []int{}, []int{}, []int{0}},
		{"no cuts", nil, []int{3, -3, 3}, []int{3}},
		{"no values", []int{1, 2}, nil, []int{0, 0, 0}},
		{"at a cut", []int{5}, []int{5}, []int{0, 1}},
		{"around a cut", []int{5}, []int{4, 5, 6}, []int{1, 2}},
		{"all bins", []int{-4, 0, 3}, []int{9, -5, 0, 3, 2, -4, -1, -1}, []int{1, 3, 2, 2}},
		{"equal ones", []int{1, 2, 3}, []int{2, 2, 2, 2}, []int{0, 0, 4, 0}},
		{"a bin without a number", []int{-end, end}, []int{-end, end, 0}, []int{0, 2, 1}},
		{"60 cuts", run(1, 1, 60), run(0, 1, 61), slices.Repeat([]int{1}, 61)},
		{"1000 values", []int{250, 900}, run(0, 1, 1000), []int{250, 650, 100}},
	} {
		got, err := cut.Count(c.cuts, c.values)
		if err != nil || !slices.Equal(got, c.want) {
			t.Errorf("%s: Count = %v, %v, want %v", c.name, got, err, c.want)
		}
	}
}

func TestCountWrong(t *testing.T) {
	for _, v := range badValues {
		for _, c := range badCuts {
			if got, err := cut.Count(c.cuts, v.values); got != nil || told(err) != c.want {
				t.Errorf("%s by %s: Count = %v, %v, want %v", v.name, c.name, got, err, c.want)
			}
		}
		for _, c := range goodCuts {
			if got, err := cut.Count(c, v.values); got != nil || told(err) != v.want {
				t.Errorf("%s by %v: Count = %v, %v, want %v", v.name, c, got, err, v.want)
			}
		}
	}
	for _, c := range badCuts {
		if got, err := cut.Count(c.cuts, nil); got != nil || told(err) != c.want {
			t.Errorf("none by %s: Count = %v, %v, want %v", c.name, got, err, c.want)
		}
	}
}

// TestTogether holds what is told of cuts that have no order to them against counting one by one.
func TestTogether(t *testing.T) {
	var s noise = 7
	for range 400 {
		low := []int{-end, -20, 0, end - 89}[s.below(4)]
		a, b := s.rising(60, low, 90), s.rising(25, low, 90)
		values := make([]int, s.below(200))
		for i := range values {
			values[i] = low + s.below(90)
		}
		counts := make([]int, len(a)+1)
		for _, x := range values {
			bin := 0
			for _, c := range a {
				if c <= x {
					bin++
				}
			}
			counts[bin]++
			if got, err := cut.Bin(a, x); got != bin || err != nil {
				t.Fatalf("Bin(%v, %d) = %d, %v, want %d", a, x, got, err, bin)
			}
		}
		got, err := cut.Count(a, values)
		if err != nil || !slices.Equal(got, counts) {
			t.Fatalf("Count(%v, %v) = %v, %v, want %v", a, values, got, err, counts)
		}
		sum := 0
		for _, n := range got {
			sum += n
		}
		if sum != len(values) {
			t.Fatalf("Count(%v, %v) = %v: %d of %d", a, values, got, sum, len(values))
		}
		checkMerge(t, a, b, low)
	}
}

// checkMerge tries each of the 90 numbers from low on, as those of a and b are.
func checkMerge(t *testing.T, a, b []int, low int) {
	t.Helper()
	var both []int
	for x := low; x < low+90; x++ {
		if slices.Contains(a, x) || slices.Contains(b, x) {
			both = append(both, x)
		}
	}
	want := none
	if len(both) > 60 {
		both, want = nil, api.ErrFull
	}
	got, err := cut.Merge(a, b)
	if told(err) != want || !slices.Equal(got, both) {
		t.Fatalf("Merge(%v, %v) = %v, %v, want %v, %v", a, b, got, err, both, want)
	}
	if back, err := cut.Merge(b, a); told(err) != want || !slices.Equal(back, both) {
		t.Fatalf("Merge(%v, %v) = %v, %v, want %v, %v", b, a, back, err, both, want)
	}
}

// guarded lays a list into more memory than it has, and gives the whole of that too.
func guarded(l []int) (list, whole []int) {
	whole = append(slices.Clone(l), 11, 12, 13, 14, least, great, 0, 5)
	return whole[:len(l)], whole
}

// TestListsStay: neither what is handed in nor what lies behind its length is written into or kept, and the latter does not count.
func TestListsStay(t *testing.T) {
	calls := map[string]func(a, b []int) []int{
		"Check": func(a, b []int) []int { return []int{int(told(cut.Check(a)))} },
		"Cuts":  func(a, b []int) []int { l, err := cut.Cuts(b, 9); return append(l, int(told(err))) },
		"Bin":   func(a, b []int) []int { n, err := cut.Bin(a, 3); return []int{n, int(told(err))} },
		"Ends":  func(a, b []int) []int { m, n, err := cut.Ends(a, 1); return []int{m, n, int(told(err))} },
		"Merge": func(a, b []int) []int { l, err := cut.Merge(a, b); return append(l, int(told(err))) },
		"Count": func(a, b []int) []int { l, err := cut.Count(a, b); return append(l, int(told(err))) },
	}
	lists := append([][]int{{9, -3, 4, 4, 0}, run(50, -1, 50), {2, 1}, {end + 1}, make([]int, 1001)}, goodCuts...)
	for name, call := range calls {
		for _, first := range lists {
			for _, second := range lists {
				a, wholeA := guarded(first)
				b, wholeB := guarded(second)
				beforeA, beforeB := slices.Clone(wholeA), slices.Clone(wholeB)
				got := call(a, b)
				if !slices.Equal(wholeA, beforeA) || !slices.Equal(wholeB, beforeB) {
					t.Fatalf("%s(%v, %v) wrote into a list", name, first, second)
				}
				want := call(slices.Clip(slices.Clone(first)), slices.Clip(slices.Clone(second)))
				if !slices.Equal(got, want) {
					t.Errorf("%s(%v, %v) = %v with more behind, %v without", name, first, second, got, want)
				}
			}
		}
	}
}

// TestAnswersAreFresh: who writes over an answer, up to the end of its memory, changes neither what was handed in nor a later answer.
func TestAnswersAreFresh(t *testing.T) {
	calls := map[string]func(a, b []int) ([]int, error){
		"Cuts":  func(a, b []int) ([]int, error) { return cut.Cuts(b, 60) },
		"Merge": cut.Merge,
		"Count": cut.Count,
	}
	for name, call := range calls {
		for _, c := range [][2][]int{{{1, 2, 3}, nil}, {nil, {1, 2, 3}}, {{1, 2}, {1, 2}}, {{1, 3}, {2, 4}}, {nil, nil}, {nil, {5}}, {run(0, 1, 60), run(0, 1, 60)}} {
			a, wholeA := guarded(c[0])
			b, wholeB := guarded(c[1])
			beforeA, beforeB := slices.Clone(wholeA), slices.Clone(wholeB)
			got, err := call(a, b)
			if err != nil {
				t.Fatalf("%s(%v, %v): %v", name, a, b, err)
			}
			kept := slices.Clone(got)
			got = got[:cap(got)]
			for i := range got {
				got[i] = 77
			}
			if !slices.Equal(wholeA, beforeA) || !slices.Equal(wholeB, beforeB) {
				t.Errorf("%s(%v, %v) shares memory with its answer", name, c[0], c[1])
			}
			if again, err := call(a, b); err != nil || !slices.Equal(again, kept) {
				t.Errorf("%s(%v, %v) = %v, then %v, %v", name, c[0], c[1], kept, again, err)
			}
		}
	}
}
