package fixed_test

import (
	"math"
	"math/big"
	"slices"
	"testing"

	"orchardry/api"
	"orchardry/fixed"
)

const end = api.MaxNum

// edges: numbers around 0, around both ends, beyond them, and the ends of int.
var edges = []int{
	0, 1, -1, 2, -2, 3, -3, 7, -7, 10, -10,
	1<<20 - 1, 1 << 20, 1<<20 + 1, -(1<<20 - 1), -(1 << 20), -(1<<20 + 1),
	end/2 - 1, end / 2, end/2 + 1, -end/2 - 1, -end / 2, -end/2 + 1,
	end - 1, end, end + 1, -end + 1, -end, -end - 1,
	1 << 50, -1 << 50, 1 << 62, -1 << 62,
	math.MaxInt - 1, math.MaxInt, math.MinInt + 1, math.MinInt,
}

// bigFit makes fit by numbers that have no end of their own.
func bigFit(n *big.Int) *big.Int {
	high, low := big.NewInt(end), big.NewInt(-end)
	if n.Cmp(high) > 0 {
		return high
	}
	if n.Cmp(low) < 0 {
		return low
	}
	return n
}

func bigOf(n int) *big.Int { return bigFit(big.NewInt(int64(n))) }

// bigDown is the greatest whole number that is at most a over b.
func bigDown(a, b *big.Int) *big.Int {
	if b.Sign() < 0 {
		a, b = new(big.Int).Neg(a), new(big.Int).Neg(b)
	}
	// Euclid's division rounds down where the divisor is above 0.
	return new(big.Int).Div(a, b)
}

// bigRound tries both neighbours of a over b, as the promise words it.
func bigRound(a, b *big.Int) *big.Int {
	low := bigDown(a, b)
	high := new(big.Int).Add(low, big.NewInt(1))
	far := func(n *big.Int) *big.Int {
		d := new(big.Int).Mul(n, b)
		return d.Abs(d.Sub(d, a))
	}
	if far(high).Cmp(far(low)) <= 0 {
		return high
	}
	return low
}

func TestMaxNum(t *testing.T) {
	if api.MaxNum != 1099511627776 {
		t.Errorf("MaxNum is %d", api.MaxNum)
	}
}

func TestPairsAtEdges(t *testing.T) {
	for _, a := range edges {
		for _, b := range edges {
			x, y := bigOf(a), bigOf(b)
			if got, want := fixed.Add(a, b), bigFit(new(big.Int).Add(x, y)).Int64(); int64(got) != want {
				t.Errorf("Add(%d, %d) = %d, want %d", a, b, got, want)
			}
			if got, want := fixed.Mul(a, b), bigFit(new(big.Int).Mul(x, y)).Int64(); int64(got) != want {
				t.Errorf("Mul(%d, %d) = %d, want %d", a, b, got, want)
			}
			want := int64(0)
			if b != 0 {
				want = bigRound(x, y).Int64()
			}
			if got := fixed.Round(a, b); int64(got) != want {
				t.Errorf("Round(%d, %d) = %d, want %d", a, b, got, want)
			}
		}
	}
}

func TestSmallRounds(t *testing.T) {
	for a := -60; a <= 60; a++ {
		for b := -13; b <= 13; b++ {
			want := int64(0)
			if b != 0 {
				want = bigRound(bigOf(a), bigOf(b)).Int64()
			}
			if got := fixed.Round(a, b); int64(got) != want {
				t.Errorf("Round(%d, %d) = %d, want %d", a, b, got, want)
			}
		}
	}
}

func TestAdd(t *testing.T) {
	for _, c := range [][3]int{
		{2, 3, 5}, {-2, -3, -5}, {7, -9, -2},
		{end - 1, 1, end}, {end, 1, end}, {end - 1, 2, end},
		{-end + 1, -1, -end}, {-end, -1, -end}, {-end + 1, -2, -end},
		{end, -end, 0}, {end + 5, -1, end - 1}, {-end - 5, 1, -end + 1},
		{math.MaxInt, math.MaxInt, end}, {math.MinInt, math.MinInt, -end},
		{math.MaxInt, math.MinInt, 0}, {math.MinInt, math.MaxInt, 0},
	} {
		if got := fixed.Add(c[0], c[1]); got != c[2] {
			t.Errorf("Add(%d, %d) = %d, want %d", c[0], c[1], got, c[2])
		}
	}
}

func TestMul(t *testing.T) {
	for _, c := range [][3]int{
		{2, 3, 6}, {-2, 3, -6}, {2, -3, -6}, {-2, -3, 6}, {0, math.MinInt, 0}, {math.MaxInt, 0, 0},
		{1 << 20, 1 << 20, end}, {1<<20 + 1, 1 << 20, end}, {1<<20 - 1, 1 << 20, end - 1<<20},
		{-1 << 20, 1 << 20, -end}, {-1<<20 - 1, 1 << 20, -end}, {1 << 20, -1<<20 + 1, -end + 1<<20},
		{end, 1, end}, {end, -1, -end}, {-end, -1, end}, {end + 1, 1, end},
		{1 << 32, 1 << 32, end}, {1 << 33, -1 << 31, -end}, {end, end, end}, {end, -end, -end},
		{math.MaxInt, math.MaxInt, end}, {math.MinInt, math.MinInt, end},
		{math.MaxInt, math.MinInt, -end}, {math.MinInt, -1, end}, {-1, math.MinInt, end},
	} {
		if got := fixed.Mul(c[0], c[1]); got != c[2] {
			t.Errorf("Mul(%d, %d) = %d, want %d", c[0], c[1], got, c[2])
		}
	}
}

func TestRound(t *testing.T) {
	for _, c := range [][3]int{
		{6, 3, 2}, {7, 3, 2}, {8, 3, 3}, {0, 5, 0},
		{-7, 3, -2}, {-8, 3, -3}, {7, -3, -2}, {8, -3, -3}, {-7, -3, 2}, {-8, -3, 3},
		{1, 2, 1}, {-1, 2, 0}, {1, -2, 0}, {-1, -2, 1},
		{3, 2, 2}, {-3, 2, -1}, {3, -2, -1}, {-3, -2, 2},
		{5, 10, 1}, {-5, 10, 0}, {4, 10, 0}, {-6, 10, -1},
		{0, 0, 0}, {9, 0, 0}, {-9, 0, 0}, {math.MaxInt, 0, 0}, {math.MinInt, 0, 0},
		{end, 1, end}, {end + 1, 1, end}, {end, -1, -end}, {-end - 1, 1, -end}, {-end, -1, end},
		{math.MaxInt, math.MaxInt, 1}, {math.MinInt, math.MaxInt, -1}, {math.MinInt, math.MinInt, 1},
		{math.MinInt, -1, end}, {1, math.MaxInt, 0}, {-1, math.MaxInt, 0},
		{end / 2, end, 1}, {-end / 2, end, 0}, {end/2 - 1, end, 0}, {-end/2 - 1, end, -1},
		{end / 2, math.MaxInt, 1}, {end / 2, math.MinInt, 0},
	} {
		if got := fixed.Round(c[0], c[1]); got != c[2] {
			t.Errorf("Round(%d, %d) = %d, want %d", c[0], c[1], got, c[2])
		}
	}
}

// lists and what comes of them.
var lists = []struct {
	name                string
	l                   []int
	total, mean, median int
}{
	{"nil", nil, 0, 0, 0},
	{"empty", []int{}, 0, 0, 0},
	{"one", []int{5}, 5, 5, 5},
	{"one below 0", []int{-5}, -5, -5, -5},
	{"one beyond", []int{math.MaxInt}, end, end, end},
	{"one beyond below", []int{math.MinInt}, -end, -end, -end},
	{"two", []int{9, 2}, 11, 5, 9},
	{"three", []int{9, 1, 4}, 14, 4, 4},
	{"four", []int{4, 3, 2, 1}, 10, 2, 3},
	{"rounded down above 0", []int{1, 2, 2}, 5, 1, 2},
	{"rounded down below 0", []int{-1, -2, -2}, -5, -2, -2},
	{"a half below 0", []int{-1, 0}, -1, -1, 0},
	{"whole below 0", []int{-2, -4}, -6, -3, -2},
	{"equal ones", []int{3, 3, 1, 1}, 8, 2, 3},
	{"an end is left again", []int{math.MaxInt, math.MaxInt, -1}, end - 1, (2*end - 1) / 3, end},
	{"either end", []int{math.MaxInt, math.MinInt}, 0, 0, end},
	{"the order counts for Total", []int{end, 5, -5}, end - 5, end / 3, 5},
	{"the lower end is left again", []int{-end, -5, 5}, -end + 5, -(end + 2) / 3, -5},
	{"just within", []int{end - 1, end - 1}, end, end - 1, end - 1},
	{"just within below", []int{-end + 1, -end + 1}, -end, -end + 1, -end + 1},
	{"just beyond", []int{end + 1, end + 1, -end - 1}, 0, end / 3, end},
}

func TestLists(t *testing.T) {
	for _, c := range lists {
		if got := fixed.Total(c.l); got != c.total {
			t.Errorf("%s: Total = %d, want %d", c.name, got, c.total)
		}
		if got := fixed.Mean(c.l); got != c.mean {
			t.Errorf("%s: Mean = %d, want %d", c.name, got, c.mean)
		}
		if got := fixed.Median(c.l); got != c.median {
			t.Errorf("%s: Median = %d, want %d", c.name, got, c.median)
		}
	}
}

// many numbers n, one behind the other.
func many(n, count int) []int { return slices.Repeat([]int{n}, count) }

func TestFirstThousand(t *testing.T) {
	rising := make([]int, 1500)
	for i := range rising {
		rising[i] = i
	}
	falling := slices.Clone(rising)
	slices.Reverse(falling)
	for _, c := range []struct {
		name                string
		l                   []int
		total, mean, median int
	}{
		{"999 rising", rising[:999], 498501, 499, 499},
		{"1000 rising", rising[:1000], 499500, 499, 500},
		{"1001 rising", rising[:1001], 500500, 499, 500},
		{"1500 rising", rising, 1124250, 499, 500},
		{"1500 falling", falling, 1124250, 999, 1000},
		{"a great one at 1000th", append(many(0, 999), 1000), 1000, 1, 0},
		{"a great one at 1001st", append(many(0, 1000), 1001), 1001, 0, 0},
		{"a low one at 1000th", append(many(0, 999), -1), -1, -1, 0},
		{"a low one at 1001st", append(many(0, 1000), -1001), -1001, 0, 0},
		{"half and half", append(many(1, 500), many(2, 1000)...), 2500, 1, 2},
		{"greatest ints", many(math.MaxInt, 1000), end, end, end},
		{"least ints", many(math.MinInt, 1000), -end, -end, -end},
		{"more greatest ints", many(math.MaxInt, 3000), end, end, end},
		{"more least ints", many(math.MinInt, 3000), -end, -end, -end},
		{"least ints behind", append(many(end, 1000), many(math.MinInt, 1001)...), -end, end, end},
	} {
		if got := fixed.Total(c.l); got != c.total {
			t.Errorf("%s: Total = %d, want %d", c.name, got, c.total)
		}
		if got := fixed.Mean(c.l); got != c.mean {
			t.Errorf("%s: Mean = %d, want %d", c.name, got, c.mean)
		}
		if got := fixed.Median(c.l); got != c.median {
			t.Errorf("%s: Median = %d, want %d", c.name, got, c.median)
		}
	}
}

// TestListStays: neither what is handed in nor what lies behind its length is written into, and the latter does not count.
func TestListStays(t *testing.T) {
	for _, count := range []int{0, 1, 2, 9, 1000, 1001, 1700} {
		whole := make([]int, count+8)
		for i := range whole {
			whole[i] = edges[(i*17+5)%len(edges)]
		}
		before := slices.Clone(whole)
		l := whole[:count]
		alone := slices.Clip(slices.Clone(l))
		for name, f := range map[string]func([]int) int{"Total": fixed.Total, "Mean": fixed.Mean, "Median": fixed.Median} {
			got := f(l)
			if !slices.Equal(whole, before) {
				t.Fatalf("%s of %d numbers wrote into the list", name, count)
			}
			if again := f(l); again != got {
				t.Errorf("%s of %d numbers: %d, then %d", name, count, got, again)
			}
			if want := f(alone); got != want {
				t.Errorf("%s of %d numbers: %d with more behind, %d without", name, count, got, want)
			}
		}
	}
}

// TestListsAtEdges holds lists of all lengths against numbers that have no end of their own.
func TestListsAtEdges(t *testing.T) {
	for count := 1; count <= 1100; count += 1 + count/20 {
		l := make([]int, count)
		total, sum, sorted := big.NewInt(0), big.NewInt(0), []int{}
		for i := range l {
			l[i] = edges[(i*i*7+i*3+count)%len(edges)]
			total = bigFit(new(big.Int).Add(total, bigOf(l[i])))
			if i < 1000 {
				sum.Add(sum, bigOf(l[i]))
				sorted = append(sorted, int(bigOf(l[i]).Int64()))
			}
		}
		slices.Sort(sorted)
		if got, want := fixed.Total(l), int(total.Int64()); got != want {
			t.Errorf("Total of %d numbers = %d, want %d", count, got, want)
		}
		if got, want := fixed.Mean(l), int(bigDown(sum, big.NewInt(int64(len(sorted)))).Int64()); got != want {
			t.Errorf("Mean of %d numbers = %d, want %d", count, got, want)
		}
		if got, want := fixed.Median(l), sorted[len(sorted)/2]; got != want {
			t.Errorf("Median of %d numbers = %d, want %d", count, got, want)
		}
	}
}
