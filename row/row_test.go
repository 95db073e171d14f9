package row_test

import (
	"errors"
	"math"
	"regexp"
	"slices"
	"strconv"
	"strings"
	"testing"

	"orchardry/api"
	"orchardry/cut"
	"orchardry/row"
)

const (
	end   = api.MaxCell
	gone  = api.Nil
	least = math.MinInt
	great = math.MaxInt
)

// none stands for an error that is nil.
const none = api.OK

// told gives what an error tells; -1, if it is none of the program's, or OK, which no error may be.
func told(err error) api.Errno {
	var e api.Errno
	switch {
	case err == nil:
		return none
	case errors.As(err, &e) && e != api.OK:
		return e
	}
	return -1
}

// with another thing at a place.
func with[T any](l []T, place int, x T) []T {
	l = slices.Clone(l)
	l[place] = x
	return l
}

// rising numbers from first on, count of them.
func rising(first, count int) []int {
	l := make([]int, count)
	for i := range l {
		l[i] = first + i
	}
	return l
}

// noise: numbers that look as if they had no order, the same ones each time.
type noise uint64

func (s *noise) below(n int) int {
	*s = *s*6364136223846793005 + 1442695040888963407
	return int(uint64(*s) >> 33 % uint64(n))
}

// cell that may be, one in five not there.
func (s *noise) cell() int {
	switch s.below(5) {
	case 0:
		return gone
	case 1:
		return []int{-end, -end + 1, -1, 0, 1, end - 1, end}[s.below(7)]
	case 2:
		return s.below(2*end+1) - end
	}
	return s.below(21) - 10
}

func (s *noise) row() []int {
	l := make([]int, s.below(9))
	for i := range l {
		l[i] = s.cell()
	}
	return l
}

// edgeCells, and whether they may be.
var edgeCells = []struct {
	cell int
	good bool
}{
	{least, false}, {least + 1, false},
	{gone - 1, false}, {gone, true}, {gone + 1, false},
	{-end - 1, false}, {-end, true}, {-end + 1, true},
	{-1, true}, {0, true}, {1, true},
	{end - 1, true}, {end, true}, {end + 1, false},
	{-gone - 1, false}, {-gone, false}, {-gone + 1, false},
	{great - 1, false}, {great, false},
}

// badRows, and the error that Check tells first.
var badRows = []struct {
	name string
	row  []int
	want api.Errno
}{
	{"9", make([]int, 9), api.ErrFull},
	{"9 that are not there", slices.Repeat([]int{gone}, 9), api.ErrFull},
	{"9, the first one beyond", with(make([]int, 9), 0, end+1), api.ErrFull},
	{"9, the last one beyond", with(make([]int, 9), 8, least), api.ErrFull},
	{"9, all of them beyond", slices.Repeat([]int{great}, 9), api.ErrFull},
	{"1000", make([]int, 1000), api.ErrFull},
	{"above", []int{end + 1}, api.ErrRange},
	{"below", []int{-end - 1}, api.ErrRange},
	{"one less than Nil", []int{gone - 1}, api.ErrRange},
	{"one more than Nil", []int{gone + 1}, api.ErrRange},
	{"Nil above 0", []int{-gone}, api.ErrRange},
	{"the greatest int", []int{great}, api.ErrRange},
	{"the least int", []int{least}, api.ErrRange},
	{"behind one that is not there", []int{gone, end + 1}, api.ErrRange},
	{"ahead of one that is not there", []int{end + 1, gone}, api.ErrRange},
	{"the 8th", with(make([]int, 8), 7, -end-1), api.ErrRange},
}

// goodRows, and how they are written.
var goodRows = []struct {
	row  []int
	text string
}{
	{nil, ""},
	{[]int{}, ""},
	{[]int{0}, "0"},
	{[]int{7}, "7"},
	{[]int{-7}, "-7"},
	{[]int{10}, "10"},
	{[]int{-10}, "-10"},
	{[]int{gone}, "-"},
	{[]int{end}, "1000000"},
	{[]int{end - 1}, "999999"},
	{[]int{-end}, "-1000000"},
	{[]int{-end + 1}, "-999999"},
	{[]int{0, 0}, "0,0"},
	{[]int{gone, gone}, "-,-"},
	{[]int{gone, -1}, "-,-1"},
	{[]int{-1, gone}, "-1,-"},
	{[]int{3, gone, -4}, "3,-,-4"},
	{[]int{end, -end, gone, 0}, "1000000,-1000000,-,0"},
	{rising(1, 7), "1,2,3,4,5,6,7"},
	{rising(1, 8), "1,2,3,4,5,6,7,8"},
	{rising(-8, 8), "-8,-7,-6,-5,-4,-3,-2,-1"},
	{make([]int, 8), "0,0,0,0,0,0,0,0"},
	{slices.Repeat([]int{gone}, 8), "-,-,-,-,-,-,-,-"},
	{slices.Repeat([]int{-end}, 8), strings.Repeat("-1000000,", 7) + "-1000000"},
}

// badCells: texts that are no cell, alone or among others.
var badCells = []string{
	"--", "---", "-0", "+0", "+1", "+", "-+1", "+-1", "--1", "1-", "-1-", "1-2",
	"00", "01", "007", "-00", "-01", "-007", "0000001", "01000000",
	" ", " 1", "1 ", " -", "- ", "- 1", "-1 ", "1 2", "\t1", "1\n", "\n", "1\r", "\x00", "1\x00",
	"a", "A1", "1a", "-a", "0x1", "0b1", "0o7", "1e3", "1_000", "_1", "1.0", "1.", ".5", "Nil", "nil", "NaN", "Inf",
	";", "1;2", "'", "\"1\"", "[1]", "(1)", "\u22121", "\u0661", "\uff11", "\xff", "1\xff", "\xc3\xa9",
	"1000001", "-1000001", "1000010", "9999999", "10000000", "-10000000", "4294967296", "4294967297",
	strconv.Itoa(gone), strconv.Itoa(gone - 1), strconv.Itoa(gone + 1), strconv.Itoa(-gone),
	strconv.Itoa(great), strconv.Itoa(least), "9223372036854775808", "-9223372036854775809",
	"18446744073709551615", "18446744073709551616", "18446744073709551617", "-18446744073709551617",
	"1" + strings.Repeat("0", 100), "-1" + strings.Repeat("0", 100), strings.Repeat("0", 100) + "1",
	strings.Repeat("9", 20000), strings.Repeat("-", 20000),
}

// badCuts, and the error that chapter 2's Check tells.
var badCuts = []struct {
	name string
	cuts []int
	want api.Errno
}{
	{"61", rising(0, 61), api.ErrFull},
	{"61 that are beyond", slices.Repeat([]int{great}, 61), api.ErrFull},
	{"above", []int{end + 1}, api.ErrRange},
	{"below", []int{-end - 1}, api.ErrRange},
	{"no cell", []int{gone}, api.ErrRange},
	{"they fall", []int{4, 3}, api.ErrShape},
	{"equal ones", []int{4, 4}, api.ErrShape},
}

// only numbers from low to high.
func only(low, high int) api.Span { return api.Span{Low: low, High: high} }

// orNil: numbers from low to high, or none.
func orNil(low, high int) api.Span { return api.Span{Low: low, High: high, Nil: true} }

// anySpan takes every cell.
var anySpan = api.Span{Low: least, High: great, Nil: true}

// checkEmpty holds Fits and Bins to telling want, and nothing else.
func checkEmpty(t *testing.T, name string, r []int, spans []api.Span, cuts [][]int, want api.Errno) {
	t.Helper()
	if in, err := row.Fits(r, spans); in || told(err) != want {
		t.Errorf("%s: Fits = %v, %v, want %v", name, in, err, want)
	}
	if l, err := row.Bins(r, cuts); l != nil || told(err) != want {
		t.Errorf("%s: Bins = %v, %v, want %v", name, l, err, want)
	}
}

func TestNumbers(t *testing.T) {
	if api.MaxRow != 8 || api.MaxCell != 1000000 || api.Nil != -1125899906842624 {
		t.Errorf("MaxRow is %d, MaxCell %d, Nil %d", api.MaxRow, api.MaxCell, api.Nil)
	}
}

func TestCheck(t *testing.T) {
	for _, c := range badRows {
		if got := told(row.Check(c.row)); got != c.want {
			t.Errorf("%s: Check = %v, want %v", c.name, got, c.want)
		}
	}
	for _, c := range goodRows {
		if err := row.Check(c.row); err != nil {
			t.Errorf("Check(%v) = %v", c.row, err)
		}
	}
}

// TestEdgeCells lays each at every place of rows of every length.
func TestEdgeCells(t *testing.T) {
	for _, c := range edgeCells {
		for length := 1; length <= 10; length++ {
			for place := range length {
				r := with(make([]int, length), place, c.cell)
				want := none
				switch {
				case length > 8:
					want = api.ErrFull
				case !c.good:
					want = api.ErrRange
				}
				if got := told(row.Check(r)); got != want {
					t.Errorf("Check(%v) = %v, want %v", r, got, want)
				}
				if s, err := row.Print(r); told(err) != want || (s == "") != (want != none) {
					t.Errorf("Print(%v) = %q, %v, want %v", r, s, err, want)
				}
			}
		}
	}
}

func TestPrint(t *testing.T) {
	for _, c := range goodRows {
		if got, err := row.Print(c.row); got != c.text || err != nil {
			t.Errorf("Print(%v) = %q, %v, want %q", c.row, got, err, c.text)
		}
	}
	for _, c := range badRows {
		if got, err := row.Print(c.row); got != "" || told(err) != c.want {
			t.Errorf("%s: Print = %q, %v, want %v", c.name, got, err, c.want)
		}
	}
}

func TestParse(t *testing.T) {
	for _, c := range goodRows {
		if got, err := row.Parse(c.text); !slices.Equal(got, c.row) || err != nil {
			t.Errorf("Parse(%q) = %v, %v, want %v", c.text, got, err, c.row)
		}
	}
}

// checkParseWrong holds Parse to telling want, and nothing else.
func checkParseWrong(t *testing.T, text string, want api.Errno) {
	t.Helper()
	if got, err := row.Parse(text); got != nil || told(err) != want {
		t.Errorf("Parse(%.60q) = %v, %v, want %v", text, got, err, want)
	}
}

func TestParseCommas(t *testing.T) {
	for _, text := range []string{
		",", ",,", ",,,", "1,", ",1", ",1,", "1,,2", "1,2,", ",1,2", "-,", ",-", "-,,-", "0,,", ",,0",
		"1,2,3,4,5,6,7,", "1,2,3,4,5,6,7,8,", ",1,2,3,4,5,6,7,8", "1,2,3,4,,5,6,7,8", "1,2,3,4,5,6,7,8,9,",
		",,,,,,,", ",,,,,,,,", ",,,,,,,,,", strings.Repeat(",", 5000),
	} {
		checkParseWrong(t, text, api.ErrSyntax)
	}
}

// TestParseBadCells lays each at every place of rows of every length: a cell that is wrong is told ahead of a row that is full.
func TestParseBadCells(t *testing.T) {
	for _, bad := range badCells {
		for _, length := range []int{1, 2, 3, 7, 8, 9, 10, 17} {
			for place := range length {
				words := with(slices.Repeat([]string{"1"}, length), place, bad)
				checkParseWrong(t, strings.Join(words, ","), api.ErrSyntax)
			}
		}
	}
}

func TestParseFull(t *testing.T) {
	for _, word := range []string{"1", "0", "-", "-5", "1000000", "-1000000"} {
		for _, length := range []int{9, 10, 16, 17, 256, 257, 264, 4000, 65537} {
			words := slices.Repeat([]string{word}, length)
			checkParseWrong(t, strings.Join(words, ","), api.ErrFull)
			checkParseWrong(t, strings.Join(with(words, length-1, "x"), ","), api.ErrSyntax)
			checkParseWrong(t, strings.Join(with(words, length-1, ""), ","), api.ErrSyntax)
		}
		eight := strings.Join(slices.Repeat([]string{word}, 8), ",")
		if got, err := row.Parse(eight); len(got) != 8 || err != nil {
			t.Errorf("Parse(%q) = %v, %v", eight, got, err)
		}
	}
}

// TestParseNumbers reads one number each, on both sides of both ends.
func TestParseNumbers(t *testing.T) {
	for n := -end - 2000; n <= end+2000; n++ {
		if n == -end+2000 {
			n = -2000
		}
		if n == 2000 {
			n = end - 2000
		}
		got, err := row.Parse(strconv.Itoa(n))
		if n < -end || n > end {
			if got != nil || told(err) != api.ErrSyntax {
				t.Fatalf("Parse of %d = %v, %v", n, got, err)
			}
		} else if err != nil || !slices.Equal(got, []int{n}) {
			t.Fatalf("Parse of %d = %v, %v", n, got, err)
		}
	}
}

// rowForm is what a text of a row is, however many cells it has and however great they are.
var rowForm = regexp.MustCompile(`\A((-|0|-?[1-9][0-9]*)(,(-|0|-?[1-9][0-9]*))*)?\z`)

// TestParseShortTexts tries all short texts of some letters: those of the form are what Print gives back, the others are wrong.
func TestParseShortTexts(t *testing.T) {
	letters := "01-,+ x"
	texts := []string{""}
	for first := 0; len(texts[first]) < 6; first++ {
		for i := range letters {
			texts = append(texts, texts[first]+letters[i:i+1])
		}
	}
	for _, text := range texts {
		if !rowForm.MatchString(text) {
			checkParseWrong(t, text, api.ErrSyntax)
			continue
		}
		r, err := row.Parse(text)
		if err != nil {
			t.Errorf("Parse(%q): %v", text, err)
			continue
		}
		if back, err := row.Print(r); back != text || err != nil {
			t.Errorf("Print of Parse(%q) = %q, %v", text, back, err)
		}
	}
}

func TestPrintAndParse(t *testing.T) {
	var s noise = 3
	for range 20000 {
		r := s.row()
		text, err := row.Print(r)
		if err != nil {
			t.Fatalf("Print(%v): %v", r, err)
		}
		if !rowForm.MatchString(text) {
			t.Fatalf("Print(%v) = %q", r, text)
		}
		back, err := row.Parse(text)
		if err != nil || !slices.Equal(back, r) {
			t.Fatalf("Parse(%q) = %v, %v, want %v", text, back, err, r)
		}
	}
}

func TestFits(t *testing.T) {
	type spans = []api.Span
	for _, c := range []struct {
		name string
		row  []int
		l    spans
		want bool
	}{
		{"no cell", nil, nil, true},
		{"no cell, empty lists", []int{}, spans{}, true},
		{"at Low", []int{-3}, spans{only(-3, 5)}, true},
		{"one below Low", []int{-4}, spans{only(-3, 5)}, false},
		{"one above Low", []int{-2}, spans{only(-3, 5)}, true},
		{"at High", []int{5}, spans{only(-3, 5)}, true},
		{"one above High", []int{6}, spans{only(-3, 5)}, false},
		{"one below High", []int{4}, spans{only(-3, 5)}, true},
		{"one below Low, Nil may be", []int{-4}, spans{orNil(-3, 5)}, false},
		{"one above High, Nil may be", []int{6}, spans{orNil(-3, 5)}, false},
		{"one number", []int{7}, spans{only(7, 7)}, true},
		{"below one number", []int{6}, spans{only(7, 7)}, false},
		{"above one number", []int{8}, spans{only(7, 7)}, false},
		{"Low above High, at Low", []int{2}, spans{orNil(2, 1)}, false},
		{"Low above High, at High", []int{1}, spans{orNil(2, 1)}, false},
		{"Low above High, between", []int{3}, spans{only(5, 1)}, false},
		{"Low above High, Nil may be", []int{gone}, spans{orNil(2, 1)}, true},
		{"Low above High, Nil may not be", []int{gone}, spans{only(2, 1)}, false},
		{"Nil may be", []int{gone}, spans{orNil(-3, 5)}, true},
		{"Nil may not be", []int{gone}, spans{only(-3, 5)}, false},
		{"Nil may not be, though its number is within", []int{gone}, spans{only(least, great)}, false},
		{"Nil may not be, though it is the span", []int{gone}, spans{only(gone, gone)}, false},
		{"Nil may be, though its number is not within", []int{gone}, spans{orNil(0, 0)}, true},
		{"the lower end", []int{-end}, spans{only(-end, end)}, true},
		{"the upper end", []int{end}, spans{only(-end, end)}, true},
		{"just within the lower end", []int{-end}, spans{orNil(-end+1, end)}, false},
		{"just within the upper end", []int{end}, spans{orNil(-end, end-1)}, false},
		{"a span of all ints", []int{end}, spans{only(least, great)}, true},
		{"a span beyond cells", []int{end}, spans{orNil(end+1, great)}, false},
		{"all ints, the wrong way round", []int{0}, spans{orNil(great, least)}, false},
		{"a span of nothing told", []int{0}, spans{{}}, true},
		{"a span of nothing told, Nil", []int{gone}, spans{{}}, false},
		{"the first one is not", []int{9, 2}, spans{only(1, 1), only(2, 2)}, false},
		{"the last one is not", []int{1, 9}, spans{only(1, 1), only(2, 2)}, false},
		{"each its own", []int{1, gone, 3}, spans{only(1, 1), orNil(9, 9), only(3, 3)}, true},
		{"each another's", []int{2, 1}, spans{only(1, 1), only(2, 2)}, false},
		{"8", rising(1, 8), slices.Repeat(spans{only(1, 8)}, 8), true},
		{"8, the last one is not", rising(1, 8), slices.Repeat(spans{only(1, 7)}, 8), false},
	} {
		if got, err := row.Fits(c.row, c.l); got != c.want || err != nil {
			t.Errorf("%s: Fits = %v, %v, want %v", c.name, got, err, c.want)
		}
	}
}

// TestFitsOneMisfit: one cell that does not fit is enough, wherever it stands.
func TestFitsOneMisfit(t *testing.T) {
	for length := 1; length <= 8; length++ {
		r := rising(1, length)
		l := make([]api.Span, length)
		for i, cell := range r {
			l[i] = only(cell, cell)
		}
		if got, err := row.Fits(r, l); !got || err != nil {
			t.Errorf("Fits(%v, %v) = %v, %v", r, l, got, err)
		}
		for place := range length {
			for _, other := range []int{r[place] - 1, r[place] + 1, gone} {
				bad := with(r, place, other)
				if got, err := row.Fits(bad, l); got || err != nil {
					t.Errorf("Fits(%v, %v) = %v, %v", bad, l, got, err)
				}
			}
		}
	}
}

func TestBins(t *testing.T) {
	sixty := rising(0, 60)
	for _, c := range []struct {
		name string
		row  []int
		cuts [][]int
		want []int
	}{
		{"no cell", nil, nil, nil},
		{"no cell, empty lists", []int{}, [][]int{}, nil},
		{"no cuts", []int{5}, [][]int{nil}, []int{0}},
		{"an empty list of cuts", []int{5}, [][]int{{}}, []int{0}},
		{"no cuts, Nil", []int{gone}, [][]int{nil}, []int{gone}},
		{"Nil", []int{gone}, [][]int{{1, 2, 3}}, []int{gone}},
		{"just below a cut", []int{4}, [][]int{{5}}, []int{0}},
		{"at a cut", []int{5}, [][]int{{5}}, []int{1}},
		{"just above a cut", []int{6}, [][]int{{5}}, []int{1}},
		{"below 0", []int{-5, -4, -3}, [][]int{{-4, 0, 3}, {-4, 0, 3}, {-4, 0, 3}}, []int{0, 1, 1}},
		{"around 0", []int{-1, 0, 1}, [][]int{{-4, 0, 3}, {-4, 0, 3}, {-4, 0, 3}}, []int{1, 2, 2}},
		{"around the last one", []int{2, 3, 4}, [][]int{{-4, 0, 3}, {-4, 0, 3}, {-4, 0, 3}}, []int{2, 3, 3}},
		{"cuts at the ends", []int{-end, end, end - 1}, [][]int{{-end, end}, {-end, end}, {-end, end}}, []int{1, 2, 1}},
		{"each its own", []int{5, 5, gone, 5}, [][]int{{6}, {5}, {4}, {1, 2, 3}}, []int{0, 1, gone, 3}},
		{"60 cuts", []int{-1, 0, 58, 59, end}, [][]int{sixty, sixty, sixty, sixty, sixty}, []int{0, 1, 59, 60, 60}},
		{"8", rising(1, 8), slices.Repeat([][]int{{2, 4, 6}}, 8), []int{0, 1, 1, 2, 2, 3, 3, 3}},
		{"8 that are not there", slices.Repeat([]int{gone}, 8), slices.Repeat([][]int{{2}}, 8), slices.Repeat([]int{gone}, 8)},
	} {
		got, err := row.Bins(c.row, c.cuts)
		if err != nil || !slices.Equal(got, c.want) {
			t.Errorf("%s: Bins = %v, %v, want %v", c.name, got, err, c.want)
		}
	}
}

// cuts that may be, few or many, near 0 or at an end.
func (s *noise) cuts() []int {
	low := []int{-end, -15, end - 69}[s.below(3)]
	l := make([]int, s.below(61))
	for i := range l {
		l[i] = low + s.below(70)
	}
	slices.Sort(l)
	return slices.Compact(l)
}

// TestBinsAndFitsOfAll holds them against each cell for itself.
func TestBinsAndFitsOfAll(t *testing.T) {
	var s noise = 5
	for range 5000 {
		r := s.row()
		var cuts [][]int
		var spans []api.Span
		var want []int
		fits := true
		for _, cell := range r {
			k := s.cuts()
			bin := 0
			for _, c := range k {
				if c <= cell {
					bin++
				}
			}
			sp := api.Span{Low: s.below(20) - 18, High: s.below(20) - 1, Nil: s.below(3) > 0}
			if s.below(2) > 0 {
				sp.Low, sp.High = -end+s.below(2), end-s.below(2)
			}
			if cell == gone {
				bin, fits = gone, fits && sp.Nil
			} else {
				fits = fits && cell >= sp.Low && cell <= sp.High
			}
			cuts, spans, want = append(cuts, k), append(spans, sp), append(want, bin)
		}
		if got, err := row.Bins(r, cuts); err != nil || !slices.Equal(got, want) {
			t.Fatalf("Bins(%v, %v) = %v, %v, want %v", r, cuts, got, err, want)
		}
		if got, err := row.Fits(r, spans); err != nil || got != fits {
			t.Fatalf("Fits(%v, %v) = %v, %v, want %v", r, spans, got, err, fits)
		}
	}
}

// TestRowFirst: what is wrong with the row is told ahead of what is wrong beside it.
func TestRowFirst(t *testing.T) {
	for _, c := range badRows {
		for _, count := range []int{0, 1, len(c.row), len(c.row) + 1, len(c.row) - 1} {
			spans := slices.Repeat([]api.Span{anySpan}, count)
			checkEmpty(t, c.name, c.row, spans, make([][]int, count), c.want)
			for _, k := range badCuts {
				checkEmpty(t, c.name+", "+k.name, c.row, spans, slices.Repeat([][]int{k.cuts}, count), c.want)
			}
		}
	}
}

// TestShape: as many as cells, or ErrShape, ahead of what is wrong with cuts.
func TestShape(t *testing.T) {
	for _, c := range goodRows {
		for count := range 20 {
			if count == len(c.row) {
				continue
			}
			spans := slices.Repeat([]api.Span{anySpan}, count)
			checkEmpty(t, c.text, c.row, spans, make([][]int, count), api.ErrShape)
			checkEmpty(t, c.text, c.row, make([]api.Span, count), slices.Repeat([][]int{{1, 2}}, count), api.ErrShape)
			for _, k := range badCuts {
				checkEmpty(t, c.text+", "+k.name, c.row, spans, slices.Repeat([][]int{k.cuts}, count), api.ErrShape)
			}
		}
	}
}

// TestCutsPlaceByPlace: the first place that has a fault is told, also where the cell is not there.
func TestCutsPlaceByPlace(t *testing.T) {
	for _, k := range badCuts {
		if got := told(cut.Check(k.cuts)); got != k.want {
			t.Fatalf("%s: chapter 2's Check = %v, want %v", k.name, got, k.want)
		}
	}
	for _, r := range [][]int{{5}, {gone}, {1, 2, 3}, {gone, 1, gone}, rising(1, 8), slices.Repeat([]int{gone}, 8)} {
		for place := range r {
			for _, k := range badCuts {
				cuts := with(slices.Repeat([][]int{{1, 2}}, len(r)), place, k.cuts)
				if got, err := row.Bins(r, cuts); got != nil || told(err) != k.want {
					t.Errorf("%s at %d: Bins of %v = %v, %v, want %v", k.name, place, r, got, err, k.want)
				}
				for _, later := range badCuts {
					for i := place + 1; i < len(r); i++ {
						both := with(cuts, i, later.cuts)
						if got, err := row.Bins(r, both); got != nil || told(err) != k.want {
							t.Errorf("%s at %d, %s at %d: Bins of %v = %v, %v, want %v", k.name, place, later.name, i, r, got, err, k.want)
						}
					}
				}
			}
		}
	}
}

// guarded lays a list into more memory than it has, and gives the whole of that too.
func guarded[T any](l []T, behind ...T) (list, whole []T) {
	whole = append(slices.Clone(l), behind...)
	return whole[:len(l)], whole
}

// TestListsStay: neither what is handed in nor what lies behind its length is written into, and the latter does not count.
func TestListsStay(t *testing.T) {
	lists := [][]int{{}, {0}, {3}, {gone}, {-1, 4}, {gone, 2, 9}, rising(1, 8), rising(1, 9), {end + 1}, {2, 1}, slices.Repeat([]int{gone}, 8)}
	for _, first := range lists {
		for _, second := range lists {
			for count := range 10 {
				r, wholeRow := guarded(first, 11, gone, least, great)
				k, wholeCuts := guarded(second, 12, 11, least)
				cuts, wholeList := guarded(slices.Repeat([][]int{k}, count), []int{2, 1}, nil)
				spans, wholeSpans := guarded(slices.Repeat([]api.Span{only(1, 5)}, count), anySpan, anySpan)
				rowBefore, cutsBefore := slices.Clone(wholeRow), slices.Clone(wholeCuts)
				listBefore, spansBefore := slices.Clone(wholeList), slices.Clone(wholeSpans)
				got := answers(r, spans, cuts)
				if !slices.Equal(wholeRow, rowBefore) || !slices.Equal(wholeSpans, spansBefore) {
					t.Fatalf("of %v, %d of %v: the row or the spans are written into", first, count, second)
				}
				if !slices.Equal(wholeCuts, cutsBefore) || !slices.EqualFunc(wholeList, listBefore, slices.Equal) {
					t.Fatalf("of %v, %d of %v: cuts are written into", first, count, second)
				}
				bare := slices.Repeat([][]int{slices.Clip(slices.Clone(second))}, count)
				want := answers(slices.Clip(slices.Clone(first)), slices.Clip(slices.Clone(spans)), slices.Clip(bare))
				if got != want {
					t.Errorf("of %v, %d of %v: %s with more behind, %s without", first, count, second, got, want)
				}
			}
		}
	}
}

// answers of all calls that take lists, as one text.
func answers(r []int, spans []api.Span, cuts [][]int) string {
	text, no := row.Print(r)
	in, ill := row.Fits(r, spans)
	bins, bad := row.Bins(r, cuts)
	words := []string{told(row.Check(r)).Error(), text, told(no).Error(), strconv.FormatBool(in), told(ill).Error(), told(bad).Error()}
	for _, n := range bins {
		words = append(words, strconv.Itoa(n))
	}
	return strings.Join(words, " ")
}

// TestAnswersAreFresh: who writes over an answer, up to the end of its memory, changes neither what was handed in nor a later answer.
func TestAnswersAreFresh(t *testing.T) {
	spoil := func(l []int) {
		l = l[:cap(l)]
		for i := range l {
			l[i] = 77
		}
	}
	for _, c := range goodRows {
		parsed, _ := row.Parse(c.text)
		other, _ := row.Parse(c.text)
		spoil(parsed)
		if again, err := row.Parse(c.text); err != nil || !slices.Equal(again, c.row) || !slices.Equal(other, c.row) {
			t.Errorf("Parse(%q) = %v, then %v, %v", c.text, other, again, err)
		}
		r := slices.Clone(c.row)
		cuts := make([][]int, len(r))
		for i := range cuts {
			cuts[i] = []int{-2, 2}
		}
		bins, err := row.Bins(r, cuts)
		if err != nil {
			t.Fatalf("Bins(%v): %v", r, err)
		}
		kept := slices.Clone(bins)
		spoil(bins)
		if !slices.Equal(r, c.row) {
			t.Errorf("Bins(%v) shares memory with the row", c.row)
		}
		for _, k := range cuts {
			if !slices.Equal(k, []int{-2, 2}) {
				t.Errorf("Bins(%v) shares memory with cuts", c.row)
			}
		}
		if again, err := row.Bins(r, cuts); err != nil || !slices.Equal(again, kept) {
			t.Errorf("Bins(%v) = %v, then %v, %v", c.row, kept, again, err)
		}
	}
}
