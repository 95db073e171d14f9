package run_test

import (
	"fmt"
	"math/big"
	"regexp"
	"slices"
	"strconv"
	"strings"
	"sync"
	"testing"

	"orchardry/api"
	"orchardry/grow"
	"orchardry/run"
)

// line of a text, and what it is answered.
type line struct{ asked, answer string }

// talk is lines that follow each other in one text.
type talk []line

// text of a talk, each line with its end.
func (l talk) text() string {
	var b strings.Builder
	for _, x := range l {
		b.WriteString(x.asked + "\n")
	}
	return b.String()
}

// with other lines behind its own; it is left as it is.
func (l talk) with(others ...line) talk { return slices.Concat(l, others) }

// goes holds a talk to its answers, line by line.
func goes(t *testing.T, l talk) {
	t.Helper()
	got := run.Run(l.text())
	answers, ended := strings.CutSuffix(got, "\n")
	if !ended {
		t.Fatalf("%.200q is answered %.200q, with no byte 10 at its end", l.text(), got)
	}
	each := strings.Split(answers, "\n")
	if len(each) != len(l) {
		t.Fatalf("%.200q has %d lines, and is answered by %d: %.200q", l.text(), len(l), len(each), got)
	}
	for i, x := range l {
		if each[i] != x.answer {
			t.Errorf("line %d, %.80q, behind %.200q: %.80q, want %.80q", i, x.asked, l[max(0, i-8):i].text(), each[i], x.answer)
		}
	}
}

// says holds the answer of one line that has nothing ahead of it.
func says(t *testing.T, asked, answer string) {
	t.Helper()
	goes(t, talk{{asked, answer}})
}

// answers holds a whole text to its answer.
func answers(t *testing.T, text, want string) {
	t.Helper()
	if got := run.Run(text); got != want {
		t.Errorf("%.100q (%d bytes) is answered %.100q (%d bytes), want %.100q (%d bytes)", text, len(text), got, len(got), want, len(want))
	}
}

// orchard is a text behind which all there may be is there: samples of two cells, a tree of three nodes, and a version of m that is live.
func orchard() talk {
	return talk{
		{"sample -4 1,7", "ok"},
		{"sample -5 2,3", "ok"},
		{"sample 30 3,7", "ok"},
		{"grow 1 1", "3"},
		{"wrong", "1"},
		{"up m 1", "1"},
		{"promote m 1 2", "2"},
	}
}

// same are lines that tell of all that there is behind an orchard, and change none of it: of the samples, the tree, the Shelf and its last call.
func same() talk {
	return talk{
		{"wrong", "1"},
		{"why 2,0", "f0<3 =-5"},
		{"why 3,0", "f0>=3 =30"},
		{"why -,0", "f0? =-5"},
		{"ask m 2,0", "-5"},
		{"ask m 3,0", "30"},
		{"promote zz 9 2", "2"},
		{"promote m 1 1", "ErrState"},
		{"grow 1 1", "3"},
		{"wrong", "1"},
	}
}

// changesNothing holds a line, behind an orchard, to its answer, and what there is then to what there was.
func changesNothing(t *testing.T, asked, answer string) {
	t.Helper()
	goes(t, orchard().with(line{asked, answer}).with(same()...).with(line{"up m 3", "2"}, line{"promote m 2 4", "4"}))
}

// TestTable: each line of the table with what is taken.
func TestTable(t *testing.T) {
	goes(t, talk{
		{"mean 3,0,10,4", "4"},
		{"mean -1,-2,-2", "-2"},
		{"round 7 2", "4"},
		{"round -7 2", "-3"},
		{"cuts 3 4,3,2,1", "2,3,4"},
		{"cuts 2 4,4,4", "-"},
		{"eval ", "0"},
		{"eval 5,-,7", "0"},
		{"why ", "=0"},
		{"sample -4 1,7", "ok"},
		{"sample -5 2,3", "ok"},
		{"sample 30 3,7", "ok"},
		{"wrong", "941"},
		{"eval 3,7", "0"},
		{"grow 1 1", "3"},
		{"wrong", "1"},
		{"eval 2,0", "-5"},
		{"eval 3,0", "30"},
		{"eval -,0", "-5"},
		{"why 2,0", "f0<3 =-5"},
		{"why 3,0", "f0>=3 =30"},
		{"why -,0", "f0? =-5"},
		{"up pear 1", "1"},
		{"ask pear 2,0", "ErrNone"},
		{"promote pear 1 2", "2"},
		{"ask pear 2,0", "-5"},
		{"ask pear 3,-", "30"},
		{"grow 5 1", "5"},
		{"wrong", "0"},
		{"why 1,7", "f0<3 f0<2 =-4"},
		{"ask pear 1,7", "-5"},
		{"up pear 3", "2"},
		{"promote pear 2 4", "4"},
		{"ask pear 1,7", "-4"},
	})
}

// TestLines: what is a line, and what ends one.
func TestLines(t *testing.T) {
	for _, c := range [][2]string{
		{"", ""},
		{"\n", "bad\n"},
		{"\n\n", "bad\nbad\n"},
		{"mean 4", "4\n"},
		{"mean 4\n", "4\n"},
		{"mean 4\n\n", "4\nbad\n"},
		{"\nmean 4", "bad\n4\n"},
		{"\nmean 4\n", "bad\n4\n"},
		{"mean 4\nmean 5", "4\n5\n"},
		{"mean 4\nmean 5\n", "4\n5\n"},
		{"mean 4\n\nmean 5\n", "4\nbad\n5\n"},
		{"mean \n", "0\n"},
		{"mean ", "0\n"},
		{"mean 4\n ", "4\nbad\n"},
		{"mean 4\r\nmean 5", "bad\n5\n"},
		{"mean 4\rmean 5", "bad\n"},
		{"mean 4\vmean 5\fmean 6\x85mean 7\u2028mean 8", "bad\n"},
		{"mean 4\x00", "bad\n"},
		{"\ufeffmean 4", "bad\n"},
		{"\x00", "bad\n"},
		{"\xff\n\xfe", "bad\nbad\n"},
	} {
		answers(t, c[0], c[1])
	}
}

// long is a text of so many bytes, of lines of seven with their ends, and of one that may be shorter.
func long(bytes int) string { return strings.Repeat("mean 7\n", bytes/7+1)[:bytes] }

// TestTooLong: on both sides of the end, of one line, of many and of empty ones, with a byte 10 as the last one and without.
func TestTooLong(t *testing.T) {
	answers(t, strings.Repeat("\n", 3000), strings.Repeat("bad\n", 3000))
	answers(t, strings.Repeat("\n", 3001), "too long\n")
	answers(t, strings.Repeat("x", 3000), "bad\n")
	answers(t, strings.Repeat("x", 3001), "too long\n")
	answers(t, strings.Repeat("x", 2999)+"\n", "bad\n")
	answers(t, strings.Repeat("x", 3000)+"\n", "too long\n")
	answers(t, "\n"+strings.Repeat("x", 2999), "bad\nbad\n")
	answers(t, "\n"+strings.Repeat("x", 3000), "too long\n")
	answers(t, long(2996), strings.Repeat("7\n", 428))
	answers(t, long(2995), strings.Repeat("7\n", 428))
	answers(t, long(3000), strings.Repeat("7\n", 428)+"bad\n")
	answers(t, long(3001), "too long\n")
	answers(t, "mean "+strings.Repeat("7,", 1497)+"7", "7\n")
	answers(t, "mean "+strings.Repeat("7,", 1497)+"7\n", "too long\n")
	answers(t, "mean "+strings.Repeat("7,", 1497)+"77", "too long\n")
	for _, bytes := range []int{3002, 4096, 6000, 65537, 1 << 20} {
		answers(t, long(bytes), "too long\n")
	}
	// Bytes count, not letters.
	answers(t, strings.Repeat("\u00e4", 1500), "bad\n")
	answers(t, strings.Repeat("\u00e4", 1500)+"\n", "too long\n")
}

// good are lines as they are taken behind an orchard, and what they are answered there.
func good() talk {
	return talk{
		{"mean 3,4", "3"},
		{"round 7 2", "4"},
		{"cuts 1 3,4", "4"},
		{"sample 1 2,3", "ok"},
		{"grow 0 1", "1"},
		{"eval 2,3", "-5"},
		{"why 2,3", "f0<3 =-5"},
		{"wrong", "1"},
		{"up m 3", "2"},
		{"promote m 1 3", "ErrState"},
		{"ask m 3,3", "30"},
	}
}

// TestWords: each line as it is, with a word too few or too many, and with an empty one more at each place.
func TestWords(t *testing.T) {
	for _, x := range good() {
		goes(t, orchard().with(x))
		words := strings.Split(x.asked, " ")
		for i := range words {
			fewer := strings.Join(slices.Delete(slices.Clone(words), i, i+1), " ")
			changesNothing(t, fewer, "bad")
		}
		for i := range len(words) + 1 {
			for _, more := range []string{"", "1", "m", "2,3", "01", "x y", words[0], words[len(words)-1]} {
				changesNothing(t, strings.Join(slices.Insert(slices.Clone(words), i, more), " "), "bad")
			}
		}
		for i := 1; i < len(words); i++ {
			for _, between := range []string{"", "  ", "   ", "\t", "\u00a0", "\v", "\r", ",", "_", "\x00"} {
				changesNothing(t, strings.Join(words[:i], " ")+between+strings.Join(words[i:], " "), "bad")
			}
		}
		for _, around := range []string{" ", "  ", "\t", "\r", "\x00", "\u00a0", ",", ".", "\""} {
			changesNothing(t, around+x.asked, "bad")
		}
		for _, behind := range []string{" ", "  ", " \r", " #"} {
			changesNothing(t, x.asked+behind, "bad")
		}
	}
}

// TestEmptyWords: an empty word in each place of a line, in the stead of what was there.
func TestEmptyWords(t *testing.T) {
	for _, x := range (talk{
		{"", "bad"},
		{" ", "bad"},
		{"  ", "bad"},
		{"   ", "bad"},
		{" 3,4", "bad"},
		{" 7 2", "bad"},
		{" m 1 2", "bad"},
		{"mean ", "0"},
		{"round  2", "bad"},
		{"round 7 ", "bad"},
		{"round  ", "bad"},
		{"cuts  3,4", "bad"},
		{"cuts 1 ", "-"},
		{"cuts  ", "bad"},
		{"sample  2,3", "bad"},
		{"sample 1 ", "ErrShape"},
		{"sample  ", "bad"},
		{"grow  1", "bad"},
		{"grow 0 ", "bad"},
		{"grow  ", "bad"},
		{"eval ", "ErrRange"},
		{"why ", "ErrRange"},
		{"wrong ", "bad"},
		{"up  3", "ErrSyntax"},
		{"up m ", "bad"},
		{"up  ", "bad"},
		{"promote  1 3", "ErrSyntax"},
		{"promote m  3", "bad"},
		{"promote m 1 ", "bad"},
		{"promote   ", "bad"},
		{"ask  2,3", "ErrNone"},
		{"ask m ", "ErrShape"},
		{"ask  ", "ErrNone"},
	}) {
		changesNothing(t, x.asked, x.answer)
	}
	goes(t, talk{
		{"eval ", "0"},
		{"why ", "=0"},
		{"up m 1", "1"},
		{"promote m 1 2", "2"},
		{"ask m ", "0"},
		{"sample 7 ", "ok"},
		{"sample -2 ", "ok"},
		{"sample 1 5", "ErrShape"},
		{"grow 5 1", "1"},
		{"eval ", "2"},
		{"why ", "=2"},
		{"wrong", "41"},
		{"ask m ", "0"},
	})
}

// TestOtherLines: what opens with no word of the table.
func TestOtherLines(t *testing.T) {
	for _, asked := range []string{
		"fly", "fly 1", "fly 1 2", "fly m 1 2", "ok", "bad", "-", "0", "1,2",
		"Mean 3,4", "MEAN 3,4", "mea 3,4", "means 3,4", "mean\x00 3,4", "\"mean\" 3,4", "mean, 3,4", "median 3,4", "total 3,4",
		"Wrong", "wron", "wrongs", "wrong\r", "wrong\x00", "wrong,", "\xffwrong",
		"rounds 7 2", "cut 1 3,4", "samples 1 2,3", "Sample 1 2,3", "fit 0 1", "ev 2,3", "whys 2,3", "how 2,3",
		"upload m 3", "Up m 3", "promot m 1 3", "PROMOTE m 1 3", "try m 1 3", "try m 1 5 3", "retire m 1 3", "live m", "asks m 2,3", "pick m 1", "all", "index",
	} {
		changesNothing(t, asked, "bad")
		says(t, asked, "bad")
	}
}

// noNumbers are words that are no N.
func noNumbers() []string {
	return []string{
		"", "-", "+", "--", "-0", "+0", "00", "000", "01", "-01", "007", "-007", "0000000001", "000000001", "-000000001",
		"+1", "-+1", "+-1", "--1", "1-", "1+", "-1-", "1-1",
		"1000000000", "-1000000000", "9999999999", "-9999999999", "1234567890", "4294967297", "10000000000", "100000000000000000000",
		"9223372036854775807", "9223372036854775808", "-9223372036854775808", "-9223372036854775809", "18446744073709551616", "18446744073709551617",
		"1.0", "1.", ".1", "1e3", "0x1", "0b1", "0o1", "1_0", "1_000", "1'000", "x", "1x", "x1", "m", "one", "nil", "Nil", "NaN", "Inf",
		"\u22121", "\u0663", "\uff11", "1\x00", "\x001", "\xff", "1\xff", "1\r", "1\t", "\t1", "1\u00a0", "1;2", "1/2",
	}
}

// noList are words that are no N, and no LIST with several of them either.
func noList() []string {
	return []string{",", "1,", ",1", "1,,2", ",,", ",1,", "1,2,", ",1,2", "1,2,,3", "1,-", "-,1", "1,-0", "1,02", "1;2", "1, ", "1.2,3"}
}

// TestNumbers: each N of each line, with what is none and with what is one, up to nine digits.
func TestNumbers(t *testing.T) {
	for _, form := range []string{"round % 2", "round 7 %", "cuts % 3,4", "sample % 2,3", "grow % 1", "grow 0 %", "up m %", "promote m % 3", "promote m 1 %"} {
		for _, word := range append(noNumbers(), "1,2", ",", "1,") {
			changesNothing(t, strings.Replace(form, "%", word, 1), "bad")
		}
	}
	// What cannot be read is told ahead of what is wrong beside it.
	for _, asked := range []string{"round 01 x", "round 7 01", "cuts 0 01", "cuts 61 x", "cuts x 1000001", "sample x 01", "sample - 1,2,3,4,5,6,7,8,9", "sample 01 2", "grow 9 01", "grow 01 99", "up M 01", "up  -0", "promote M 01 0", "promote M 0 01", "promote  9 -"} {
		changesNothing(t, asked, "bad")
	}
	for _, x := range (talk{
		{"round 0 1", "0"},
		{"round -1 1", "-1"},
		{"round 1 -1", "-1"},
		{"round 10 10", "1"},
		{"round 9 0", "0"},
		{"round 999999999 1", "999999999"},
		{"round -999999999 1", "-999999999"},
		{"round 999999999 -1", "-999999999"},
		{"round 999999999 999999999", "1"},
		{"round 999999999 -999999999", "-1"},
		{"round 100000000 3", "33333333"},
		{"round 1 999999999", "0"},
		{"round 5 2", "3"},
		{"round -5 2", "-2"},
		{"round 5 -2", "-2"},
		{"round -5 -2", "3"},
		{"cuts 999999999 3", "ErrRange"},
		{"cuts -999999999 3", "ErrRange"},
		{"sample 999999999 2,3", "ErrRange"},
		{"sample -999999999 2,3", "ErrRange"},
		{"grow 999999999 1", "ErrRange"},
		{"grow 1 999999999", "ErrRange"},
		{"grow -999999999 -999999999", "ErrRange"},
		{"up m 999999999", "ErrRange"},
		{"up m -999999999", "ErrRange"},
		{"promote m 1 999999999", "ErrRange"},
		{"promote m 1 -999999999", "ErrRange"},
	}) {
		changesNothing(t, x.asked, x.answer)
	}
	goes(t, orchard().with(line{"promote m 999999999 3", "ErrNone"}, line{"promote m -999999999 4", "ErrNone"}, line{"promote m 0 5", "ErrNone"}, line{"up n 6", "1"}, line{"promote n 1 7", "7"}))
}

// TestLists: none, one and several numbers, and what is none of these.
func TestLists(t *testing.T) {
	for _, x := range (talk{
		{"mean ", "0"},
		{"mean 0", "0"},
		{"mean -7", "-7"},
		{"mean 7,8", "7"},
		{"mean -7,-8", "-8"},
		{"mean 1,2,3,4,5,6,7,8,9,10", "5"},
		{"mean 999999999", "999999999"},
		{"mean -999999999,-999999999", "-999999999"},
		{"mean 999999999,-999999999", "0"},
		{"cuts 1 ", "-"},
		{"cuts 60 ", "-"},
		{"cuts 1 5", "-"},
		{"cuts 1 5,5", "-"},
		{"cuts 1 5,6", "6"},
		{"cuts 1 6,5", "6"},
		{"cuts 3 -2,-3,-4,-1", "-3,-2,-1"},
		{"cuts 60 3,1,2", "2,3"},
		{"cuts 2 1000000,-1000000,0", "0,1000000"},
	}) {
		changesNothing(t, x.asked, x.answer)
	}
	for _, form := range []string{"mean %", "cuts 1 %"} {
		for _, word := range noList() {
			changesNothing(t, strings.Replace(form, "%", word, 1), "bad")
		}
		for _, word := range noNumbers() {
			for _, list := range []string{"%", "%,3", "3,%", "3,%,4", "%,%"} {
				if list != "%" || word != "" {
					changesNothing(t, strings.Replace(form, "%", strings.ReplaceAll(list, "%", word), 1), "bad")
				}
			}
		}
	}
}

// TestLongLists: a mean is of the first 1000 numbers; cuts are of no more.
func TestLongLists(t *testing.T) {
	thousand := strings.Repeat("1,", 999) + "1"
	says(t, "mean "+thousand, "1")
	says(t, "mean "+thousand+",9,9,9", "1")
	says(t, "mean "+thousand+",-999999999", "1")
	says(t, "mean "+thousand+",x", "bad")
	says(t, "mean "+thousand+",", "bad")
	says(t, "cuts 1 "+thousand, "-")
	says(t, "cuts 1 "+thousand[:1996]+"5,5", "-")
	says(t, "cuts 60 "+thousand[:1900]+strings.Repeat("2,", 48)+"2", "2")
	says(t, "cuts 1 "+thousand+",1", "ErrFull")
	says(t, "cuts 0 "+thousand+",1", "ErrRange")
	says(t, "cuts 1 "+thousand+",1000001", "ErrFull")
	says(t, "cuts 1 "+thousand+",x", "bad")
	var numbers, rest []string
	for n := 100; n < 161; n++ {
		numbers = append(numbers, strconv.Itoa(n))
	}
	rest = numbers[1:]
	says(t, "cuts 60 "+strings.Join(numbers, ","), strings.Join(rest, ","))
	says(t, "cuts 61 "+strings.Join(numbers, ","), "ErrRange")
}

// TestRows: what chapter 3's Parse refuses, in each line that has a ROW, also where something else is wrong.
func TestRows(t *testing.T) {
	refused := talk{
		{",", "ErrSyntax"}, {"1,", "ErrSyntax"}, {",1", "ErrSyntax"}, {"1,,2", "ErrSyntax"}, {",,", "ErrSyntax"}, {"2,3,", "ErrSyntax"}, {",2,3", "ErrSyntax"},
		{"01", "ErrSyntax"}, {"-0", "ErrSyntax"}, {"00", "ErrSyntax"}, {"+1", "ErrSyntax"}, {"--", "ErrSyntax"}, {"--1", "ErrSyntax"}, {"-01", "ErrSyntax"}, {"1-", "ErrSyntax"},
		{"2,03", "ErrSyntax"}, {"02,3", "ErrSyntax"}, {"2,-0", "ErrSyntax"}, {"-,-,+", "ErrSyntax"},
		{"1000001", "ErrSyntax"}, {"-1000001", "ErrSyntax"}, {"2,1000001", "ErrSyntax"}, {"999999999", "ErrSyntax"}, {"-1125899906842624", "ErrSyntax"}, {"2,99999999999999999999", "ErrSyntax"},
		{"x", "ErrSyntax"}, {"2,x", "ErrSyntax"}, {"Nil", "ErrSyntax"}, {"1.0", "ErrSyntax"}, {"1e3", "ErrSyntax"}, {"0x1", "ErrSyntax"}, {"1_0", "ErrSyntax"}, {"2;3", "ErrSyntax"},
		{"2,3\r", "ErrSyntax"}, {"2,\t3", "ErrSyntax"}, {"2,3\x00", "ErrSyntax"}, {"\xff", "ErrSyntax"}, {"\u0663", "ErrSyntax"}, {"\u22121", "ErrSyntax"},
		{"1,2,3,4,5,6,7,8,9", "ErrFull"}, {"-,-,-,-,-,-,-,-,-", "ErrFull"}, {strings.Repeat("1,", 500) + "1", "ErrFull"},
		{"1,2,3,4,5,6,7,8,x", "ErrSyntax"}, {"1,2,3,4,5,6,7,8,9,", "ErrSyntax"}, {"1,2,3,4,5,6,7,8,9,10,11,1000001", "ErrSyntax"}, {strings.Repeat("1,", 500) + "01", "ErrSyntax"},
	}
	for _, form := range []string{"sample 1 %", "sample 1001 %", "eval %", "why %", "ask m %", "ask zz %", "ask  %", "ask M %"} {
		for _, x := range refused {
			changesNothing(t, strings.Replace(form, "%", x.asked, 1), x.answer)
		}
	}
	for _, x := range refused {
		says(t, "sample 1 "+x.asked, x.answer)
		says(t, "eval "+x.asked, x.answer)
		says(t, "why "+x.asked, x.answer)
		says(t, "ask m "+x.asked, x.answer)
		// A word too many makes a line none, whatever the others are.
		says(t, "sample 1 "+x.asked+" 1", "bad")
		says(t, "eval "+x.asked+" 1", "bad")
		says(t, "ask m "+x.asked+" ", "bad")
	}
	for _, cells := range []string{"", "0", "-", "-1", "1000000", "-1000000", "1,-", "-,-,-,-,-,-,-,-", "1,2,3,4,5,6,7,8", "-1000000,1000000"} {
		says(t, "eval "+cells, "0")
		says(t, "why "+cells, "=0")
		says(t, "ask m "+cells, "ErrNone")
	}
}

// TestNames: a NAME is any word; which of them the Shelf has is for the Shelf to say.
func TestNames(t *testing.T) {
	for _, name := range []string{
		"", "M", "Pear", "pear1", "1", "-", "0", "pe-ar", "pe.ar", "pe,ar", "abcdefghijklm", strings.Repeat("a", 2000),
		"`", "{", "@", "[", "\x00", "m\x00", "\xff", "m\xff", "\t", "m\r", "\u00e4", "\u00a0", "\u0430", "%", "\"m\"",
	} {
		changesNothing(t, "up "+name+" 3", "ErrSyntax")
		changesNothing(t, "promote "+name+" 1 3", "ErrSyntax")
		changesNothing(t, "ask "+name+" 2,3", "ErrNone")
		// A Seq that may not be is told ahead of the name.
		says(t, "up "+name+" 0", "ErrRange")
		says(t, "promote "+name+" 1 0", "ErrRange")
	}
	for _, name := range []string{"a", "z", "m", "az", "pear", "abcdefghijkl", "zzzzzzzzzzzz", "up", "mean", "wrong"} {
		goes(t, talk{{"up " + name + " 1", "1"}, {"promote " + name + " 1 2", "2"}, {"ask " + name + " ", "0"}, {"ask " + name + "z ", "ErrNone"}})
	}
	for _, name := range []string{"n", "mm", "up", "ask"} {
		changesNothing(t, "ask "+name+" 2,3", "ErrNone")
	}
}

// TestCutsErrors: how many, ahead of how many values and what they are.
func TestCutsErrors(t *testing.T) {
	for _, many := range []int{-999999999, -61, -1, 0, 61, 62, 999999999} {
		for _, list := range []string{"", "5", "5,6", "1000001"} {
			changesNothing(t, fmt.Sprintf("cuts %d %s", many, list), "ErrRange")
		}
	}
	for _, list := range []string{"1000001", "-1000001", "5,1000001", "-1000001,5", "999999999", "-999999999"} {
		changesNothing(t, "cuts 1 "+list, "ErrRange")
	}
	says(t, "cuts 1 1000000", "-")
	says(t, "cuts 1 -1000000,1000000", "1000000")
}

// TestSamples: of how many cells the first one is, all are; what is refused leaves those that were there.
func TestSamples(t *testing.T) {
	for _, x := range (talk{
		{"sample 1 ", "ErrShape"},
		{"sample 1 2", "ErrShape"},
		{"sample 1 2,3,4", "ErrShape"},
		{"sample 1 1,2,3,4,5,6,7,8", "ErrShape"},
		{"sample 1 1,2,3,4,5,6,7,8,9", "ErrFull"},
		{"sample 1 -,3", "ErrNone"},
		{"sample 1 2,-", "ErrNone"},
		{"sample 1 -,-", "ErrNone"},
		{"sample 1 -", "ErrShape"},
		{"sample 1001 2,3", "ErrRange"},
		{"sample -1001 2,3", "ErrRange"},
		{"sample 1001 2", "ErrRange"},
		{"sample 1001 -,3", "ErrRange"},
		{"sample 1 x", "ErrSyntax"},
		{"sample x 2,3", "bad"},
	}) {
		changesNothing(t, x.asked, x.answer)
	}
	goes(t, talk{
		{"sample 1 -", "ErrNone"},
		{"sample 1001 ", "ErrRange"},
		{"wrong", "ErrNone"},
		{"sample 1000 4", "ok"},
		{"wrong", "1000000"},
		{"sample 3 4,5", "ErrShape"},
		{"wrong", "1000000"},
		{"sample -1000 -1000000", "ok"},
		{"wrong", "2000000"},
		{"sample 0 1000000", "ok"},
		{"wrong", "2000000"},
		{"sample 5 ", "ErrShape"},
		{"grow 5 1", "5"},
		{"wrong", "0"},
		{"why 1000000", "f0>=4 f0>=1000000 =0"},
		{"why 999999", "f0>=4 f0<1000000 =1000"},
		{"why 3", "f0<4 =-1000"},
		{"why -", "f0? f0? =0"},
	})
	for cells := range 9 {
		first := strings.TrimSuffix(strings.Repeat("5,", cells), ",")
		l := talk{{"sample 2 " + first, "ok"}}
		for others := range 9 {
			answer := "ErrShape"
			if others == cells {
				answer = "ok"
			}
			l = l.with(line{"sample 2 " + strings.TrimSuffix(strings.Repeat("7,", others), ","), answer})
		}
		goes(t, l.with(line{"wrong", "8"}))
	}
}

// refusedAt gives how a sample is refused behind the one of place i: there may be no more behind the last one.
func refusedAt(i int, otherwise string) string {
	if i == 59 {
		return "ErrFull"
	}
	return otherwise
}

// TestManySamples: there are no more than 60 of them, and one that is refused leaves its room to the next.
func TestManySamples(t *testing.T) {
	var l talk
	for i := range 60 {
		l = l.with(line{fmt.Sprintf("sample %d %d", i%7, i), "ok"})
		if i%10 == 9 {
			l = l.with(line{"sample 1 ,", "ErrSyntax"}, line{"sample 1001 2", refusedAt(i, "ErrRange")}, line{"sample 1 2,3", refusedAt(i, "ErrShape")})
		}
	}
	for range 3 {
		l = l.with(line{"sample 1 61", "ErrFull"}, line{"sample 1 -", "ErrFull"}, line{"sample 1001 1,2", "ErrFull"}, line{"sample 1 x", "ErrSyntax"}, line{"sample 0 ", "ErrFull"})
	}
	// Targets are 0 to 6 in turn, and 0 to 3 once more.
	goes(t, l.with(line{"wrong", "742"}))
}

// TestGrow: no samples; depth and least at both ends of what they may be, and beyond; and what is refused leaves the tree.
func TestGrow(t *testing.T) {
	for _, depth := range []int{-1, 0, 3, 5, 6} {
		for _, least := range []int{-1, 0, 1, 30, 60, 61} {
			goes(t, talk{{fmt.Sprintf("grow %d %d", depth, least), "ErrNone"}, {"eval ", "0"}, {"why 3", "=0"}})
		}
	}
	for _, depth := range []int{-999999999, -2, -1, 6, 7, 60, 999999999} {
		for _, least := range []int{-1, 0, 1, 60, 61} {
			changesNothing(t, fmt.Sprintf("grow %d %d", depth, least), "ErrRange")
		}
	}
	for _, least := range []int{-999999999, -1, 0, 61, 62, 999999999} {
		for depth := range 6 {
			changesNothing(t, fmt.Sprintf("grow %d %d", depth, least), "ErrRange")
		}
	}
	goes(t, orchard().with(
		line{"grow 0 1", "1"}, line{"eval 1,1", "7"}, line{"why ", "=7"}, line{"wrong", "794"},
		line{"grow 5 1", "5"}, line{"wrong", "0"}, line{"why ", "ErrRange"},
		line{"grow 5 60", "1"}, line{"wrong", "794"},
		line{"grow 5 2", "1"}, line{"wrong", "794"},
		line{"grow 2 1", "5"}, line{"wrong", "0"},
		line{"grow 6 1", "ErrRange"}, line{"wrong", "0"},
		line{"grow 0 60", "1"}, line{"wrong", "794"},
		line{"ask m 2,0", "-5"},
	))
}

// TestDeepTree: as many nodes as there may be, and all words of a long way. What is to be told of 32 numbers rises evenly, so they are halved at each question.
func TestDeepTree(t *testing.T) {
	var l talk
	for i := range 32 {
		l = l.with(line{fmt.Sprintf("sample %d %d", 30*i-500, i), "ok"})
	}
	l = l.with(line{"grow 4 1", "31"}, line{"wrong", "7200"}, line{"grow 5 1", "63"}, line{"wrong", "0"}, line{"why -", "f0? f0? f0? f0? f0? =430"})
	for i := range 32 {
		l = l.with(line{fmt.Sprintf("eval %d", i), fmt.Sprint(30*i - 500)}, line{fmt.Sprintf("why %d", i), halved(i)})
	}
	goes(t, l.with(
		line{"why -1000000", halved(0)}, line{"why 1000000", halved(31)},
		line{"up m 1", "1"}, line{"promote m 1 2", "2"}, line{"grow 0 1", "1"},
		line{"eval 17", "-35"}, line{"ask m 17", "10"}, line{"ask m -", "430"},
	))
}

// halved is the way to a number from 0 to 31, and what is told of it.
func halved(n int) string {
	way := ""
	for low, many := 0, 16; many > 0; many /= 2 {
		if n < low+many {
			way += fmt.Sprintf("f0<%d ", low+many)
		} else {
			low += many
			way += fmt.Sprintf("f0>=%d ", low)
		}
	}
	return way + fmt.Sprintf("=%d", 30*n-500)
}

// TestEval: rows that are too short, ahead of any grow and behind one, and cells that are not there.
func TestEval(t *testing.T) {
	l := talk{{"sample 10 0,0,1", "ok"}, {"sample 20 0,0,2", "ok"}, {"sample 30 0,0,2", "ok"}}
	for _, cells := range []string{"", "1", "1,1", "1,1,1", "1,1,1,1", "-", "-,-,-", "1,1,1,1,1,1,1,1"} {
		l = l.with(line{"eval " + cells, "0"}, line{"why " + cells, "=0"})
	}
	l = l.with(line{"grow 1 1", "3"})
	for _, cells := range []string{"", "1", "-", "1,1", "-,-"} {
		l = l.with(line{"eval " + cells, "ErrRange"}, line{"why " + cells, "ErrRange"})
	}
	goes(t, l.with(
		line{"eval 5,5,1", "10"}, line{"why 5,5,1", "f2<2 =10"},
		line{"eval 5,5,2", "25"}, line{"why 5,5,2", "f2>=2 =25"},
		line{"eval 5,5,-", "25"}, line{"why 5,5,-", "f2? =25"},
		line{"eval -,-,1", "10"}, line{"why -,-,1", "f2<2 =10"},
		line{"eval -,-,-", "25"}, line{"why -,-,-", "f2? =25"},
		line{"eval 5,5,1,7", "10"}, line{"why 5,5,2,7,7,7,7,-", "f2>=2 =25"},
		line{"eval 5,5,-1000000", "10"}, line{"why 5,5,1000000", "f2>=2 =25"},
		line{"eval 5,5,1,7,7,7,7,7,7", "ErrFull"}, line{"why 5,5,1,7,7,7,7,7,7", "ErrFull"},
	))
}

// TestWrong: without samples, behind some, and behind a tree of them.
func TestWrong(t *testing.T) {
	goes(t, talk{
		{"wrong", "ErrNone"},
		{"sample 3 1,1", "ok"},
		{"wrong", "9"},
		{"sample -4 2,1", "ok"},
		{"wrong", "25"},
		{"grow 0 1", "1"},
		{"wrong", "25"},
		{"grow 1 1", "3"},
		{"wrong", "0"},
		{"sample 9 2,1", "ok"},
		{"wrong", "169"},
		{"grow 1 1", "3"},
		{"wrong", "85"},
	})
}

// TestUp: its Seq has to rise, and one that has been is answered as it was; a NAME that is refused does not count.
func TestUp(t *testing.T) {
	goes(t, talk{
		{"up m 5", "1"},
		{"up m 5", "1"},
		{"up n 5", "1"},
		{"up M 5", "ErrSyntax"},
		{"up m 4", "ErrState"},
		{"up m 1", "ErrState"},
		{"up m 0", "ErrRange"},
		{"up m -1", "ErrRange"},
		{"up m 1000001", "ErrRange"},
		{"up M 6", "ErrSyntax"},
		{"up  7", "ErrSyntax"},
		{"up m 6", "2"},
		{"up m 6", "2"},
		{"up m 7", "3"},
		{"up n 8", "1"},
		{"promote m 4 9", "ErrNone"},
		{"up m 9", "ErrNone"},
		{"promote m 3 10", "6"},
		{"up m 10", "0"},
		{"up m 999999", "4"},
		{"up m 1000000", "5"},
		{"up m 1000000", "5"},
		{"up n 1000000", "5"},
		{"up m 999999", "ErrState"},
		{"up m 1000001", "ErrRange"},
	})
}

// TestManyNames: the ninth is too many, which counts; those that have been may have more versions.
func TestManyNames(t *testing.T) {
	var l talk
	for i := range 8 {
		l = l.with(line{fmt.Sprintf("up %c %d", 'a'+i, i+1), "1"})
	}
	goes(t, l.with(
		line{"up i 9", "ErrFull"},
		line{"up i 9", "ErrFull"},
		line{"up a 9", "ErrFull"},
		line{"up a 8", "ErrState"},
		line{"up a 10", "2"},
		line{"up h 11", "2"},
		line{"up i 12", "ErrFull"},
		line{"promote a 2 13", "13"},
		line{"ask a ", "0"},
	))
}

// TestUpFeatures: a version has as many features as the first Row had then, and the tree that was there then.
func TestUpFeatures(t *testing.T) {
	goes(t, talk{
		{"up m 1", "1"},
		{"promote m 1 2", "2"},
		{"ask m ", "0"},
		{"ask m 1", "ErrShape"},
		{"sample 6 1,1", "ok"},
		{"ask m ", "0"},
		{"ask m 1,1", "ErrShape"},
		{"up m 3", "2"},
		{"promote m 2 4", "4"},
		{"ask m ", "ErrShape"},
		{"ask m 1", "ErrShape"},
		{"ask m 1,1", "0"},
		{"ask m 1,1,1", "ErrShape"},
		{"ask m -,-", "0"},
		{"grow 0 1", "1"},
		{"ask m 1,1", "0"},
		{"up m 5", "3"},
		{"ask m 1,1", "0"},
		{"promote m 3 6", "6"},
		{"ask m 1,1", "6"},
		{"sample 7 1,2", "ok"},
		{"grow 1 1", "3"},
		{"ask m 1,1", "6"},
		{"eval 1,2", "7"},
		{"up m 7", "4"},
		{"promote m 4 8", "8"},
		{"grow 0 1", "1"},
		{"ask m 1,2", "7"},
		{"ask m 1,1", "6"},
		{"ask m 1,-", "7"},
		{"ask m 1", "ErrShape"},
		{"ask m ", "ErrShape"},
	})
	goes(t, talk{
		{"sample 6 1,1,1,1,1,1,1,1", "ok"},
		{"up m 1", "1"},
		{"promote m 1 2", "2"},
		{"ask m 1,1,1,1,1,1,1,1", "0"},
		{"ask m 1,1,1,1,1,1,1", "ErrShape"},
	})
}

// TestPromote: what is there, what is not, what is Live already or was, and the same Seq once more.
func TestPromote(t *testing.T) {
	goes(t, talk{
		{"promote m 1 1", "ErrNone"},
		{"promote m 1 1", "ErrNone"},
		{"up m 1", "ErrNone"},
		{"up m 2", "1"},
		{"promote m 1 2", "2"},
		{"ask m ", "ErrNone"},
		{"promote m 0 3", "ErrNone"},
		{"promote m 2 4", "ErrNone"},
		{"promote m -1 5", "ErrNone"},
		{"promote n 1 6", "ErrNone"},
		{"promote m 1 6", "ErrNone"},
		{"ask m ", "ErrNone"},
		{"promote m 1 7", "7"},
		{"ask m ", "0"},
		{"promote m 1 7", "7"},
		{"promote n 9 7", "7"},
		{"promote N 9 7", "ErrSyntax"},
		{"promote m 1 8", "ErrState"},
		{"promote m 1 8", "ErrState"},
		{"ask m ", "0"},
		{"promote m 1 7", "ErrState"},
		{"promote m 1 0", "ErrRange"},
		{"promote m 1 1000001", "ErrRange"},
		{"promote m 1 -7", "ErrRange"},
		{"up m 9", "2"},
		{"promote m 2 1000000", "10"},
		{"promote m 2 1000000", "10"},
		{"up zz 1000000", "0"},
	})
	goes(t, orchard().with(
		line{"grow 0 1", "1"},
		line{"up m 3", "2"},
		line{"promote m 2 4", "4"},
		line{"ask m 2,0", "7"},
		line{"promote m 1 5", "ErrState"},
		line{"promote m 2 6", "ErrState"},
		line{"ask m 2,0", "7"},
		line{"up m 7", "3"},
		line{"promote m 3 8", "8"},
		line{"promote m 2 9", "ErrState"},
		line{"ask m 2,0", "7"},
	))
}

// TestAsk: what is Live, a NAME without such a version, and one that is not there.
func TestAsk(t *testing.T) {
	goes(t, orchard().with(
		line{"up draft 3", "1"},
		line{"ask m 1,7", "-5"},
		line{"ask m 3,7", "30"},
		line{"ask m -,7", "-5"},
		line{"ask m 3,-", "30"},
		line{"ask draft 1,7", "ErrNone"},
		line{"ask draft ", "ErrNone"},
		line{"ask none 1,7", "ErrNone"},
		line{"ask m 1", "ErrShape"},
		line{"ask m ", "ErrShape"},
		line{"ask m 1,7,7", "ErrShape"},
		line{"ask m 1,2,3,4,5,6,7,8", "ErrShape"},
		line{"ask m 1,2,3,4,5,6,7,8,9", "ErrFull"},
		line{"ask m 1,x", "ErrSyntax"},
		line{"ask draft 1,x", "ErrSyntax"},
		line{"ask none 1,2,3,4,5,6,7,8,9", "ErrFull"},
		line{"ask m", "bad"},
		line{"ask", "bad"},
		line{"promote draft 1 4", "4"},
		line{"ask draft 3,7", "30"},
		line{"ask m 3,7", "30"},
	))
}

// teller tells a second time what a text is answered.
type teller struct {
	samples []api.Sample
	tree    []api.Node
	models  map[string]*model
	// seq is that of the last call that counted; was is how it was answered.
	seq, index int
	was        reply
}

// model has its versions, the first of them at 0, and which one is live, told by Number; 0, if none is.
type model struct {
	versions []version
	live     int
}

type version struct {
	features int
	tree     []api.Node
	used     bool
}

// reply of a call: its two numbers, or the name of an error.
type reply struct {
	number, index int
	wrong         string
}

// What words are, as patterns.
const (
	digits = `(0|-?[1-9][0-9]{0,8})`
	list   = `(|(?:0|-?[1-9][0-9]{0,8})(?:,(?:0|-?[1-9][0-9]{0,8}))*)`
	word   = `([^ ]*)`
)

var (
	forms = regexp.MustCompile(`\A(?:mean ` + list + `|round ` + digits + ` ` + digits + `|cuts ` + digits + ` ` + list + `|sample ` + digits + ` ` + word + `|grow ` + digits + ` ` + digits +
		`|eval ` + word + `|why ` + word + `|wrong|up ` + word + ` ` + digits + `|promote ` + word + ` ` + digits + ` ` + digits + `|ask ` + word + ` ` + word + `)\z`)
	cell = regexp.MustCompile(`\A(?:-|0|-?[1-9][0-9]{0,6})\z`)
	name = regexp.MustCompile(`\A[a-z]{1,12}\z`)
)

// retold gives the answer to a text.
func retold(text string) string {
	if len(text) >= 3001 {
		return "too long\n"
	}
	r := &teller{tree: []api.Node{{Feature: -1}}, models: map[string]*model{}}
	told := ""
	for len(text) > 0 {
		end := strings.IndexByte(text, '\n')
		next := end + 1
		if end < 0 {
			end, next = len(text), len(text)
		}
		told += r.line(text[:end]) + "\n"
		text = text[next:]
	}
	return told
}

func (r *teller) line(line string) string {
	if !forms.MatchString(line) {
		return "bad"
	}
	w := strings.Split(line, " ")
	switch w[0] {
	case "mean":
		return fmt.Sprint(meanOf(numbers(w[1])))
	case "round":
		return fmt.Sprint(roundOf(numbers(w[1])[0], numbers(w[2])[0]))
	case "cuts":
		return cutsOf(numbers(w[1])[0], numbers(w[2]))
	case "sample":
		return r.sample(numbers(w[1])[0], w[2])
	case "grow":
		return r.grow(numbers(w[1])[0], numbers(w[2])[0])
	case "eval":
		return ofRow(w[1], func(row []int) string { return evalOf(r.tree, row) })
	case "why":
		return ofRow(w[1], func(row []int) string { return whyOf(r.tree, row) })
	case "up":
		return r.call(numbers(w[2])[0], w[1], func() reply { return r.upload(w[1]) }, func(a reply) int { return a.number })
	case "promote":
		return r.call(numbers(w[3])[0], w[1], func() reply { return r.promote(w[1], numbers(w[2])[0]) }, func(a reply) int { return a.index })
	case "ask":
		return ofRow(w[2], func(row []int) string { return r.ask(w[1], row) })
	}
	if len(r.samples) == 0 {
		return "ErrNone"
	}
	return fmt.Sprint(squares(r.tree, r.samples))
}

// numbers that a word has, which is known to be some.
func numbers(word string) []int {
	var l []int
	for part := range strings.SplitSeq(word, ",") {
		var n int
		if _, err := fmt.Sscanf(part, "%d", &n); err == nil {
			l = append(l, n)
		}
	}
	return l
}

// floor gives a over b, above 0, rounded down.
func floor(a, b int) int {
	return int(new(big.Int).Div(big.NewInt(int64(a)), big.NewInt(int64(b))).Int64())
}

func meanOf(l []int) int {
	l = l[:min(len(l), 1000)]
	sum := 0
	for _, n := range l {
		sum += n
	}
	if len(l) == 0 {
		return 0
	}
	return floor(sum, len(l))
}

func roundOf(a, b int) int {
	switch {
	case b == 0:
		return 0
	case b < 0:
		return roundOf(-a, -b)
	}
	return floor(2*a+b, 2*b)
}

func cutsOf(many int, l []int) string {
	switch {
	case many < 1 || many > 60:
		return "ErrRange"
	case len(l) > 1000:
		return "ErrFull"
	case slices.ContainsFunc(l, func(n int) bool { return n < -1000000 || n > 1000000 }):
		return "ErrRange"
	}
	slices.Sort(l)
	told := ""
	for i, last := 1, 0; i <= many && len(l) > 0; i++ {
		n := l[i*len(l)/(many+1)]
		if n != l[0] && (told == "" || n != last) {
			told += fmt.Sprintf(",%d", n)
			last = n
		}
	}
	if told == "" {
		return "-"
	}
	return told[1:]
}

// ofRow gives what is said of a row that a word is, or what is wrong with it.
func ofRow(word string, said func(row []int) string) string {
	if word == "" {
		return said(nil)
	}
	var row []int
	for part := range strings.SplitSeq(word, ",") {
		if !cell.MatchString(part) {
			return "ErrSyntax"
		}
		n := api.Nil
		if part != "-" {
			n = numbers(part)[0]
			if n > 1000000 || n < -1000000 {
				return "ErrSyntax"
			}
		}
		row = append(row, n)
	}
	if len(row) > 8 {
		return "ErrFull"
	}
	return said(row)
}

func (r *teller) sample(target int, word string) string {
	return ofRow(word, func(row []int) string {
		switch {
		case len(r.samples) == 60:
			return "ErrFull"
		case target < -1000 || target > 1000:
			return "ErrRange"
		case len(r.samples) > 0 && len(row) != len(r.samples[0].Row):
			return "ErrShape"
		case slices.Contains(row, api.Nil):
			return "ErrNone"
		}
		r.samples = append(r.samples, api.Sample{Row: row, Target: target})
		return "ok"
	})
}

func (r *teller) grow(depth, least int) string {
	switch {
	case len(r.samples) == 0:
		return "ErrNone"
	case depth < 0 || depth > 5 || least < 1 || least > 60:
		return "ErrRange"
	}
	t, err := grow.Fit(r.samples, len(r.samples[0].Row), depth, least)
	if err != nil {
		panic(err)
	}
	r.tree = t
	return fmt.Sprint(len(t))
}

// leafOf a tree to which a row comes that has enough cells; on the way each node is told of.
func leafOf(t []api.Node, row []int, tell ...func(n api.Node, cell int)) api.Node {
	n := t[0]
	for n.Feature >= 0 {
		x := row[n.Feature]
		for _, f := range tell {
			f(n, x)
		}
		if x == api.Nil && n.Less || x != api.Nil && x < n.Cut {
			n = t[n.Left]
		} else {
			n = t[n.Right]
		}
	}
	return n
}

// asksFor tells whether a tree asks for more than so many cells.
func asksFor(t []api.Node, cells int) bool {
	return slices.ContainsFunc(t, func(n api.Node) bool { return n.Feature >= cells })
}

func evalOf(t []api.Node, row []int) string {
	if asksFor(t, len(row)) {
		return "ErrRange"
	}
	return fmt.Sprint(leafOf(t, row).Value)
}

func whyOf(t []api.Node, row []int) string {
	if asksFor(t, len(row)) {
		return "ErrRange"
	}
	told := ""
	n := leafOf(t, row, func(n api.Node, cell int) {
		switch {
		case cell == api.Nil:
			told += fmt.Sprintf("f%d? ", n.Feature)
		case cell < n.Cut:
			told += fmt.Sprintf("f%d<%d ", n.Feature, n.Cut)
		default:
			told += fmt.Sprintf("f%d>=%d ", n.Feature, n.Cut)
		}
	})
	return told + fmt.Sprintf("=%d", n.Value)
}

func squares(t []api.Node, l []api.Sample) int {
	sum := 0
	for _, s := range l {
		off := s.Target - leafOf(t, s.Row).Value
		sum += off * off
	}
	return sum
}

// call the Shelf, by session 0; what is told of the reply is one of its numbers.
func (r *teller) call(seq int, model string, do func() reply, of func(reply) int) string {
	switch {
	case seq < 1 || seq > 1000000:
		return "ErrRange"
	case !name.MatchString(model):
		return "ErrSyntax"
	case seq < r.seq:
		return "ErrState"
	case seq > r.seq:
		r.seq, r.index = seq, r.index+1
		r.was = do()
	}
	if r.was.wrong != "" {
		return r.was.wrong
	}
	return fmt.Sprint(of(r.was))
}

func (r *teller) upload(name string) reply {
	m := r.models[name]
	if m == nil {
		if len(r.models) == 8 {
			return reply{wrong: "ErrFull"}
		}
		m = &model{}
		r.models[name] = m
	}
	features := 0
	if len(r.samples) > 0 {
		features = len(r.samples[0].Row)
	}
	m.versions = append(m.versions, version{features: features, tree: r.tree})
	return reply{number: len(m.versions), index: r.index}
}

func (r *teller) promote(name string, number int) reply {
	m := r.models[name]
	if m == nil || number < 1 || number > len(m.versions) {
		return reply{wrong: "ErrNone"}
	}
	v := &m.versions[number-1]
	if v.used {
		return reply{wrong: "ErrState"}
	}
	v.used, m.live = true, number
	return reply{index: r.index}
}

func (r *teller) ask(name string, row []int) string {
	m := r.models[name]
	if m == nil || m.live == 0 {
		return "ErrNone"
	}
	v := m.versions[m.live-1]
	if v.features != len(row) {
		return "ErrShape"
	}
	return evalOf(v.tree, row)
}

// noise: numbers that look as if they had no order, the same ones each time.
type noise uint64

func (s *noise) below(n int) int {
	*s = *s*6364136223846793005 + 1442695040888963407
	return int(uint64(*s) >> 33 % uint64(n))
}

// oneOf some texts.
func (s *noise) oneOf(l ...string) string { return l[s.below(len(l))] }

// number is mostly one that may be anywhere.
func (s *noise) number() string {
	switch s.below(12) {
	case 0:
		return s.oneOf("999999999", "-999999999", "1000001", "-1000001", "1000000", "-1000000", "60", "61", "1000", "1001", "-1000", "-1001")
	case 1:
		return noNumbers()[s.below(len(noNumbers()))]
	case 2:
		return fmt.Sprint(s.below(2000001) - 1000000)
	}
	return fmt.Sprint(s.below(30) - 10)
}

func (s *noise) list() string {
	if s.below(12) == 0 {
		return noList()[s.below(len(noList()))]
	}
	var l []string
	for range s.below(9) {
		l = append(l, s.number())
	}
	return strings.Join(l, ",")
}

// row is mostly one of so many cells.
func (s *noise) row(cells, goneOf int) string {
	if s.below(10) == 0 {
		cells = s.below(10)
	}
	var l []string
	for range cells {
		switch {
		case s.below(goneOf) == 0:
			l = append(l, "-")
		case s.below(40) == 0:
			l = append(l, s.number())
		default:
			l = append(l, fmt.Sprint(s.below(7)))
		}
	}
	return strings.Join(l, ",")
}

// name is mostly one of a few, or of many.
func (s *noise) name(many bool) string {
	switch {
	case s.below(12) == 0:
		return s.oneOf("", "M", "m1", "abcdefghijklm", "\xff", "\x00", "\u00e4", "-")
	case many:
		return string(rune('a' + s.below(12)))
	}
	return s.oneOf("m", "m", "n", "pear")
}

// seq is mostly one more than the last.
func (s *noise) seq(last *int) string {
	switch s.below(8) {
	case 0:
		return s.oneOf("0", "-1", "1000001", "1", "2", "3", "-", "01")
	case 1, 2:
		return fmt.Sprint(*last)
	}
	*last += 1 + s.below(2)
	return fmt.Sprint(*last)
}

// line is mostly one that is taken; with many names it is more often one of the Shelf.
func (s *noise) line(cells int, many bool, last *int) string {
	kind := s.below(16)
	if many && s.below(3) > 0 {
		kind = 12 + s.below(3)
	}
	switch kind {
	case 0:
		return "mean " + s.list()
	case 1:
		return "round " + s.number() + " " + s.number()
	case 2:
		return "cuts " + s.oneOf("1", "2", "3", s.number()) + " " + s.list()
	case 3, 4, 5, 6:
		return "sample " + s.number() + " " + s.row(cells, 60)
	case 7:
		return "grow " + s.oneOf("0", "1", "2", "3", "5", s.number()) + " " + s.oneOf("1", "1", "2", s.number())
	case 8:
		return "eval " + s.row(cells, 5)
	case 9, 10:
		return "why " + s.row(cells, 5)
	case 11:
		return "wrong"
	case 12:
		return "up " + s.name(many) + " " + s.seq(last)
	case 13:
		return "promote " + s.name(many) + " " + s.oneOf("1", "2", "3", s.number()) + " " + s.seq(last)
	}
	return "ask " + s.name(many) + " " + s.row(cells, 5)
}

// broken is a line of which a byte is left out, is there twice, or is another one, or that has a blank more.
func (s *noise) broken(line string) string {
	at := s.below(len(line))
	switch s.below(4) {
	case 0:
		return line[:at] + line[at+1:]
	case 1:
		return line[:at+1] + line[at:]
	case 2:
		at = s.below(len(line) + 1)
		return line[:at] + " " + line[at:]
	}
	return line[:at] + s.oneOf(" ", ",", "-", "0", "\n", "x", "\x00", "\xff", "\r", "1") + line[at+1:]
}

// text of up to so many lines.
func (s *noise) text(lines int) string {
	var b strings.Builder
	cells, many, last := s.below(4), s.below(4) == 0, 0
	for range s.below(lines + 1) {
		line := s.line(cells, many, &last)
		if s.below(15) == 0 {
			line = s.broken(line)
		}
		b.WriteString(line + "\n")
	}
	text := b.String()
	if s.below(3) == 0 {
		text = strings.TrimSuffix(text, "\n")
	}
	return text
}

// sort of an answer: a name, or what else it is.
func sort(answer string) string {
	switch {
	case strings.HasPrefix(answer, "Err"), answer == "ok", answer == "bad", answer == "-":
		return answer
	case strings.Contains(answer, " "):
		return "way"
	}
	return "number"
}

// TestSecondTelling: texts of many kinds, answered as they are told a second time; each line has been answered in each way that it may.
func TestSecondTelling(t *testing.T) {
	s := noise(61)
	seen := map[string]int{}
	for range 4000 {
		text := s.text(90)
		want := retold(text)
		if got := run.Run(text); got != want {
			t.Fatalf("%q is answered\n%q, want\n%q", text, got, want)
		}
		lines, told := strings.Split(text, "\n"), strings.Split(want, "\n")
		for i, answer := range told[:len(told)-1] {
			word, _, _ := strings.Cut(lines[min(i, len(lines)-1)], " ")
			seen[word+" "+sort(answer)]++
		}
	}
	for _, want := range []string{
		"mean bad", "mean number", "round bad", "round number",
		"cuts bad", "cuts number", "cuts -", "cuts ErrRange",
		"sample bad", "sample ok", "sample ErrSyntax", "sample ErrFull", "sample ErrRange", "sample ErrShape", "sample ErrNone",
		"grow bad", "grow number", "grow ErrNone", "grow ErrRange",
		"eval bad", "eval number", "eval ErrSyntax", "eval ErrFull", "eval ErrRange",
		"why bad", "why number", "why way", "why ErrSyntax", "why ErrFull", "why ErrRange",
		"wrong bad", "wrong number", "wrong ErrNone",
		"up bad", "up number", "up ErrSyntax", "up ErrRange", "up ErrState", "up ErrNone", "up ErrFull",
		"promote bad", "promote number", "promote ErrSyntax", "promote ErrRange", "promote ErrState", "promote ErrNone", "promote ErrFull",
		"ask bad", "ask number", "ask ErrSyntax", "ask ErrFull", "ask ErrNone", "ask ErrShape",
	} {
		if seen[want] < 5 {
			t.Errorf("%s was seen %d times", want, seen[want])
		}
	}
}

// beginnings of a text: the first lines of it, of each number of them, with the last byte 10 and without it where nothing else tells how many there are.
func beginnings(text string) (l []string) {
	for i, c := range []byte(text) {
		if c == '\n' {
			l = append(l, text[:i+1])
			if i > 0 && text[i-1] != '\n' {
				l = append(l, text[:i])
			}
		}
	}
	return append(l, "", text)
}

// holdsBeginnings holds the answers to the first lines of a text to be the beginning of the answers to all: as many as there are lines.
func holdsBeginnings(t *testing.T, text string) {
	t.Helper()
	all := run.Run(text)
	for _, first := range beginnings(text) {
		got := run.Run(first)
		lines := strings.Count(first, "\n")
		if first != "" && !strings.HasSuffix(first, "\n") {
			lines++
		}
		if !strings.HasPrefix(all, got) || strings.Count(got, "\n") != lines || got != "" && !strings.HasSuffix(got, "\n") {
			t.Fatalf("%q is answered %q, of which the beginning %q is answered %q", text, all, first, got)
		}
	}
}

// TestBeginnings: of texts of many kinds, and of one that all but comes to the end of what may be.
func TestBeginnings(t *testing.T) {
	s := noise(62)
	for range 300 {
		holdsBeginnings(t, s.text(60))
	}
	for _, text := range []string{"", "\n", "\n\n\n", "mean 4", "mean 4\n", "mean 4\n\nmean 5", orchard().text(), orchard().with(same()...).text(), strings.Repeat("\n", 400), long(3000)} {
		holdsBeginnings(t, text)
	}
	var full string
	for len(full) < 2800 {
		full += s.text(5)
	}
	holdsBeginnings(t, full[:min(len(full), 3000)])
}

// TestLongBeginnings: the first lines of a text that is too long are answered, as far as they are not.
func TestLongBeginnings(t *testing.T) {
	text := long(3500)
	for lines := 1; lines <= 500; lines++ {
		want := strings.Repeat("7\n", lines)
		if lines*7 > 3000 {
			want = "too long\n"
		}
		answers(t, text[:lines*7], want)
	}
}

// TestSameAgain: a text is answered alike, whatever was answered between, and also at one time with others.
func TestSameAgain(t *testing.T) {
	s := noise(63)
	var texts, first []string
	for range 200 {
		text := s.text(40)
		texts = append(texts, text)
		first = append(first, run.Run(text))
	}
	for i := range texts {
		at := len(texts) - 1 - i
		answers(t, texts[at], first[at])
		answers(t, texts[at], first[at])
	}
	var all sync.WaitGroup
	for i, text := range texts {
		all.Go(func() { answers(t, text, first[i]) })
	}
	all.Wait()
}

// TestNothingStays: what one text leaves another does not find, and a line behind the end is as one ahead of it.
func TestNothingStays(t *testing.T) {
	for range 3 {
		goes(t, orchard())
		goes(t, talk{
			{"wrong", "ErrNone"},
			{"eval ", "0"},
			{"why ", "=0"},
			{"grow 1 1", "ErrNone"},
			{"ask m 2,0", "ErrNone"},
			{"promote m 1 1", "ErrNone"},
			{"up m 2", "1"},
			{"sample 5 1,2,3", "ok"},
			{"wrong", "25"},
		})
		answers(t, long(3001), "too long\n")
		answers(t, "wrong\nup m 1", "ErrNone\n1\n")
	}
}

// FuzzRun: any text is answered as it is told a second time, a line by a line.
func FuzzRun(f *testing.F) {
	s := noise(64)
	for range 60 {
		f.Add(s.text(20))
	}
	f.Add("")
	f.Add("\n")
	f.Add(orchard().with(good()...).text())
	f.Add(long(3000))
	f.Add(long(3001))
	f.Fuzz(func(t *testing.T, text string) {
		answers(t, text, retold(text))
		if len(text) <= 600 {
			holdsBeginnings(t, text)
		}
	})
}
