package shelf_test

import (
	"errors"
	"fmt"
	"math"
	"reflect"
	"runtime"
	"slices"
	"strings"
	"testing"
	"unsafe"

	"orchardry/api"
	"orchardry/code"
	"orchardry/grove"
	"orchardry/shelf"
)

const (
	latest  = api.MaxTime
	lowest  = math.MinInt
	highest = math.MaxInt
)

// none stands for an error that is nil.
const none = api.OK

// told gives what an error tells; -1, if it is none of the program's, or OK, which no error may be.
func told(err error) api.Errno {
	var e api.Errno
	switch {
	case err == nil:
		return none
	case errors.As(err, &e) && e != api.OK:
		return e
	}
	return -1
}

// octets are bytes that are handed in.
type octets = []byte

// versions that there are.
type versions = []api.Version

// noise: numbers that look as if they had no order, the same ones each time.
type noise uint64

func (s *noise) below(n int) int {
	*s = *s*6364136223846793005 + 1442695040888963407
	return int(uint64(*s) >> 33 % uint64(n))
}

func (s *noise) pick(l ...int) int { return l[s.below(len(l))] }

// leaf is a grove of one leaf, which its Value tells from others.
func leaf(value int) api.Grove {
	return api.Grove{Way: api.Sum, Weights: []int{1}, Trees: [][]api.Node{{{Feature: api.Leaf, Value: value}}}}
}

// large is a grove of several trees.
func large() api.Grove {
	return api.Grove{Features: 2, Way: api.Mean, Weights: []int{3, 1}, Trees: [][]api.Node{
		{{Feature: 1, Cut: 5, Left: 1, Right: 2, Less: true}, {Feature: api.Leaf, Value: -7}, {Feature: api.Leaf, Value: 9}},
		{{Feature: api.Leaf, Value: 4}},
	}}
}

// written gives a grove as bytes.
func written(g api.Grove) octets {
	b, err := code.Encode(g)
	if err != nil {
		panic(err)
	}
	return b
}

// version has a Name, a Number, a Stage and a Share.
func version(name string, number, stage, share int) api.Version {
	return api.Version{Name: name, Number: number, Stage: stage, Share: share}
}

// answer has a Number and an Index.
func answer(number, index int) api.Answer { return api.Answer{Number: number, Index: index} }

// up is an Upload of a leaf, of session 0 if nothing else is said.
func up(seq int, name string, value int) api.Call {
	return api.Call{What: api.Upload, Seq: seq, Name: name, Bytes: written(leaf(value))}
}

// change is a call of session 0 that asks for a version.
func change(what, seq int, name string, number, share int) api.Call {
	return api.Call{What: what, Seq: seq, Name: name, Number: number, Share: share}
}

// short tells of a call, of long texts and bytes only how they begin.
func short(c api.Call) string {
	name, b := c.Name[:min(len(c.Name), 20)], c.Bytes[:min(len(c.Bytes), 20)]
	return fmt.Sprintf("{What %d Session %d Seq %d Name %q Number %d Share %d Bytes %v of %d}", c.What, c.Session, c.Seq, name, c.Number, c.Share, b, len(c.Bytes))
}

// hand is a shelf, and who asks it: session 0, each call with a Seq of its own.
type hand struct {
	*testing.T
	*shelf.Shelf
	seq int
}

func newHand(t *testing.T) *hand { return &hand{t, shelf.New(), 0} }

// next gives a call the next Seq.
func (h *hand) next(c api.Call) api.Call {
	h.seq++
	c.Session, c.Seq = 0, h.seq
	return c
}

// do a call; Counts is held to whether Index is one more behind it.
func (h *hand) do(c api.Call) (api.Answer, error) {
	h.Helper()
	index, counts := h.Index(), h.Counts(c)
	a, err := h.Do(c)
	if counts != (h.Index() == index+1) {
		h.Errorf("Counts of %s = %t; Index was %d, and is %d behind it", short(c), counts, index, h.Index())
	}
	if h.Counts(c) {
		h.Errorf("behind Do of %s it Counts", short(c))
	}
	return a, err
}

// done does a call that is right.
func (h *hand) done(c api.Call) api.Answer {
	h.Helper()
	index := h.Index()
	a, err := h.do(h.next(c))
	if err != nil || a.Index != index+1 || h.Index() != index+1 {
		h.Fatalf("Do of %s = %v, %v, Index %d, behind Index %d", short(c), a, err, h.Index(), index)
	}
	return a
}

// upload puts a draft there.
func (h *hand) upload(name string, value int) {
	h.Helper()
	h.done(up(0, name, value))
}

// try, promote and retire a version.
func (h *hand) try(name string, number, share int) {
	h.Helper()
	h.done(change(api.Try, 0, name, number, share))
}

func (h *hand) promote(name string, number int) {
	h.Helper()
	h.done(change(api.Promote, 0, name, number, 0))
}

func (h *hand) retire(name string, number int) {
	h.Helper()
	h.done(change(api.Retire, 0, name, number, 0))
}

// fails does a call that has an error, which counts, and of which there is nothing else to tell afterwards.
func (h *hand) fails(c api.Call, e api.Errno) {
	h.Helper()
	index, ahead := h.Index(), stand(h.Shelf)
	if a, err := h.do(h.next(c)); told(err) != e || a != (api.Answer{}) {
		h.Errorf("Do of %s = %v, %v, want %v", short(c), a, err, e)
	}
	if h.Index() != index+1 {
		h.Errorf("behind %s with %v Index is %d, and was %d", short(c), e, h.Index(), index)
	}
	if is := stand(h.Shelf); is != ahead {
		h.Errorf("behind %s with %v it stands\n%s, and stood\n%s", short(c), e, is, ahead)
	}
}

// refused does a call, as it is, that is not to count.
func (h *hand) refused(c api.Call, e api.Errno) {
	h.Helper()
	index, ahead := h.Index(), stand(h.Shelf)
	if a, err := h.do(c); told(err) != e || a != (api.Answer{}) {
		h.Errorf("Do of %s = %v, %v, want %v", short(c), a, err, e)
	}
	if h.Index() != index {
		h.Errorf("behind %s with %v Index is %d, and was %d", short(c), e, h.Index(), index)
	}
	if is := stand(h.Shelf); is != ahead {
		h.Errorf("behind %s with %v it stands\n%s, and stood\n%s", short(c), e, is, ahead)
	}
}

// answered does a call, as it is, that is to be answered so; index is what Index is then.
func (h *hand) answered(c api.Call, want api.Answer, e api.Errno, index int) {
	h.Helper()
	if a, err := h.do(c); told(err) != e || a != want {
		h.Errorf("Do of %s = %v, %v, want %v, %v", short(c), a, err, want, e)
	}
	if h.Index() != index {
		h.Errorf("behind %s Index is %d, want %d", short(c), h.Index(), index)
	}
}

// has holds All to versions.
func (h *hand) has(want ...api.Version) {
	h.Helper()
	if l := h.All(); !slices.Equal(l, want) {
		h.Errorf("All = %v, want %v", l, want)
	}
}

// isLive holds Live to a Number; 0: there is none.
func (h *hand) isLive(name string, number int) {
	h.Helper()
	want, e := version(name, number, api.Live, 0), none
	if number == 0 {
		want, e = api.Version{}, api.ErrNone
	}
	if v, err := h.Live(name); v != want || told(err) != e {
		h.Errorf("Live of %q = %v, %v, want %v, %v", name, v, err, want, e)
	}
}

// picks holds Pick to a version, or to an error.
func (h *hand) picks(name string, key int, want api.Version, e api.Errno) {
	h.Helper()
	if v, err := h.Pick(name, key); v != want || told(err) != e {
		h.Errorf("Pick of %q for %d = %v, %v, want %v, %v", name, key, v, err, want, e)
	}
}

// gives holds Grove to one.
func (h *hand) gives(name string, number int, want api.Grove) {
	h.Helper()
	if g, err := h.Grove(name, number); err != nil || !reflect.DeepEqual(g, want) {
		h.Errorf("Grove of %q %d = %v, %v, want %v", name, number, g, err, want)
	}
}

// gone holds Grove to that there is none.
func (h *hand) gone(name string, number int) {
	h.Helper()
	if g, err := h.Grove(name, number); told(err) != api.ErrNone || !reflect.DeepEqual(g, api.Grove{}) {
		h.Errorf("Grove of %q %d = %v, %v, want ErrNone", name, number, g, err)
	}
}

// stand tells all that a shelf tells, but Index.
func stand(s *shelf.Shelf) string {
	l := s.All()
	out := fmt.Sprintln(l)
	for i, v := range l {
		g, err := s.Grove(v.Name, v.Number)
		out += fmt.Sprintln(g, told(err))
		if i > 0 && v.Name == l[i-1].Name {
			continue
		}
		live, err := s.Live(v.Name)
		out += fmt.Sprintln(live, told(err))
		var picked versions
		for key := range 100 {
			v, _ := s.Pick(v.Name, key)
			if picked = append(picked, v); key > 0 && v == picked[key-1] {
				continue
			}
			out += fmt.Sprintln(key, v)
		}
	}
	return out
}

// TestEmpty: what a new one tells.
func TestEmpty(t *testing.T) {
	h := newHand(t)
	if h.Index() != 0 {
		t.Errorf("Index = %d", h.Index())
	}
	h.has()
	if l := h.All(); l != nil {
		t.Errorf("All = %v", l)
	}
	for _, name := range []string{"", "a", "model", "A", strings.Repeat("a", 13), "\xff"} {
		h.isLive(name, 0)
		h.picks(name, 0, api.Version{}, api.ErrNone)
		h.picks(name, latest, api.Version{}, api.ErrNone)
		h.picks(name, -1, api.Version{}, api.ErrRange)
		h.picks(name, latest+1, api.Version{}, api.ErrRange)
		for _, number := range []int{0, 1, -1, lowest, highest} {
			h.gone(name, number)
		}
	}
}

// TestWhat: those at both ends, and one and many beyond each.
func TestWhat(t *testing.T) {
	for _, what := range []int{0, 5, -1, 6, lowest, highest, 1 << 32, 1<<32 + 1, -1 << 32} {
		h := newHand(t)
		c := up(1, "m", 1)
		c.What = what
		h.refused(c, api.ErrRange)
		h.answered(up(1, "m", 1), answer(1, 1), none, 1)
	}
	h := newHand(t)
	h.answered(change(1, 1, "m", 1, 5), answer(0, 0), api.ErrShort, 1)
	h.answered(up(2, "m", 1), answer(1, 2), none, 2)
	h.answered(change(2, 3, "m", 1, 5), answer(0, 3), none, 3)
	h.has(version("m", 1, api.Canary, 5))
	h.answered(change(3, 4, "m", 1, 5), answer(0, 4), none, 4)
	h.has(version("m", 1, api.Live, 0))
	h.answered(change(4, 5, "m", 1, 5), answer(0, 5), none, 5)
	h.has(version("m", 1, api.Gone, 0))
}

// TestSession: those at both ends, and one and many beyond each.
func TestSession(t *testing.T) {
	h := newHand(t)
	for _, session := range []int{-1, latest + 1, -2, lowest, highest, 1 << 32, -1 << 32} {
		c := up(1, "m", 1)
		c.Session = session
		h.refused(c, api.ErrRange)
	}
	for i, session := range []int{0, latest, 1, latest - 1} {
		c := up(1, "m", 1)
		c.Session = session
		h.answered(c, answer(i+1, i+1), none, i+1)
	}
}

// TestSeq: those at both ends, and one and many beyond each.
func TestSeq(t *testing.T) {
	for _, seq := range []int{0, latest + 1, -1, lowest, highest, 1 << 32, 1<<32 + 1, -1 << 32} {
		h := newHand(t)
		h.refused(up(seq, "m", 1), api.ErrRange)
		h.answered(up(1, "m", 1), answer(1, 1), none, 1)
		h.refused(up(seq, "m", 1), api.ErrRange)
		h.answered(up(2, "m", 1), answer(2, 2), none, 2)
	}
	for _, seq := range []int{1, 2, latest - 1, latest} {
		h := newHand(t)
		h.answered(up(seq, "m", 1), answer(1, 1), none, 1)
		h.answered(up(seq, "m", 1), answer(1, 1), none, 1)
		h.refused(up(seq-1, "m", 1), map[bool]api.Errno{true: api.ErrRange, false: api.ErrState}[seq == 1])
		h.refused(up(latest+1, "m", 1), api.ErrRange)
	}
}

// badNames are texts that are none.
func badNames() []string {
	l := []string{
		"", strings.Repeat("a", 13), strings.Repeat("z", 13), "thirteenslett", strings.Repeat("a", 24), strings.Repeat("a", 256+5), strings.Repeat("a", 100000),
		"`", "{", "a`", "`a", "a{", "{a", "a`a", "z{z", "A", "Z", "aZ", "Az", "@", "[", "a[",
		" ", "a ", " a", "a b", "a\n", "\na", "a\x00", "\x00", "0", "a1", "1a", "a-b", "a_b", "a.b", "a/b",
		"ä", "aä", "é", "ａ", "а", "\xff", "a\xff", "\xe1", "\x80a", "a\u0161",
		strings.Repeat("a", 11) + "A", strings.Repeat("a", 11) + "{", "`" + strings.Repeat("a", 11), strings.Repeat("ä", 6), strings.Repeat("a", 11) + "ä",
	}
	for c := range 256 {
		if c < 'a' || c > 'z' {
			l = append(l, string(octets{byte(c)}), string(octets{'m', byte(c), 'm'}))
		}
	}
	return l
}

// TestNames: texts that are names, and texts that are none.
func TestNames(t *testing.T) {
	h := newHand(t)
	for _, name := range badNames() {
		for what := api.Upload; what <= api.Retire; what++ {
			c := up(1, name, 1)
			c.What, c.Number = what, 1
			h.refused(c, api.ErrSyntax)
		}
	}
	h.answered(up(1, "m", 1), answer(1, 1), none, 1)
	for _, name := range badNames() {
		h.refused(up(2, name, 1), api.ErrSyntax)
		h.refused(up(1, name, 1), api.ErrSyntax)
		h.isLive(name, 0)
		h.picks(name, 0, api.Version{}, api.ErrNone)
		h.gone(name, 1)
	}
	right := []string{"a", "z", "az", "za", "abcdefghijkl", "mnopqrstuvwx", "yz", strings.Repeat("a", 11), strings.Repeat("a", 12), strings.Repeat("z", 12)}
	for c := 'a'; c <= 'z'; c++ {
		right = append(right, string(c))
	}
	for _, name := range right {
		h := newHand(t)
		h.upload(name, 1)
		h.promote(name, 1)
		h.has(version(name, 1, api.Live, 0))
		h.isLive(name, 1)
		h.picks(name, 3, version(name, 1, api.Live, 0), none)
		h.gives(name, 1, leaf(1))
	}
}

// TestWhichComesFirst: calls with several things wrong.
func TestWhichComesFirst(t *testing.T) {
	const before, last = 4, 5
	h := newHand(t)
	h.answered(up(last, "m", 1), answer(1, 1), none, 1)
	for _, c := range []struct {
		why                string
		what, session, seq int
		name               string
		want               api.Errno
	}{
		{"What and Name", 0, 0, 6, "", api.ErrRange},
		{"What and Name", 5, 0, 6, "M", api.ErrRange},
		{"Session and Name", 1, -1, 6, "", api.ErrRange},
		{"Session and Name", 2, latest + 1, 6, "M", api.ErrRange},
		{"Seq and Name", 3, 0, 0, "", api.ErrRange},
		{"Seq and Name", 4, 0, latest + 1, strings.Repeat("a", 13), api.ErrRange},
		{"What, Session, Seq and Name", 0, -1, 0, "", api.ErrRange},
		{"What and a Seq that was", 0, 0, last, "m", api.ErrRange},
		{"What and a lesser Seq", 5, 0, before, "m", api.ErrRange},
		{"Seq that is lesser and none", 1, 0, 0, "m", api.ErrRange},
		{"Session, of another a lesser Seq", 1, -1, before, "m", api.ErrRange},
		{"Name and a Seq that was", 1, 0, last, "M", api.ErrSyntax},
		{"Name and a lesser Seq", 1, 0, before, "", api.ErrSyntax},
		{"Name, and bytes that are none", 1, 0, 6, "", api.ErrSyntax},
		{"Name, and no such version", 3, 0, 6, "nobody1", api.ErrSyntax},
		{"lesser Seq, and bytes that are none", 1, 0, before, "m", api.ErrState},
		{"lesser Seq, and no such version", 2, 0, before, "x", api.ErrState},
		{"lesser Seq, and no such version", 3, 0, 1, "m", api.ErrState},
		{"lesser Seq, and no such version", 4, 0, before, "m", api.ErrState},
	} {
		t.Run(c.why, func(t *testing.T) {
			h.T = t
			h.refused(api.Call{What: c.what, Session: c.session, Seq: c.seq, Name: c.name, Bytes: octets{1}}, c.want)
			h.answered(change(api.Retire, last, "m", 1, 0), answer(1, 1), none, 1)
		})
	}
}

// TestRefusedDoesNotCount: a session goes on behind calls that were refused as if they had not been.
func TestRefusedDoesNotCount(t *testing.T) {
	h := newHand(t)
	refuse := func() {
		t.Helper()
		for _, seq := range []int{1, 2, 3, 100, latest} {
			c := up(seq, "m", 1)
			c.What = 0
			h.refused(c, api.ErrRange)
			c = up(seq, "m", 1)
			c.Session = -1
			h.refused(c, api.ErrRange)
			h.refused(up(seq, "", 1), api.ErrSyntax)
			h.refused(up(seq, "M", 1), api.ErrSyntax)
		}
		h.refused(up(0, "m", 1), api.ErrRange)
		h.refused(up(latest+1, "m", 1), api.ErrRange)
	}
	refuse()
	h.answered(up(1, "m", 1), answer(1, 1), none, 1)
	refuse()
	h.answered(up(1, "m", 1), answer(1, 1), none, 1)
	h.answered(up(2, "m", 1), answer(2, 2), none, 2)
	h.refused(up(1, "m", 1), api.ErrState)
	refuse()
	h.answered(up(2, "m", 1), answer(2, 2), none, 2)
	h.answered(up(3, "m", 1), answer(3, 3), none, 3)
}

// others gives calls of the same session and Seq whose other fields are others.
func others(session, seq int) []api.Call {
	l := []api.Call{up(0, "m", 7), up(0, "other", 7), {What: api.Upload, Name: "m"}, {What: api.Upload, Name: "m", Bytes: make(octets, api.MaxBytes+1)}}
	for what := api.Try; what <= api.Retire; what++ {
		for _, name := range []string{"m", "n", "other"} {
			for _, number := range []int{0, 1, 2, 3, -1, highest} {
				l = append(l, change(what, 0, name, number, 50), change(what, 0, name, number, 0))
			}
		}
	}
	for i := range l {
		l[i].Session, l[i].Seq = session, seq
	}
	return l
}

// TestAgain: a call that comes again is answered as it was, behind an answer and behind an error, whatever came between and whatever its other fields are now.
func TestAgain(t *testing.T) {
	for _, session := range []int{0, 1, 77, latest} {
		for _, between := range []bool{false, true} {
			checkAgain(t, session, between)
		}
	}
}

// checkAgain does calls of each kind, each often.
func checkAgain(t *testing.T, session int, between bool) {
	t.Helper()
	h := newHand(t)
	other, index := 0, 0
	for i, c := range []struct {
		call   api.Call
		number int
		want   api.Errno
	}{
		{up(0, "m", 1), 1, none},
		{up(0, "m", 2), 2, none},
		{api.Call{What: api.Upload, Name: "m", Bytes: octets{1}}, 0, api.ErrShort},
		{change(api.Try, 0, "m", 1, 0), 0, api.ErrRange},
		{change(api.Try, 0, "m", 1, 9), 0, none},
		{change(api.Try, 0, "m", 1, 9), 0, api.ErrState},
		{change(api.Try, 0, "m", 2, 9), 0, api.ErrClash},
		{change(api.Promote, 0, "m", 1, 9), 0, none},
		{change(api.Promote, 0, "m", 1, 9), 0, api.ErrState},
		{change(api.Promote, 0, "m", 4, 9), 0, api.ErrNone},
		{change(api.Retire, 0, "m", 1, 9), 0, none},
		{change(api.Retire, 0, "m", 1, 9), 0, api.ErrState},
		{up(0, "m", 3), 3, none},
	} {
		c.call.Session, c.call.Seq = session, 3*i+2
		index++
		var want api.Answer
		if c.want == none {
			want = answer(c.number, index)
		}
		h.answered(c.call, want, c.want, index)
		if between {
			// Another session puts versions there and takes them away, so that a call that was wrong would be right now, and the other way round.
			for _, b := range []api.Call{up(0, "n", 5), {What: api.Promote, Name: "n", Number: i + 1}} {
				other++
				index++
				b.Session, b.Seq = session/2+3, other
				if _, err := h.Do(b); err != nil {
					t.Fatal(err)
				}
			}
		}
		ahead := stand(h.Shelf)
		for _, again := range append(others(session, c.call.Seq), c.call, c.call) {
			h.answered(again, want, c.want, index)
		}
		if is := stand(h.Shelf); is != ahead {
			t.Errorf("behind %v again it stands\n%s, and stood\n%s", c.call, is, ahead)
		}
	}
}

// TestLesser: a Seq that is less than the last one, however much, and whether there was a call with it or not.
func TestLesser(t *testing.T) {
	h := newHand(t)
	for _, seq := range []int{2, 3, 9, 10, 500, latest} {
		c := up(seq, "m", seq%100)
		number := len(h.All()) + 1
		want := answer(number, number)
		h.answered(c, want, none, number)
		for _, less := range []int{seq - 1, 1, seq / 2, max(seq-2, 1)} {
			for _, c := range others(0, less) {
				h.refused(c, api.ErrState)
			}
			// The last one is still the last one.
			h.answered(c, want, none, number)
		}
	}
}

// TestLesserBehindAnError: a call with an error counts, so that what is less comes too late.
func TestLesserBehindAnError(t *testing.T) {
	h := newHand(t)
	h.answered(change(api.Promote, 7, "m", 1, 0), answer(0, 0), api.ErrNone, 1)
	for _, less := range []int{1, 6} {
		h.refused(up(less, "m", 1), api.ErrState)
	}
	h.answered(up(7, "m", 1), answer(0, 0), api.ErrNone, 1)
	h.has()
	h.answered(up(8, "m", 1), answer(1, 2), none, 2)
}

// TestLeftOut: Seqs that leave some out, up to the last that there may be; then there is nothing more to do.
func TestLeftOut(t *testing.T) {
	h := newHand(t)
	for i, seq := range []int{1, 2, 4, 5, 100, 99999, latest - 1, latest} {
		h.answered(up(seq, "m", 1), answer(i+1, i+1), none, i+1)
		h.answered(up(seq, "m", 1), answer(i+1, i+1), none, i+1)
	}
	h.refused(up(3, "m", 1), api.ErrState)
	h.refused(up(latest-1, "m", 1), api.ErrState)
	h.refused(up(latest+1, "m", 1), api.ErrRange)
	c := up(1, "m", 1)
	c.Session = 1
	h.answered(c, answer(9, 9), none, 9)
}

// TestSessionsSideBySide: the Seq of one is nothing to the others.
func TestSessionsSideBySide(t *testing.T) {
	h := newHand(t)
	by := func(session int, c api.Call) api.Call {
		c.Session = session
		return c
	}
	h.answered(by(1, up(5, "m", 1)), answer(1, 1), none, 1)
	h.answered(by(2, up(3, "m", 2)), answer(2, 2), none, 2)
	h.answered(by(2, up(5, "m", 3)), answer(3, 3), none, 3)
	h.answered(by(1, up(5, "m", 4)), answer(1, 1), none, 3)
	h.answered(by(2, up(5, "m", 4)), answer(3, 3), none, 3)
	h.refused(by(1, up(4, "m", 4)), api.ErrState)
	h.refused(by(2, up(4, "m", 4)), api.ErrState)
	h.answered(by(0, up(4, "m", 4)), answer(4, 4), none, 4)
	h.answered(by(1, change(api.Promote, 6, "m", 2, 0)), answer(0, 5), none, 5)
	h.answered(by(2, change(api.Promote, 6, "m", 2, 0)), answer(0, 0), api.ErrState, 6)
	h.answered(by(0, change(api.Retire, 6, "m", 2, 0)), answer(0, 7), none, 7)
	h.answered(by(1, up(6, "m", 9)), answer(0, 5), none, 7)
	h.answered(by(2, up(6, "m", 9)), answer(0, 0), api.ErrState, 7)
	h.answered(by(0, up(6, "m", 9)), answer(0, 7), none, 7)
	h.answered(by(latest, up(1, "m", 9)), answer(5, 8), none, 8)
	h.has(version("m", 1, 1, 0), version("m", 2, 4, 0), version("m", 3, 1, 0), version("m", 4, 1, 0), version("m", 5, 1, 0))
	for number, value := range map[int]int{1: 1, 3: 3, 4: 4, 5: 9} {
		h.gives("m", number, leaf(value))
	}
}

// TestManySessions: each has a last call of its own.
func TestManySessions(t *testing.T) {
	h := newHand(t)
	const many = 3000
	for i := range many {
		c := api.Call{What: api.Retire, Session: i * 300, Seq: i + 1, Name: "m"}
		h.answered(c, answer(0, 0), api.ErrNone, i+1)
	}
	for i := range many {
		c := up(i+1, "m", 1)
		c.Session = i * 300
		h.answered(c, answer(0, 0), api.ErrNone, many)
		if i > 0 {
			c.Seq--
			h.answered(c, answer(0, 0), api.ErrState, many)
		}
	}
	h.has()
}

// TestIndex: one more with each call that is done, with an error or without.
func TestIndex(t *testing.T) {
	h := newHand(t)
	h.fails(change(api.Retire, 0, "m", 1, 0), api.ErrNone)
	h.fails(change(api.Retire, 0, "m", 1, 0), api.ErrNone)
	if a := h.done(up(0, "m", 1)); a != answer(1, 3) {
		t.Errorf("Upload behind two errors = %v", a)
	}
	if a := h.done(change(api.Try, 0, "m", 1, 1)); a != answer(0, 4) {
		t.Errorf("Try = %v", a)
	}
	h.fails(change(api.Try, 0, "m", 1, 1), api.ErrState)
	if a := h.done(change(api.Promote, 0, "m", 1, 1)); a != answer(0, 6) {
		t.Errorf("Promote behind an error = %v", a)
	}
	if a := h.done(change(api.Retire, 0, "m", 1, 1)); a != answer(0, 7) {
		t.Errorf("Retire = %v", a)
	}
	h.fails(api.Call{What: api.Upload, Name: "m"}, api.ErrShort)
	if a := h.done(up(0, "m", 1)); a != answer(2, 9) {
		t.Errorf("Upload behind an error = %v", a)
	}
	if h.Index() != 9 {
		t.Errorf("Index = %d", h.Index())
	}
}

// wrongBytes are bytes that are no grove, and what Decode tells of them.
func wrongBytes() map[string]struct {
	b    octets
	want api.Errno
} {
	right := written(large())
	return map[string]struct {
		b    octets
		want api.Errno
	}{
		"none":                  {nil, api.ErrShort},
		"empty":                 {octets{}, api.ErrShort},
		"a number that goes on": {octets{0x80}, api.ErrShort},
		"without the last":      {right[:len(right)-1], api.ErrShort},
		"one more":              {append(slices.Clone(right), 0), api.ErrSyntax},
		"twice":                 {slices.Concat(right, right), api.ErrSyntax},
		"a needless byte of 0":  {octets{0x80, 0}, api.ErrSyntax},
		"Less is 2":             {withByte(right, 9, 4), api.ErrSyntax},
		"no trees":              {withByte(right, 2, 0), api.ErrRange},
		"13 trees":              {withByte(right, 2, 26), api.ErrRange},
		"no nodes":              {withByte(right, 4, 0), api.ErrRange},
		"64 nodes":              {withByte(right, 4, 0x7f), api.ErrRange},
		"Way 4":                 {withByte(right, 1, 8), api.ErrRange},
		"Way 0":                 {withByte(right, 1, 0), api.ErrRange},
		"nine features":         {withByte(right, 0, 18), api.ErrRange},
		"Left is Right":         {withByte(right, 7, 4), api.ErrShape},
		"as many as may be":     {make(octets, api.MaxBytes), api.ErrRange},
		"one more than may be":  {make(octets, api.MaxBytes+1), api.ErrFull},
		"a million":             {make(octets, 1000000), api.ErrFull},
	}
}

// withByte gives bytes with another one at a place.
func withByte(b octets, place int, c byte) octets {
	b = slices.Clone(b)
	b[place] = c
	return b
}

// TestUploadOfNone: each of Decode's errors, ahead of a version of that name and behind one; it counts, but there is nothing to tell of it.
func TestUploadOfNone(t *testing.T) {
	h := newHand(t)
	all := func() {
		t.Helper()
		for name, c := range wrongBytes() {
			if _, _, err := code.Decode(c.b); told(err) != c.want {
				t.Fatalf("%s: Decode tells %v, not %v", name, err, c.want)
			}
			h.fails(api.Call{What: api.Upload, Name: "m", Bytes: c.b}, c.want)
			h.fails(api.Call{What: api.Upload, Name: "n", Bytes: c.b, Number: 1, Share: 1}, c.want)
		}
	}
	all()
	h.has()
	h.upload("m", 1)
	all()
	h.has(version("m", 1, api.Draft, 0))
	if a := h.done(up(0, "m", 2)); a.Number != 2 {
		t.Errorf("behind errors it is %v", a)
	}
	all()
}

// TestUpload: drafts of one name and of another, each with the next Number of its own.
func TestUpload(t *testing.T) {
	h := newHand(t)
	for i, c := range []struct {
		name   string
		number int
	}{{"m", 1}, {"m", 2}, {"n", 1}, {"m", 3}, {"n", 2}, {"mm", 1}, {"a", 1}, {"mm", 2}, {"m", 4}} {
		if a := h.done(up(0, c.name, i)); a != answer(c.number, i+1) {
			t.Errorf("Upload of %q = %v, want Number %d", c.name, a, c.number)
		}
		h.gives(c.name, c.number, leaf(i))
	}
	h.has(version("a", 1, 1, 0), version("m", 1, 1, 0), version("m", 2, 1, 0), version("m", 3, 1, 0), version("m", 4, 1, 0), version("mm", 1, 1, 0), version("mm", 2, 1, 0), version("n", 1, 1, 0), version("n", 2, 1, 0))
	// The same bytes again are another version all the same.
	if a := h.done(up(0, "m", 8)); a != answer(5, 10) {
		t.Errorf("Upload of the same = %v", a)
	}
	// Numbers go on behind those that are Gone.
	for number := range 5 {
		h.retire("m", number+1)
	}
	if a := h.done(up(0, "m", 8)); a != answer(6, 16) {
		t.Errorf("Upload behind Gone ones = %v", a)
	}
}

// eight names.
func eight() []string { return []string{"h", "a", "g", "b", "f", "c", "e", "d"} }

// TestFull: eight names, and a ninth.
func TestFull(t *testing.T) {
	h := newHand(t)
	for i, name := range eight() {
		h.upload(name, i)
	}
	for _, name := range []string{"i", "aa", "hh", "z", "abcdefghijkl"} {
		h.fails(up(0, name, 1), api.ErrFull)
		h.fails(change(api.Promote, 0, name, 1, 0), api.ErrNone)
	}
	// Bytes that are none come first.
	for _, c := range wrongBytes() {
		h.fails(api.Call{What: api.Upload, Name: "i", Bytes: c.b}, c.want)
	}
	for i, name := range eight() {
		if a := h.done(up(0, name, 10+i)); a.Number != 2 {
			t.Errorf("Upload of %q = %v", name, a)
		}
	}
	// A name has been, though all of it is Gone.
	for _, name := range eight() {
		h.retire(name, 1)
		h.retire(name, 2)
	}
	h.fails(up(0, "i", 1), api.ErrFull)
	if a := h.done(up(0, "a", 1)); a.Number != 3 {
		t.Errorf("Upload of a = %v", a)
	}
}

// TestFailedNames: a name that had only errors has not been: it takes no room, and finds none.
func TestFailedNames(t *testing.T) {
	h := newHand(t)
	fail := func(name string) {
		t.Helper()
		h.fails(api.Call{What: api.Upload, Name: name, Bytes: octets{1}}, api.ErrShort)
		for what := api.Try; what <= api.Retire; what++ {
			h.fails(change(what, 0, name, 1, 1), api.ErrNone)
		}
	}
	for _, name := range []string{"p", "q", "r", "s", "t", "u", "v", "w", "x", "a"} {
		fail(name)
	}
	for i, name := range eight() {
		h.upload(name, i)
		fail("p")
	}
	h.fails(up(0, "p", 1), api.ErrFull)
	h.fails(up(0, "x", 1), api.ErrFull)
	h.has(version("a", 1, 1, 0), version("b", 1, 1, 0), version("c", 1, 1, 0), version("d", 1, 1, 0), version("e", 1, 1, 0), version("f", 1, 1, 0), version("g", 1, 1, 0), version("h", 1, 1, 0))
}

// TestNoSuchVersion: other names, and Numbers that are not there.
func TestNoSuchVersion(t *testing.T) {
	h := newHand(t)
	for what := api.Try; what <= api.Retire; what++ {
		h.fails(change(what, 0, "m", 1, 50), api.ErrNone)
	}
	h.upload("m", 1)
	h.upload("m", 2)
	h.upload("n", 3)
	h.upload("n", 4)
	h.upload("n", 5)
	h.promote("n", 3)
	for what := api.Try; what <= api.Retire; what++ {
		for _, c := range []struct {
			name   string
			number int
		}{{"m", 0}, {"m", -1}, {"m", 3}, {"m", -2}, {"m", 4}, {"m", lowest}, {"m", highest}, {"m", 1 << 32}, {"m", 1<<32 + 1}, {"n", 4}, {"n", 0}, {"l", 1}, {"l", 0}, {"mm", 1}, {"mn", 1}} {
			// Whatever Share is: that there is none comes first.
			for _, share := range []int{1, 99, 0, 100, -1, lowest, highest} {
				h.fails(change(what, 0, c.name, c.number, share), api.ErrNone)
			}
			h.gone(c.name, c.number)
		}
	}
}

// in gives a shelf where version 2 of m is in a stage; canary and live tell whether version 1 is the Canary, and version 3 Live.
func in(t *testing.T, stage int, canary, live bool) *hand {
	t.Helper()
	h := newHand(t)
	h.upload("m", 1)
	h.upload("m", 2)
	h.upload("m", 3)
	// Another name has both: they are nothing to this one.
	h.upload("n", 4)
	h.upload("n", 5)
	h.try("n", 1, 42)
	h.promote("n", 2)
	switch stage {
	case api.Canary:
		h.try("m", 2, 20)
	case api.Live:
		h.promote("m", 2)
	case api.Gone:
		h.retire("m", 2)
	}
	if canary {
		h.try("m", 1, 30)
	}
	if live {
		h.promote("m", 3)
	}
	return h
}

// of tells what stands in such a shelf, with version 2 as told.
func of(second api.Version, canary bool, third int) versions {
	first := version("m", 1, api.Draft, 0)
	if canary {
		first = version("m", 1, api.Canary, 30)
	}
	return versions{first, second, version("m", 3, third, 0), version("n", 1, api.Canary, 42), version("n", 2, api.Live, 0)}
}

// TestTry: a draft, and versions of all other stages, with and without a Canary of that name and a Live one.
func TestTry(t *testing.T) {
	for _, share := range []int{1, 2, 50, 98, 99} {
		for _, live := range []bool{false, true} {
			h := in(t, api.Draft, false, live)
			third := map[bool]int{false: api.Draft, true: api.Live}[live]
			if a := h.done(change(api.Try, 0, "m", 2, share)); a.Number != 0 {
				t.Errorf("Try = %v", a)
			}
			h.has(of(version("m", 2, api.Canary, share), false, third)...)
			h.gives("m", 2, leaf(2))
			h.fails(change(api.Try, 0, "m", 2, share), api.ErrState)
			h.fails(change(api.Try, 0, "m", 1, share), api.ErrClash)
		}
	}
	for _, c := range []struct {
		stage        int
		canary, live bool
		share        int
		want         api.Errno
	}{
		{api.Draft, false, false, 0, api.ErrRange},
		{api.Draft, false, false, 100, api.ErrRange},
		{api.Draft, false, false, -1, api.ErrRange},
		{api.Draft, false, false, 101, api.ErrRange},
		{api.Draft, false, false, lowest, api.ErrRange},
		{api.Draft, false, false, highest, api.ErrRange},
		{api.Draft, false, false, 1<<32 + 1, api.ErrRange},
		{api.Draft, false, true, 0, api.ErrRange},
		{api.Draft, true, false, 1, api.ErrClash},
		{api.Draft, true, false, 99, api.ErrClash},
		{api.Draft, true, true, 30, api.ErrClash},
		{api.Draft, true, false, 0, api.ErrRange},
		{api.Draft, true, false, 100, api.ErrRange},
		{api.Canary, false, false, 1, api.ErrState},
		{api.Canary, false, true, 20, api.ErrState},
		{api.Canary, false, true, 99, api.ErrState},
		{api.Canary, false, false, 0, api.ErrRange},
		{api.Canary, false, false, 100, api.ErrRange},
		{api.Live, false, false, 1, api.ErrState},
		{api.Live, true, false, 99, api.ErrState},
		{api.Live, true, false, 0, api.ErrRange},
		{api.Live, false, false, 100, api.ErrRange},
		{api.Gone, false, false, 1, api.ErrState},
		{api.Gone, false, true, 50, api.ErrState},
		{api.Gone, true, true, 99, api.ErrState},
		{api.Gone, true, true, 0, api.ErrRange},
		{api.Gone, false, false, 100, api.ErrRange},
	} {
		in(t, c.stage, c.canary, c.live).fails(change(api.Try, 0, "m", 2, c.share), c.want)
	}
}

// TestTryBehindACanary: once the Canary is Live, or Gone, there is room for another.
func TestTryBehindACanary(t *testing.T) {
	for _, what := range []int{api.Promote, api.Retire} {
		h := in(t, api.Draft, true, false)
		h.fails(change(api.Try, 0, "m", 2, 7), api.ErrClash)
		h.done(change(what, 0, "m", 1, 0))
		h.try("m", 2, 7)
		h.fails(change(api.Try, 0, "m", 3, 7), api.ErrClash)
		first := version("m", 1, map[int]int{api.Promote: api.Live, api.Retire: api.Gone}[what], 0)
		l := of(version("m", 2, api.Canary, 7), false, api.Draft)
		h.has(append(versions{first}, l[1:]...)...)
	}
	// Another one that is Live, or Gone, makes none.
	h := in(t, api.Draft, true, false)
	h.promote("m", 3)
	h.fails(change(api.Try, 0, "m", 2, 7), api.ErrClash)
	h.retire("m", 3)
	h.fails(change(api.Try, 0, "m", 2, 7), api.ErrClash)
}

// TestPromote: versions of all stages, with and without a Live one, which is Gone then, and a Canary, which stays if it is another.
func TestPromote(t *testing.T) {
	for _, stage := range []int{api.Draft, api.Canary, api.Live, api.Gone} {
		for _, canary := range []bool{false, true} {
			for _, live := range []bool{false, true} {
				if canary && stage == api.Canary {
					continue
				}
				h := in(t, stage, canary, live && stage != api.Live)
				if stage == api.Live || stage == api.Gone {
					h.fails(change(api.Promote, 0, "m", 2, 5), api.ErrState)
					continue
				}
				third := map[bool]int{false: api.Draft, true: api.Gone}[live]
				if a := h.done(change(api.Promote, 0, "m", 2, 5)); a.Number != 0 {
					t.Errorf("Promote = %v", a)
				}
				h.has(of(version("m", 2, api.Live, 0), canary, third)...)
				h.isLive("m", 2)
				h.gives("m", 2, leaf(2))
				if live {
					h.gone("m", 3)
				} else {
					h.gives("m", 3, leaf(3))
				}
				h.isLive("n", 2)
			}
		}
	}
}

// TestPromoteGone: the one that was Live ahead is Gone for good, and told so.
func TestPromoteGone(t *testing.T) {
	h := in(t, api.Live, false, true)
	h.has(of(version("m", 2, api.Gone, 0), false, api.Live)...)
	h.fails(change(api.Promote, 0, "m", 2, 0), api.ErrState)
	h.fails(change(api.Retire, 0, "m", 2, 0), api.ErrState)
	h.fails(change(api.Try, 0, "m", 2, 5), api.ErrState)
	h.gone("m", 2)
	h.isLive("m", 3)
	h.promote("m", 1)
	h.isLive("m", 1)
	h.gone("m", 3)
}

// TestRetire: versions of all stages; the others stay as they are.
func TestRetire(t *testing.T) {
	for _, stage := range []int{api.Draft, api.Canary, api.Live, api.Gone} {
		for _, canary := range []bool{false, true} {
			for _, live := range []bool{false, true} {
				if canary && stage == api.Canary || live && stage == api.Live {
					continue
				}
				h := in(t, stage, canary, live)
				third := map[bool]int{false: api.Draft, true: api.Live}[live]
				if stage != api.Gone {
					if a := h.done(change(api.Retire, 0, "m", 2, 5)); a.Number != 0 {
						t.Errorf("Retire = %v", a)
					}
				}
				h.has(of(version("m", 2, api.Gone, 0), canary, third)...)
				h.isLive("m", map[bool]int{false: 0, true: 3}[live])
				h.isLive("n", 2)
				h.gone("m", 2)
				h.gives("m", 1, leaf(1))
				h.gives("m", 3, leaf(3))
				h.fails(change(api.Retire, 0, "m", 2, 5), api.ErrState)
			}
		}
	}
}

// TestFieldsThatDoNotMatter: those that What does not need, whatever they are.
func TestFieldsThatDoNotMatter(t *testing.T) {
	numbers := []int{0, 1, 2, 99, 100, -1, latest + 1, lowest, highest}
	lists := []octets{nil, {}, {1}, written(large()), make(octets, api.MaxBytes+1)}
	for _, a := range numbers {
		for _, b := range lists {
			for _, c := range numbers {
				h := newHand(t)
				first := up(0, "m", 1)
				first.Number, first.Share = a, c
				if a := h.done(first); a != answer(1, 1) {
					t.Errorf("Upload = %v", a)
				}
				h.has(version("m", 1, api.Draft, 0))
				h.done(api.Call{What: api.Try, Name: "m", Number: 1, Share: 9, Bytes: b})
				h.has(version("m", 1, api.Canary, 9))
				h.done(api.Call{What: api.Promote, Name: "m", Number: 1, Share: a, Bytes: b})
				h.has(version("m", 1, api.Live, 0))
				h.gives("m", 1, leaf(1))
				h.done(api.Call{What: api.Retire, Name: "m", Number: 1, Share: c, Bytes: b})
				h.has(version("m", 1, api.Gone, 0))
			}
		}
	}
}

// TestAll: by Name, then Number, in whatever order they came; of two names the one of which the other is only longer is first.
func TestAll(t *testing.T) {
	var s noise = 1
	names := []string{"b", "a", "ab", "aa", "z", "ba", "aab", "zzzzzzzzzzzz"}
	sorted := []string{"a", "aa", "aab", "ab", "b", "ba", "z", "zzzzzzzzzzzz"}
	for range 20 {
		h := newHand(t)
		many := map[string]int{}
		for range 150 {
			name := names[s.below(len(names))]
			h.upload(name, 1)
			many[name]++
			var want versions
			for _, name := range sorted {
				for i := range many[name] {
					want = append(want, version(name, i+1, api.Draft, 0))
				}
			}
			h.has(want...)
		}
		if many["a"] < 11 {
			t.Errorf("only %d versions of a name", many["a"])
		}
	}
}

// TestLive: none, one, another, and none again.
func TestLive(t *testing.T) {
	h := newHand(t)
	h.isLive("m", 0)
	h.upload("m", 1)
	h.isLive("m", 0)
	h.upload("m", 2)
	h.upload("m", 3)
	h.try("m", 2, 99)
	h.isLive("m", 0)
	h.promote("m", 2)
	h.isLive("m", 2)
	for _, name := range []string{"", "M", "mm", "n", "m ", "l"} {
		h.isLive(name, 0)
	}
	h.try("m", 1, 99)
	h.isLive("m", 2)
	h.promote("m", 3)
	h.isLive("m", 3)
	h.retire("m", 1)
	h.isLive("m", 3)
	h.retire("m", 3)
	h.isLive("m", 0)
	h.upload("m", 4)
	h.isLive("m", 0)
	h.promote("m", 4)
	h.isLive("m", 4)
	h.upload("n", 1)
	h.promote("n", 1)
	h.isLive("n", 1)
	h.isLive("m", 4)
	h.retire("n", 1)
	h.isLive("n", 0)
	h.isLive("m", 4)
}

// badKeys are beyond what a key may be.
func badKeys() []int { return []int{-1, latest + 1, -2, -100, lowest, highest, 1 << 32, -1 << 32} }

// turns gives keys, and what they come to of 100: 73 by 37 is 2701, so that 73 by a number is a key that comes to it.
func turns() map[int]int {
	l := map[int]int{0: 0, 1: 37, 2: 74, 3: 11, 99: 63, 100: 0, 101: 37, latest: 0, latest - 1: 63, latest - 73: 99, latest - 27: 1}
	for turn := range 100 {
		l[73*turn%100] = turn
		l[73*turn] = turn
		l[73*turn%100+999900] = turn
	}
	return l
}

// TestPick: with and without a Canary and a Live one, of every Share, at keys of every turn.
func TestPick(t *testing.T) {
	for share := 1; share <= 99; share++ {
		h := newHand(t)
		h.upload("m", 1)
		h.upload("m", 2)
		h.try("m", 2, share)
		canary, live := version("m", 2, api.Canary, share), version("m", 1, api.Live, 0)
		// No Live one: whose turn it is not gets none.
		for key, turn := range turns() {
			if turn < share {
				h.picks("m", key, canary, none)
			} else {
				h.picks("m", key, api.Version{}, api.ErrNone)
			}
		}
		h.promote("m", 1)
		for key, turn := range turns() {
			if turn < share {
				h.picks("m", key, canary, none)
			} else {
				h.picks("m", key, live, none)
			}
		}
		for _, key := range badKeys() {
			h.picks("m", key, api.Version{}, api.ErrRange)
			h.picks("n", key, api.Version{}, api.ErrRange)
			h.picks("", key, api.Version{}, api.ErrRange)
		}
	}
}

// TestPickByHand: just at Share, and just below.
func TestPickByHand(t *testing.T) {
	h := newHand(t)
	h.upload("m", 1)
	h.upload("m", 2)
	h.promote("m", 1)
	h.try("m", 2, 37)
	live, canary := version("m", 1, api.Live, 0), version("m", 2, api.Canary, 37)
	h.picks("m", 0, canary, none)
	h.picks("m", 1, live, none)        // 37
	h.picks("m", 2, live, none)        // 74
	h.picks("m", 3, canary, none)      // 11
	h.picks("m", 28, canary, none)     // 1036
	h.picks("m", 73, canary, none)     // 1
	h.picks("m", latest, canary, none) // 0
	h.picks("m", latest-1, live, none) // 63
	h.promote("m", 2)
	h.upload("m", 3)
	h.try("m", 3, 38)
	h.picks("m", 1, version("m", 3, api.Canary, 38), none)
	h.picks("m", 2, version("m", 2, api.Live, 0), none)
}

// TestPickBehind: as versions come and go.
func TestPickBehind(t *testing.T) {
	h := newHand(t)
	all := func(want api.Version, e api.Errno) {
		t.Helper()
		for key := range turns() {
			h.picks("m", key, want, e)
		}
	}
	h.upload("m", 1)
	h.upload("m", 2)
	all(api.Version{}, api.ErrNone)
	h.promote("m", 1)
	all(version("m", 1, api.Live, 0), none)
	h.try("m", 2, 99)
	h.picks("m", 1, version("m", 2, api.Canary, 99), none)
	h.picks("m", 27, version("m", 1, api.Live, 0), none) // 999
	h.retire("m", 2)
	all(version("m", 1, api.Live, 0), none)
	h.upload("m", 3)
	h.try("m", 3, 1)
	h.picks("m", 0, version("m", 3, api.Canary, 1), none)
	h.picks("m", 73, version("m", 1, api.Live, 0), none)
	h.retire("m", 1)
	h.picks("m", 0, version("m", 3, api.Canary, 1), none)
	h.picks("m", 73, api.Version{}, api.ErrNone)
	h.promote("m", 3)
	all(version("m", 3, api.Live, 0), none)
	h.retire("m", 3)
	all(api.Version{}, api.ErrNone)
	for _, name := range []string{"", "n", "mm", "M"} {
		h.picks(name, 0, api.Version{}, api.ErrNone)
	}
}

// TestGrove: of a version in each stage, and of one that is not there.
func TestGrove(t *testing.T) {
	h := newHand(t)
	b := written(large())
	put := func() {
		t.Helper()
		h.done(api.Call{What: api.Upload, Name: "m", Bytes: b})
	}
	put()
	h.gives("m", 1, large())
	h.try("m", 1, 5)
	h.gives("m", 1, large())
	h.promote("m", 1)
	h.gives("m", 1, large())
	put()
	h.upload("m", 3)
	h.gives("m", 1, large())
	h.gives("m", 2, large())
	h.gives("m", 3, leaf(3))
	h.retire("m", 1)
	h.gone("m", 1)
	h.gives("m", 2, large())
	h.retire("m", 2)
	h.gone("m", 2)
	h.gives("m", 3, leaf(3))
	for _, number := range []int{0, -1, 4, lowest, highest, 1<<32 + 3} {
		h.gone("m", number)
	}
	for _, name := range []string{"", "n", "M", "mm"} {
		h.gone(name, 3)
	}
}

// wide is a grove of as many trees as may be.
func wide() api.Grove {
	g := api.Grove{Features: 8, Way: api.Vote}
	for i := range api.MaxTrees {
		g.Weights = append(g.Weights, i+1)
		g.Trees = append(g.Trees, chain())
	}
	return g
}

// chain is a tree as deep as may be.
func chain() []api.Node {
	var l []api.Node
	for range api.MaxDepth {
		at := len(l)
		l = append(l, api.Node{Feature: at % 8, Cut: at*1000 - api.MaxCell, Left: at + 2, Right: at + 1, Less: at%4 == 0}, api.Node{Feature: api.Leaf, Value: -at})
	}
	return append(l, api.Node{Feature: api.Leaf, Value: api.MaxCell})
}

// TestGroveOfAnySize: what was uploaded, from the least grove to one of as many trees, as deep, as may be.
func TestGroveOfAnySize(t *testing.T) {
	h := newHand(t)
	for i, g := range []api.Grove{leaf(0), leaf(-5), large(), wide()} {
		if err := grove.Check(g); err != nil {
			t.Fatal(err)
		}
		h.done(api.Call{What: api.Upload, Name: "m", Bytes: written(g)})
		h.gives("m", i+1, g)
	}
	h.gives("m", 3, large())
	h.gives("m", 4, wide())
}

// TestSideBySide: what one shelf is asked for is nothing to another.
func TestSideBySide(t *testing.T) {
	a, b := newHand(t), newHand(t)
	a.upload("m", 1)
	a.promote("m", 1)
	b.has()
	if b.Index() != 0 {
		t.Errorf("Index of the other is %d", b.Index())
	}
	b.isLive("m", 0)
	b.gone("m", 1)
	// Session and Seq were those of a call of the other one.
	b.answered(up(2, "m", 9), answer(1, 1), none, 1)
	b.refused(up(1, "m", 9), api.ErrState)
	b.seq = 2
	for _, name := range eight()[:7] {
		b.upload(name, 1)
	}
	b.fails(up(0, "z", 1), api.ErrFull)
	a.upload("z", 1)
	a.has(version("m", 1, api.Live, 0), version("z", 1, api.Draft, 0))
	a.isLive("m", 1)
	a.gives("m", 1, leaf(1))
	b.gives("m", 1, leaf(9))
	a.retire("m", 1)
	b.gives("m", 1, leaf(9))
	b.isLive("m", 0)
}

// TestHandedIn: bytes are as they were, what lies behind them is neither read nor written, and changing them afterwards changes nothing.
func TestHandedIn(t *testing.T) {
	for _, behind := range []byte{0, 1, 0x80, 0xff} {
		right := written(large())
		memory := append(slices.Clone(right), slices.Repeat(octets{behind}, 20)...)
		ahead := slices.Clone(memory)
		h := newHand(t)
		h.done(api.Call{What: api.Upload, Name: "m", Bytes: memory[:len(right)]})
		h.fails(api.Call{What: api.Upload, Name: "m", Bytes: memory[:len(right)-1]}, api.ErrShort)
		h.done(api.Call{What: api.Try, Name: "m", Number: 1, Share: 5, Bytes: memory[:3]})
		if !slices.Equal(memory, ahead) {
			t.Errorf("what was handed in is %v, and was %v", memory, ahead)
		}
		before := stand(h.Shelf)
		for i := range memory {
			memory[i] = 0x55
		}
		h.gives("m", 1, large())
		if is := stand(h.Shelf); is != before {
			t.Errorf("as bytes were written into it stands\n%s, and stood\n%s", is, before)
		}
	}
}

// TestNameIsItsOwn: names that are pieces of a longer text, of which the shelf keeps nothing, though that is written over afterwards.
func TestNameIsItsOwn(t *testing.T) {
	h := newHand(t)
	text := octets("a model of models")
	name := unsafe.String(&text[2], 5)
	for number := 1; number <= 2; number++ {
		h.upload(name, 1)
		h.promote(name, number)
		h.upload(name[:2], 2)
	}
	h.try(name[:2], 1, 5)
	h.retire(name[:2], 2)
	copy(text, "zzzzzzzzzzzzzzzzz")
	h.isLive("model", 2)
	h.picks("model", 0, version("model", 2, api.Live, 0), none)
	h.picks("mo", 0, version("mo", 1, api.Canary, 5), none)
	h.gives("model", 2, leaf(1))
	h.has(version("mo", 1, api.Canary, 5), version("mo", 2, api.Gone, 0), version("model", 1, api.Gone, 0), version("model", 2, api.Live, 0))
	if a := h.done(up(0, "model", 3)); a.Number != 3 {
		t.Errorf("Upload = %v", a)
	}
}

// TestGoneIsNotKept: of versions that are Gone nobody asks for the grove, so that thousands of them need no room.
func TestGoneIsNotKept(t *testing.T) {
	room := func() int {
		var m runtime.MemStats
		runtime.GC()
		runtime.ReadMemStats(&m)
		return int(m.HeapAlloc)
	}
	h := newHand(t)
	b := written(wide())
	ahead := room()
	const many = 4000
	for i := range many {
		for _, c := range []api.Call{{What: api.Upload, Name: "m", Bytes: b}, {What: api.Promote + i%2, Name: "m", Number: i + 1}} {
			if _, err := h.Do(h.next(c)); err != nil {
				t.Fatal(err)
			}
		}
	}
	if each := (room() - ahead) / many; each > 1000 {
		t.Errorf("%d bytes are kept of each version that is Gone", each)
	}
	h.gives("m", many-1, wide())
}

// scribble writes over all memory of a grove.
func scribble(g api.Grove) {
	for i := range g.Weights[:cap(g.Weights)] {
		g.Weights[:cap(g.Weights)][i] = 77
	}
	for _, t := range g.Trees[:cap(g.Trees)] {
		for i := range t[:cap(t)] {
			t[:cap(t)][i] = api.Node{Feature: 7, Cut: 7, Left: 7, Right: 7, Value: 7}
		}
	}
	for i := range g.Trees[:cap(g.Trees)] {
		g.Trees[:cap(g.Trees)][i] = nil
	}
}

// TestHandedOut: changing what came changes nothing of the shelf, nor of what came ahead.
func TestHandedOut(t *testing.T) {
	h := newHand(t)
	h.done(api.Call{What: api.Upload, Name: "m", Bytes: written(large())})
	h.upload("m", 2)
	h.upload("n", 3)
	h.promote("m", 1)
	first, err := h.Grove("m", 1)
	if err != nil {
		t.Fatal(err)
	}
	second, err := h.Grove("m", 1)
	if err != nil {
		t.Fatal(err)
	}
	scribble(first)
	if !reflect.DeepEqual(second, large()) {
		t.Errorf("what came is %v, as another one was written into", second)
	}
	h.gives("m", 1, large())
	scribble(second)
	h.gives("m", 1, large())
	h.gives("m", 2, leaf(2))

	want := versions{version("m", 1, api.Live, 0), version("m", 2, api.Draft, 0), version("n", 1, api.Draft, 0)}
	l, other := h.All(), h.All()
	for i := range l[:cap(l)] {
		l[:cap(l)][i] = version("zz", 9, 9, 9)
	}
	if !slices.Equal(other, want) {
		t.Errorf("what came is %v, as another one was written into", other)
	}
	h.has(want...)
	h.isLive("m", 1)
	// What comes afterwards is not to be seen in what came.
	h.upload("a", 1)
	h.retire("m", 1)
	if !slices.Equal(other, want) {
		t.Errorf("what came is %v, as versions changed", other)
	}
}

// TestAskingChangesNothing: All, Live, Pick, Grove, Index and Counts do not count.
func TestAskingChangesNothing(t *testing.T) {
	h := newHand(t)
	h.upload("m", 1)
	h.upload("m", 2)
	h.promote("m", 1)
	h.try("m", 2, 50)
	ahead := stand(h.Shelf)
	for range 3 {
		for _, name := range []string{"m", "n", "", "M"} {
			for _, number := range []int{-1, 0, 1, 2, 3, latest, latest + 1} {
				h.Live(name)
				h.Pick(name, number)
				h.Grove(name, number)
				h.Counts(up(number, name, 1))
			}
		}
	}
	if is := stand(h.Shelf); is != ahead || h.Index() != 4 {
		t.Errorf("it stands\n%s, and stood\n%s; Index %d", is, ahead, h.Index())
	}
	for i, name := range eight()[:7] {
		if a := h.done(up(0, name, 1)); a != answer(1, 5+i) {
			t.Errorf("Upload of %q = %v", name, a)
		}
	}
}

// shadow is a shelf that keeps nothing but the calls that counted, and tells all by going over them.
type shadow struct {
	calls   []api.Call
	answers []api.Answer
	errs    []api.Errno
}

// stage of a version, and its Share: that to which the last call without an error brought it; 0, if there is none.
func (m *shadow) stage(name string, number int) (stage, share int) {
	made := 0
	for i, c := range m.calls {
		if m.errs[i] != none || c.Name != name {
			continue
		}
		switch {
		case c.What == api.Upload:
			if made++; made == number {
				stage = api.Draft
			}
		case c.What == api.Promote && c.Number != number && stage == api.Live:
			stage = api.Gone
		case c.Number == number:
			stage, share = []int{0, 0, api.Canary, api.Live, api.Gone}[c.What], 0
			if c.What == api.Try {
				share = c.Share
			}
		}
	}
	return stage, share
}

// uploads tells how many versions of a name there are, and of how many names there are any.
func (m *shadow) uploads(name string) (many, names int) {
	seen := map[string]int{}
	for i, c := range m.calls {
		if c.What == api.Upload && m.errs[i] == none {
			seen[c.Name]++
		}
	}
	return seen[name], len(seen)
}

// in a stage, the Number of a name's version, and its Share; 0, if there is none.
func (m *shadow) in(name string, wanted int) (number, share int) {
	many, _ := m.uploads(name)
	for n := range many {
		if stage, share := m.stage(name, n+1); stage == wanted {
			return n + 1, share
		}
	}
	return 0, 0
}

// wrong tells what a call that counts comes to.
func (m *shadow) wrong(c api.Call) api.Errno {
	many, names := m.uploads(c.Name)
	if c.What == api.Upload {
		_, _, err := code.Decode(c.Bytes)
		if err == nil && many == 0 && names == 8 {
			return api.ErrFull
		}
		return told(err)
	}
	stage, _ := m.stage(c.Name, c.Number)
	canary, _ := m.in(c.Name, api.Canary)
	switch {
	case c.Number < 1 || c.Number > many:
		return api.ErrNone
	case c.What == api.Try && (c.Share < 1 || c.Share > 99):
		return api.ErrRange
	case c.What == api.Try && stage != api.Draft:
		return api.ErrState
	case c.What == api.Try && canary > 0:
		return api.ErrClash
	case c.What == api.Promote && stage >= api.Live:
		return api.ErrState
	case c.What == api.Retire && stage == api.Gone:
		return api.ErrState
	}
	return none
}

// do a call.
func (m *shadow) do(c api.Call) (api.Answer, api.Errno) {
	switch {
	case !slices.Contains([]int{1, 2, 3, 4}, c.What) || min(c.Session, c.Seq-1) < 0 || max(c.Session, c.Seq) > 1000000:
		return api.Answer{}, api.ErrRange
	case strings.Trim(c.Name, "abcdefghijklmnopqrstuvwxyz") != "" || c.Name == "" || len(c.Name) > 12:
		return api.Answer{}, api.ErrSyntax
	}
	for i, was := range slices.Backward(m.calls) {
		if was.Session == c.Session && was.Seq > c.Seq {
			return api.Answer{}, api.ErrState
		}
		if was.Session == c.Session && was.Seq == c.Seq {
			return m.answers[i], m.errs[i]
		}
	}
	var a api.Answer
	e := m.wrong(c)
	if e == none {
		a.Index = len(m.calls) + 1
		if many, _ := m.uploads(c.Name); c.What == api.Upload {
			a.Number = many + 1
		}
	}
	m.calls, m.answers, m.errs = append(m.calls, c), append(m.answers, a), append(m.errs, e)
	return a, e
}

// grove of a version: that of the bytes of the call which brought it.
func (m *shadow) grove(name string, number int) (api.Grove, api.Errno) {
	if stage, _ := m.stage(name, number); stage == 0 || stage == api.Gone {
		return api.Grove{}, api.ErrNone
	}
	for i, c := range m.calls {
		if c.What == api.Upload && c.Name == name && m.answers[i].Number == number {
			g, _, err := code.Decode(c.Bytes)
			return g, told(err)
		}
	}
	return api.Grove{}, api.ErrNone
}

// holds a shelf to it: all versions of these names, which are in order, and what is picked for a key.
func (m *shadow) holds(h *hand, names []string, key int) {
	h.Helper()
	var all versions
	for _, name := range names {
		many, _ := m.uploads(name)
		for n := range many {
			stage, share := m.stage(name, n+1)
			all = append(all, version(name, n+1, stage, share))
		}
		live, _ := m.in(name, api.Live)
		h.isLive(name, live)
		m.picks(h, name, live, key)
		for number := range many + 2 {
			if g, e := m.grove(name, number); e == none {
				h.gives(name, number, g)
			} else {
				h.gone(name, number)
			}
		}
	}
	h.has(all...)
	if h.Index() != len(m.calls) {
		h.Errorf("Index = %d, want %d", h.Index(), len(m.calls))
	}
}

// picks holds Pick to what it is to give.
func (m *shadow) picks(h *hand, name string, live, key int) {
	h.Helper()
	canary, share := m.in(name, api.Canary)
	switch {
	case key < 0 || key > 1000000:
		h.picks(name, key, api.Version{}, api.ErrRange)
	case canary > 0 && (key%100)*37%100 < share:
		h.picks(name, key, version(name, canary, api.Canary, share), none)
	case live > 0:
		h.picks(name, key, version(name, live, api.Live, 0), none)
	default:
		h.picks(name, key, api.Version{}, api.ErrNone)
	}
}

// call gives any one, mostly one that is right as far as it can be told ahead.
func (s *noise) call(names []string, m *shadow) api.Call {
	c := api.Call{What: 1 + s.below(4), Session: s.below(3), Seq: 1, Name: names[s.below(len(names))]}
	for _, was := range m.calls {
		if was.Session == c.Session {
			c.Seq = was.Seq + s.pick(1, 1, 1, 1, 1, 0, 2, 9, -1)
		}
	}
	many, _ := m.uploads(c.Name)
	c.Number = s.pick(1+s.below(many+1), 1+s.below(many+1), 1+s.below(many+1), many, many, 0, -1, many+1)
	c.Share = s.pick(1, 99, 50, 37, 1+s.below(99), 1+s.below(99), 0, 100)
	c.Bytes = written(leaf(s.below(1000)))
	switch s.below(30) {
	case 0:
		c.What = s.pick(0, 5)
	case 1:
		c.Session = s.pick(-1, latest+1, latest)
	case 2:
		c.Seq = s.pick(0, latest+1)
	case 3:
		c.Name = []string{"", "M", "m{", "thirteenslett"}[s.below(4)]
	case 4:
		c.Bytes = c.Bytes[:s.below(len(c.Bytes))]
	}
	return c
}

// TestAgainstShadow: many calls of all kinds, each held to what is told by going over all that were ahead.
func TestAgainstShadow(t *testing.T) {
	var s noise = 3
	seen := map[string]int{}
	for round := range 60 {
		names := []string{"a", "ab", "b", "model", "z"}
		if round%3 == 0 {
			names = []string{"a", "b", "c", "d", "e", "f", "g", "h", "i", "j"}
		}
		h, m := newHand(t), &shadow{}
		for range 90 {
			c := s.call(names, m)
			index := len(m.calls)
			want, e := m.do(c)
			h.answered(c, want, e, len(m.calls))
			seen[fmt.Sprint(c.What, len(m.calls) > index, e)]++
			m.holds(h, names, s.pick(0, 1, 3, s.below(100), s.below(latest+1), latest, latest+1, -1))
			if t.Failed() {
				t.Fatalf("behind %v", m.calls)
			}
		}
	}
	for _, key := range []string{"1 true OK", "2 true OK", "3 true OK", "4 true OK", "1 true ErrFull", "1 true ErrShort", "2 true ErrNone", "2 true ErrRange", "2 true ErrState", "2 true ErrClash", "3 true ErrNone", "3 true ErrState", "4 true ErrNone", "4 true ErrState", "1 false OK", "2 false ErrState", "3 false ErrRange", "4 false ErrSyntax"} {
		if seen[key] < 3 {
			t.Errorf("only %d calls are such: %s; of %v", seen[key], key, seen)
		}
	}
}

// TestManyVersions: so many of one name that going over all of them for each call would take long.
func TestManyVersions(t *testing.T) {
	h := newHand(t)
	const many = 60000
	b := written(leaf(1))
	for i := range many {
		for _, c := range []api.Call{{What: api.Upload, Bytes: b}, {What: api.Try, Number: i + 1, Share: 50}, {What: api.Promote, Number: i + 1}} {
			c.Name = "m"
			if _, err := h.Do(h.next(c)); err != nil {
				t.Fatal(err)
			}
			h.Pick("m", i)
			h.Live("m")
		}
	}
	h.isLive("m", many)
	h.gone("m", many-1)
	l := h.All()
	if len(l) != many || h.Index() != 3*many {
		t.Fatalf("there are %d versions, and Index is %d", len(l), h.Index())
	}
	for i, v := range l[:many-1] {
		if v != version("m", i+1, api.Gone, 0) {
			t.Fatalf("version %d is %v", i+1, v)
		}
	}
}

// TestSameAgain: the same calls tell the same, whatever other shelves were asked for between.
func TestSameAgain(t *testing.T) {
	ask := func(s noise) string {
		h, m := newHand(t), &shadow{}
		out := ""
		for range 200 {
			c := s.call([]string{"m", "n", "ab", "a", "b"}, m)
			m.do(c)
			a, err := h.Do(c)
			out += fmt.Sprint(a, told(err), h.Index(), h.All())
		}
		return out + stand(h.Shelf)
	}
	first := ask(5)
	ask(6)
	ask(7)
	if ask(5) != first {
		t.Errorf("the same calls tell other things")
	}
}

// FuzzShelf: calls of any fields.
func FuzzShelf(f *testing.F) {
	f.Add(octets{1, 0, 1, 0, 0, 0, 2, 0, 2, 0, 1, 5, 3, 0, 3, 0, 1, 0})
	f.Add(octets{1, 1, 1, 1, 0, 0, 4, 1, 1, 1, 1, 0, 4, 2, 9, 1, 1, 0, 1, 2, 8, 0, 0, 0})
	f.Add(octets{5, 3, 0, 9, 255, 255})
	f.Fuzz(func(t *testing.T, all []byte) {
		names := []string{"a", "b", "c", "d", "e", "f", "g", "h", "i"}
		h, m := newHand(t), &shadow{}
		for b := range slices.Chunk(all[:min(len(all), 180)], 6) {
			b = append(b[:len(b):len(b)], make(octets, 6-len(b))...)
			c := api.Call{What: int(b[0] % 6), Session: int(b[1]%5) - 1, Seq: int(b[2]), Number: int(int8(b[4])), Share: int(b[5]), Name: append(names, "", "A")[b[3]%11]}
			if b[5]%8 != 7 {
				c.Bytes = written(leaf(int(b[5])))
			}
			want, e := m.do(c)
			h.answered(c, want, e, len(m.calls))
			m.holds(h, names, int(b[4])-1)
		}
	})
}
