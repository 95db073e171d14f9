package score_test

import (
	"errors"
	"fmt"
	"math"
	"runtime"
	"slices"
	"strings"
	"testing"
	"unsafe"

	"orchardry/api"
	"orchardry/code"
	"orchardry/flat"
	"orchardry/grove"
	"orchardry/score"
	"orchardry/shelf"
)

const (
	latest  = api.MaxTime
	lowest  = math.MinInt
	highest = math.MaxInt
	end     = api.MaxCell
	gone    = api.Nil
)

// none stands for an error that is nil.
const none = api.OK

// told gives what an error tells; -1, if it is none of the program's, or OK, which no error may be.
func told(err error) api.Errno {
	var e api.Errno
	switch {
	case err == nil:
		return none
	case errors.As(err, &e) && e != api.OK:
		return e
	}
	return -1
}

// octets are bytes that are handed in.
type octets = []byte

// noise: numbers that look as if they had no order, the same ones each time.
type noise uint64

func (s *noise) below(n int) int {
	*s = *s*6364136223846793005 + 1442695040888963407
	return int(uint64(*s) >> 33 % uint64(n))
}

func (s *noise) pick(l ...int) int { return l[s.below(len(l))] }

// leaf is a grove of no features and one leaf, which its Value tells from others.
func leaf(value int) api.Grove {
	return api.Grove{Way: api.Sum, Weights: []int{1}, Trees: [][]api.Node{{{Feature: api.Leaf, Value: value}}}}
}

// large is a grove of several trees and two features: of cell 1 below 5, or not there, it says -5, else 7.
func large() api.Grove {
	return api.Grove{Features: 2, Way: api.Mean, Weights: []int{3, 1}, Trees: [][]api.Node{
		{{Feature: 1, Cut: 5, Left: 1, Right: 2, Less: true}, {Feature: api.Leaf, Value: -7}, {Feature: api.Leaf, Value: 9}},
		{{Feature: api.Leaf, Value: 4}},
	}}
}

// tree of so many questions, not deeper than deep.
func (s *noise) tree(questions, features, deep int) []api.Node {
	if questions == 0 || deep == 0 {
		return []api.Node{{Feature: api.Leaf, Value: s.pick(-end, -2, -1, 0, 1, 2, end, s.below(2*end+1)-end)}}
	}
	ahead := s.below(questions)
	left, right := s.tree(ahead, features, deep-1), s.tree(questions-1-ahead, features, deep-1)
	t := []api.Node{{Feature: s.below(features), Cut: s.pick(-end, -3, -1, 0, 1, 3, end), Left: 1, Right: 1 + len(left), Less: s.below(2) == 0}}
	for i, side := range [][]api.Node{left, right} {
		from := []int{1, 1 + len(left)}[i]
		for _, n := range side {
			if n.Feature != api.Leaf {
				n.Left, n.Right = n.Left+from, n.Right+from
			}
			t = append(t, n)
		}
	}
	return t
}

// grove that is right, of so many features.
func (s *noise) grove(features int) api.Grove {
	g := api.Grove{Features: features, Way: s.pick(api.Sum, api.Mean, api.Vote)}
	for range 1 + s.below(6) {
		questions := 0
		if features > 0 {
			questions = s.below(12)
		}
		g.Trees = append(g.Trees, s.tree(questions, features, 10))
		g.Weights = append(g.Weights, s.pick(1, 1, 2, 3, 999, 1000))
	}
	return g
}

// row of so many cells, one in four not there.
func (s *noise) row(count int) []int {
	l := make([]int, count)
	for i := range l {
		l[i] = s.pick(gone, s.pick(-end, 1-end, end-1, end), s.below(9)-4, s.below(9)-4)
	}
	return l
}

// written gives a grove as bytes.
func written(g api.Grove) octets {
	b, err := code.Encode(g)
	if err != nil {
		panic(err)
	}
	return b
}

// version is told from others by its name and number.
type version struct {
	name   string
	number int
}

// scored has a Value, a version's Number and an Index.
func scored(value, number, index int) api.Score {
	return api.Score{Value: value, Version: number, Index: index}
}

// up is an Upload; who does it is said elsewhere.
func up(name string, g api.Grove) api.Call {
	return api.Call{What: api.Upload, Name: name, Bytes: written(g)}
}

// change is a call that asks for a version; who does it is said elsewhere.
func change(what int, name string, number, share int) api.Call {
	return api.Call{What: what, Name: name, Number: number, Share: share}
}

// of gives a call a session and a Seq.
func of(session, seq int, c api.Call) api.Call {
	c.Session, c.Seq = session, seq
	return c
}

// short tells of a call, of long texts and bytes only how they begin.
func short(c api.Call) string {
	name, b := c.Name[:min(len(c.Name), 20)], c.Bytes[:min(len(c.Bytes), 20)]
	return fmt.Sprintf("{What %d Session %d Seq %d Name %q Number %d Share %d Bytes %v of %d}", c.What, c.Session, c.Seq, name, c.Number, c.Share, b, len(c.Bytes))
}

// hand is a scorer, and who calls: session 0, each call with a Seq of its own.
type hand struct {
	*testing.T
	*score.Scorer
	seq int
}

func newHand(t *testing.T) *hand { return &hand{t, score.New(), 0} }

// hears a call as it is, as the next one; nothing is kept otherwise than it was.
func (h *hand) hears(c api.Call) {
	h.Helper()
	index, kept := h.Index(), h.Kept()
	if err := h.Hear(c, index+1); err != nil || h.Index() != index+1 {
		h.Fatalf("Hear of %s as %d = %v, and Index is %d", short(c), index+1, err, h.Index())
	}
	if is := h.Kept(); !slices.Equal(is, kept) {
		h.Errorf("behind Hear of %s %v is kept, and was %v", short(c), is, kept)
	}
}

// does a call of session 0, with the next Seq.
func (h *hand) does(c api.Call) {
	h.Helper()
	h.seq++
	h.hears(of(0, h.seq, c))
}

// upload, try, promote and retire a version.
func (h *hand) upload(name string, g api.Grove) {
	h.Helper()
	h.does(up(name, g))
}

func (h *hand) try(name string, number, share int) {
	h.Helper()
	h.does(change(api.Try, name, number, share))
}

func (h *hand) promote(name string, number int) {
	h.Helper()
	h.does(change(api.Promote, name, number, 0))
}

func (h *hand) retire(name string, number int) {
	h.Helper()
	h.does(change(api.Retire, name, number, 0))
}

// puts a version there that is live, the first of its name.
func (h *hand) puts(name string, g api.Grove) {
	h.Helper()
	h.upload(name, g)
	h.promote(name, 1)
}

// deaf holds Hear to an error that changes nothing.
func (h *hand) deaf(c api.Call, index int, e api.Errno) {
	h.Helper()
	was, kept := h.Index(), h.Kept()
	if err := h.Hear(c, index); told(err) != e {
		h.Errorf("Hear of %s as %d, behind %d, = %v, want %v", short(c), index, was, err, e)
	}
	if h.Index() != was || h.Cached() != len(kept) || !slices.Equal(h.Kept(), kept) {
		h.Errorf("behind Hear of %s as %d with %v Index is %d and %v is kept; these were %d and %v", short(c), index, e, h.Index(), h.Kept(), was, kept)
	}
}

// says holds Score to a Value and a version's Number; Index is what it is.
func (h *hand) says(name string, row []int, key, value, number int) {
	h.Helper()
	want := scored(value, number, h.Index())
	for _, token := range []int{0, h.Index()} {
		if x, err := h.Score(name, row, key, token); x != want || err != nil {
			h.Errorf("Score of %q, %v, key %d, token %d = %v, %v, want %v", name, row, key, token, x, err, want)
		}
	}
	if l := h.Kept(); len(l) == 0 || l[len(l)-1].Name != name || l[len(l)-1].Number != number {
		h.Errorf("behind Score of %q %d %v is kept", name, number, l)
	}
}

// fails holds Score to an error that changes nothing.
func (h *hand) fails(name string, row []int, key, token int, e api.Errno) {
	h.Helper()
	index, kept := h.Index(), h.Kept()
	if x, err := h.Score(name, row, key, token); x != (api.Score{}) || told(err) != e {
		h.Errorf("Score of %q, %v, key %d, token %d = %v, %v, want %v", name, row, key, token, x, err, e)
	}
	if h.Index() != index || h.Cached() != len(kept) || !slices.Equal(h.Kept(), kept) {
		h.Errorf("behind Score of %q, %v, key %d, token %d with %v Index is %d and %v is kept; these were %d and %v", name, row, key, token, e, h.Index(), h.Kept(), index, kept)
	}
}

// keeps holds Cached, and which versions are kept, to these, the one that was asked for last at the end.
func (h *hand) keeps(want ...version) {
	h.Helper()
	if n := h.Cached(); n != len(want) {
		h.Errorf("Cached = %d, want %d", n, len(want))
	}
	if l := h.kept(); !slices.Equal(l, want) {
		h.Errorf("kept are %v, want %v", l, want)
	}
}

// kept versions.
func (h *hand) kept() (l []version) {
	for _, p := range h.Kept() {
		l = append(l, version{p.Name, p.Number})
	}
	return l
}

// TestEmpty: what a new one tells.
func TestEmpty(t *testing.T) {
	h := newHand(t)
	if h.Index() != 0 || h.Cached() != 0 {
		t.Errorf("Index = %d, Cached = %d", h.Index(), h.Cached())
	}
	for _, name := range []string{"", "a", "model", "A", strings.Repeat("a", 13), "\xff"} {
		h.fails(name, nil, 0, 0, api.ErrNone)
		h.fails(name, nil, latest, 0, api.ErrNone)
		h.fails(name, nil, 0, 1, api.ErrState)
		h.fails(name, nil, -1, 0, api.ErrRange)
	}
	h.keeps()
}

// TestHearRange: an index at both ends of what it may be, and one and many beyond each.
func TestHearRange(t *testing.T) {
	h := newHand(t)
	beyond := []int{0, -1, lowest, latest + 1, latest + 2, highest, 1<<32 + 1, -1<<32 + 1}
	c := of(0, 1, up("m", leaf(1)))
	for _, index := range beyond {
		h.deaf(c, index, api.ErrRange)
	}
	h.deaf(c, latest, api.ErrState)
	h.hears(c)
	for _, index := range beyond {
		h.deaf(c, index, api.ErrRange)
		h.deaf(api.Call{}, index, api.ErrRange)
	}
	h.deaf(c, latest, api.ErrState)
	h.deaf(c, 1, api.ErrState)
	h.hears(of(0, 2, change(api.Promote, "m", 1, 0)))
	h.says("m", nil, 0, 1, 1)
}

// TestHearAll: as many calls as there may be, of which the last ones are done as well, and then no more.
func TestHearAll(t *testing.T) {
	h := newHand(t)
	for i := range latest - 2 {
		if err := h.Hear(api.Call{}, i+1); err != nil {
			t.Fatalf("Hear as %d = %v", i+1, err)
		}
	}
	h.upload("m", leaf(6))
	h.fails("m", nil, 0, latest, api.ErrState)
	h.fails("m", nil, 0, latest-1, api.ErrNone)
	h.deaf(api.Call{}, latest-1, api.ErrState)
	h.deaf(api.Call{}, latest+1, api.ErrRange)
	h.promote("m", 1)
	if h.Index() != latest {
		t.Fatalf("Index = %d", h.Index())
	}
	h.says("m", nil, 0, 6, 1)
	retire := of(0, 3, change(api.Retire, "m", 1, 0))
	h.deaf(retire, latest+1, api.ErrRange)
	h.deaf(retire, latest, api.ErrState)
	h.deaf(retire, 1, api.ErrState)
	h.deaf(retire, 0, api.ErrRange)
	h.says("m", nil, 0, 6, 1)
	h.fails("m", nil, 0, latest+1, api.ErrRange)
}

// TestHearState: an index that is not one more than Index.
func TestHearState(t *testing.T) {
	h := newHand(t)
	calls := []api.Call{of(0, 1, up("m", leaf(3))), of(0, 2, change(api.Promote, "m", 1, 0)), of(1, 1, up("m", leaf(4))), {}, of(1, 2, change(api.Promote, "m", 2, 0)), of(1, 3, change(api.Retire, "m", 2, 0))}
	for i, c := range calls {
		// i calls were heard: above i+1 one or more are left out, i is the same again, and what is less was before.
		for _, index := range []int{i + 2, i + 3, i + 100, latest, i, i - 1, i - 2, 1} {
			if index >= 1 && index != i+1 {
				h.deaf(c, index, api.ErrState)
			}
		}
		h.hears(c)
		h.deaf(c, i+1, api.ErrState)
	}
	h.fails("m", nil, 0, 6, api.ErrNone)
}

// TestHearWhichComesFirst: what is wrong with the call is not told, and of what is wrong with the index what it may be is.
func TestHearWhichComesFirst(t *testing.T) {
	wrong := []api.Call{
		{},
		{What: 5, Session: -1, Seq: 0, Name: "A"},
		of(-1, 3, up("m", leaf(1))),
		of(0, 1, up("M", leaf(1))),
		of(0, 0, change(api.Retire, "m", 1, 0)),
		of(3, 3, api.Call{What: api.Upload, Name: "m", Bytes: octets{9}}),
		of(3, 3, change(api.Try, "none", 1, 0)),
	}
	h := newHand(t)
	h.puts("m", leaf(1))
	for _, c := range wrong {
		// None of these is one more than Index either.
		for _, index := range []int{0, -1, lowest, latest + 1, highest} {
			h.deaf(c, index, api.ErrRange)
		}
		for _, index := range []int{h.Index(), h.Index() + 2, latest, 1} {
			h.deaf(c, index, api.ErrState)
		}
		h.hears(c)
		h.says("m", nil, 0, 1, 1)
	}
}

// TestHearWithAnError: it leaves all as it was, so that one that heard wrong calls between tells the same as one that did not.
func TestHearWithAnError(t *testing.T) {
	var s noise = 9
	a, b, m := newHand(t), newHand(t), newShadow()
	for i := range 400 {
		c := s.call(m)
		for _, index := range []int{i, i + 2, latest, 0, -1, latest + 1} {
			e := api.ErrState
			if index < 1 || index > latest {
				e = api.ErrRange
			}
			b.deaf(s.call(m), index, e)
		}
		m.hear(c, i+1)
		a.hears(c)
		b.hears(c)
		for _, name := range names() {
			key, row := s.below(100), s.row(2)
			x, err := a.Score(name, row, key, i+1)
			y, bad := b.Score(name, row, key, i+1)
			if x != y || told(err) != told(bad) {
				t.Fatalf("Score of %q, %v, key %d = %v, %v, and %v, %v of the one that heard wrong calls", name, row, key, x, err, y, bad)
			}
		}
		if !slices.Equal(a.kept(), b.kept()) {
			t.Fatalf("kept are %v, and %v by the one that heard wrong calls", a.kept(), b.kept())
		}
	}
}

// TestHearRefused: calls that a shelf refuses are heard, and nothing comes of them but that Index is one more.
func TestHearRefused(t *testing.T) {
	refused := []api.Call{
		{},
		of(0, 9, api.Call{What: 0, Name: "m", Number: 1}),
		of(0, 9, api.Call{What: 5, Name: "m", Number: 1}),
		of(-1, 9, change(api.Retire, "m", 1, 0)),
		of(latest+1, 9, change(api.Retire, "m", 1, 0)),
		of(0, 0, change(api.Retire, "m", 1, 0)),
		of(0, latest+1, change(api.Retire, "m", 1, 0)),
		of(0, 9, change(api.Retire, "", 1, 0)),
		of(0, 9, change(api.Retire, "M", 1, 0)),
		of(0, 9, up("thirteenslett", leaf(1))),
	}
	h := newHand(t)
	h.puts("m", leaf(4))
	h.says("m", nil, 0, 4, 1)
	for i, c := range refused {
		h.hears(c)
		h.says("m", nil, 0, 4, 1)
		if h.Index() != 3+i {
			t.Errorf("Index = %d behind %d calls", h.Index(), 3+i)
		}
	}
	// None of them counted there: a Seq of 3 is still the next one of session 0.
	h.hears(of(0, 3, change(api.Retire, "m", 1, 0)))
	h.fails("m", nil, 0, h.Index(), api.ErrNone)
}

// TestHearFailed: calls that count on a shelf, but have an error there.
func TestHearFailed(t *testing.T) {
	h := newHand(t)
	h.puts("m", leaf(4))
	h.upload("m", leaf(5))
	for i, c := range []api.Call{
		{What: api.Upload, Name: "m"},
		{What: api.Upload, Name: "m", Bytes: written(large())[:7]},
		{What: api.Upload, Name: "m", Bytes: make(octets, api.MaxBytes+1)},
		change(api.Try, "m", 2, 0),
		change(api.Try, "m", 2, 100),
		change(api.Try, "m", 3, 50),
		change(api.Try, "m", 1, 50),
		change(api.Promote, "m", 1, 0),
		change(api.Promote, "m", 3, 0),
		change(api.Promote, "n", 1, 0),
		change(api.Retire, "m", 0, 0),
		change(api.Retire, "m", -1, 0),
	} {
		h.does(c)
		h.says("m", nil, 0, 4, 1)
		if h.Index() != 4+i {
			t.Errorf("Index = %d behind %d calls", h.Index(), 4+i)
		}
	}
	// They counted there: what session 0 says with a Seq of 4 is too late, and that is heard too.
	h.hears(of(0, 4, change(api.Promote, "m", 2, 0)))
	h.says("m", nil, 0, 4, 1)
	h.promote("m", 2)
	h.says("m", nil, 0, 5, 2)
	if h.Index() != 17 {
		t.Errorf("Index = %d", h.Index())
	}
}

// TestHearAgain: calls with the Seq of a session's last one, or a lesser one, are heard, and not done.
func TestHearAgain(t *testing.T) {
	h := newHand(t)
	h.hears(of(0, 5, up("m", leaf(1))))
	h.hears(of(0, 5, up("m", leaf(1))))
	h.hears(of(0, 5, up("m", leaf(2))))
	h.hears(of(0, 4, up("m", leaf(3))))
	h.hears(of(0, 1, up("m", leaf(4))))
	// There is one version: the others would be 2 to 5.
	for number := 5; number >= 2; number-- {
		h.hears(of(1, 7-number, change(api.Promote, "m", number, 0)))
		h.fails("m", nil, 0, h.Index(), api.ErrNone)
	}
	h.hears(of(0, 6, change(api.Promote, "m", 1, 0)))
	h.says("m", nil, 0, 1, 1)
	h.hears(of(0, 6, change(api.Promote, "m", 1, 0)))
	h.hears(of(0, 6, change(api.Retire, "m", 1, 0)))
	h.says("m", nil, 0, 1, 1)
	h.hears(of(2, 6, change(api.Retire, "m", 1, 0)))
	h.fails("m", nil, 0, h.Index(), api.ErrNone)
	if h.Index() != 13 {
		t.Errorf("Index = %d, want 13: so many were heard", h.Index())
	}
}

// TestToken: at both ends of what it may be, one and many beyond each, just Index and one above.
func TestToken(t *testing.T) {
	h := newHand(t)
	h.fails("m", nil, 0, 0, api.ErrNone)
	h.fails("m", nil, 0, 1, api.ErrState)
	h.puts("m", leaf(8))
	h.hears(api.Call{})
	for index := 3; index < 8; index++ {
		for _, token := range []int{-1, -2, lowest, latest + 1, latest + 2, highest, 1 << 32, -1 << 32} {
			h.fails("m", nil, 0, token, api.ErrRange)
		}
		for _, token := range []int{index + 1, index + 2, latest - 1, latest} {
			h.fails("m", nil, 0, token, api.ErrState)
		}
		for token := range index + 1 {
			// However little is asked for, what is known is told, and how much that is.
			if x, err := h.Score("m", nil, 0, token); x != scored(8, 1, index) || err != nil {
				t.Errorf("Score with token %d of %d = %v, %v", token, index, x, err)
			}
		}
		h.hears(api.Call{})
	}
}

// TestNotAsOfToken: what is told is what is so now, not what was so then.
func TestNotAsOfToken(t *testing.T) {
	h := newHand(t)
	h.puts("m", leaf(1))
	h.upload("m", leaf(2))
	h.promote("m", 2)
	for token := range 5 {
		if x, err := h.Score("m", nil, 0, token); x != scored(2, 2, 4) || err != nil {
			t.Errorf("Score with token %d = %v, %v", token, x, err)
		}
	}
}

// TestPickErrors: a key at both ends of what it may be and beyond each, and names of which nothing is live.
func TestPickErrors(t *testing.T) {
	h := newHand(t)
	h.puts("m", leaf(8))
	h.upload("draft", leaf(1))
	h.puts("retired", leaf(1))
	h.retire("retired", 1)
	for _, key := range []int{-1, -2, lowest, latest + 1, highest, 1 << 32, -1 << 32} {
		h.fails("m", nil, key, 0, api.ErrRange)
		h.fails("none", nil, key, 0, api.ErrRange)
	}
	for _, key := range []int{0, 1, latest - 1, latest} {
		h.says("m", nil, key, 8, 1)
		for _, name := range []string{"none", "", "M", "m ", "mm", "draft", "retired", strings.Repeat("m", 13), strings.Repeat("m", 100000), "\x00", "m\x00"} {
			h.fails(name, nil, key, 0, api.ErrNone)
		}
	}
	h.keeps(version{"m", 1})
}

// TestEvalErrors: chapter 6's, of a grove of two features.
func TestEvalErrors(t *testing.T) {
	h := newHand(t)
	h.puts("m", large())
	for round := range 2 {
		for _, count := range []int{9, 10, 100000} {
			h.fails("m", make([]int, count), 0, 0, api.ErrFull)
			h.fails("m", slices.Repeat([]int{end + 1}, count), 0, 0, api.ErrFull)
		}
		for _, cell := range []int{end + 1, -end - 1, gone + 1, gone - 1, lowest, highest} {
			for _, row := range [][]int{{cell, 0}, {0, cell}, {cell}, {0, 0, cell}, {cell, cell}, {0, 0, 0, 0, 0, 0, 0, cell}} {
				h.fails("m", row, 0, 0, api.ErrRange)
			}
		}
		for _, count := range []int{0, 1, 3, 8} {
			h.fails("m", make([]int, count), 0, 0, api.ErrShape)
			h.fails("m", slices.Repeat([]int{gone}, count), 0, 0, api.ErrShape)
		}
		if h.Cached() != round {
			t.Errorf("Cached = %d in round %d", h.Cached(), round)
		}
		// What is wrong is told as well of a version that is kept, which it is behind this.
		for _, row := range [][]int{{end, 5}, {-end, end}, {gone, 5}} {
			h.says("m", row, 0, 7, 1)
		}
		for _, row := range [][]int{{end, 4}, {-end, -end}, {0, gone}, {gone, gone}} {
			h.says("m", row, 0, -5, 1)
		}
	}
}

// fault is a thing to ask with, and what is wrong with it.
type fault[T any] struct {
	of T
	e  api.Errno
}

// TestWhichComesFirst: all that may be wrong, with all else that may be.
func TestWhichComesFirst(t *testing.T) {
	h := newHand(t)
	h.puts("m", large())
	h.upload("draft", large())
	h.puts("gone", large())
	h.retire("gone", 1)
	i := h.Index()
	tokens := []fault[int]{{-1, api.ErrRange}, {latest + 1, api.ErrRange}, {i + 1, api.ErrState}, {latest, api.ErrState}, {i, none}, {0, none}}
	keys := []fault[int]{{-1, api.ErrRange}, {latest + 1, api.ErrRange}, {0, none}, {latest, none}}
	names := []fault[string]{{"", api.ErrNone}, {"M", api.ErrNone}, {"none", api.ErrNone}, {"draft", api.ErrNone}, {"gone", api.ErrNone}, {"m", none}}
	rows := []fault[[]int]{
		{slices.Repeat([]int{highest}, 9), api.ErrFull}, {make([]int, 9), api.ErrFull},
		{[]int{0, end + 1}, api.ErrRange}, {[]int{end + 1}, api.ErrRange}, {[]int{0, 0, lowest}, api.ErrRange},
		{nil, api.ErrShape}, {[]int{0}, api.ErrShape}, {[]int{0, 5, 0}, api.ErrShape},
		{[]int{0, 5}, none},
	}
	for _, token := range tokens {
		for _, key := range keys {
			for _, name := range names {
				for _, row := range rows {
					first := none
					for _, e := range []api.Errno{row.e, name.e, key.e, token.e} {
						if e != none {
							first = e
						}
					}
					if first != none {
						h.fails(name.of, row.of, key.of, token.of, first)
					} else {
						h.says(name.of, row.of, key.of, 7, 1)
					}
				}
			}
		}
	}
}

// TestStages: what is told of a model from its first draft on.
func TestStages(t *testing.T) {
	h := newHand(t)
	// all keys are told one thing.
	all := func(value, number int) {
		t.Helper()
		for _, key := range []int{0, 1, 3, 4, 27, 99, 100, latest} {
			h.says("m", nil, key, value, number)
		}
	}
	nothing := func() {
		t.Helper()
		for _, key := range []int{0, 1, 3, 4, 27, 99, 100, latest} {
			h.fails("m", nil, key, h.Index(), api.ErrNone)
		}
	}
	h.upload("m", leaf(10))
	nothing()
	h.promote("m", 1)
	all(10, 1)
	h.upload("m", leaf(20))
	all(10, 1)
	h.try("m", 2, 30)
	// By 37 these end in 0, 11, 0 and 0, which is below 30; those behind in 37, 48, 99 and 63, which is not.
	for _, key := range []int{0, 3, 100, latest} {
		h.says("m", nil, key, 20, 2)
	}
	for _, key := range []int{1, 4, 27, 99} {
		h.says("m", nil, key, 10, 1)
	}
	h.upload("m", leaf(30))
	h.promote("m", 2)
	all(20, 2)
	h.retire("m", 1)
	all(20, 2)
	h.try("m", 3, 99)
	h.says("m", nil, 26, 30, 3)
	h.says("m", nil, 27, 20, 2)
	h.retire("m", 3)
	all(20, 2)
	h.retire("m", 2)
	nothing()
	for number := 1; number <= 3; number++ {
		h.promote("m", number)
		h.try("m", number, 99)
		nothing()
	}
	h.upload("m", leaf(40))
	nothing()
	h.promote("m", 4)
	all(40, 4)
}

// TestCanaryAlone: without a live one there is something for its own keys alone.
func TestCanaryAlone(t *testing.T) {
	h := newHand(t)
	h.upload("m", leaf(5))
	h.try("m", 1, 12)
	for _, key := range []int{0, 3, 100, 103, latest, latest - 97} {
		h.says("m", nil, key, 5, 1)
	}
	for _, key := range []int{1, 2, 4, 101, latest - 1} {
		h.fails("m", nil, key, 0, api.ErrNone)
	}
	h.promote("m", 1)
	for _, key := range []int{0, 1, 2, 3, 4, latest - 1, latest} {
		h.says("m", nil, key, 5, 1)
	}
}

// TestCanaryKeys: of all hundred keys so many are the canary's as its Share says.
func TestCanaryKeys(t *testing.T) {
	for _, share := range []int{1, 2, 37, 50, 98, 99} {
		h := newHand(t)
		h.puts("m", leaf(1))
		h.upload("m", leaf(2))
		h.try("m", 2, share)
		many := 0
		for key := range 100 {
			number := 1
			if key*37%100 < share {
				number = 2
				many++
			}
			for _, far := range []int{0, 100, latest - 100} {
				h.says("m", nil, key+far, number, number)
			}
		}
		if many != share {
			t.Errorf("%d keys are the canary's, want %d", many, share)
		}
		h.retire("m", 1)
		h.says("m", nil, 0, 2, 2)
		h.fails("m", nil, 27, 0, api.ErrNone)
	}
}

// TestPromoteBesideCanary: a draft that is live takes nothing from the canary.
func TestPromoteBesideCanary(t *testing.T) {
	h := newHand(t)
	h.puts("m", leaf(1))
	h.upload("m", leaf(2))
	h.upload("m", leaf(3))
	h.try("m", 2, 50)
	h.says("m", nil, 0, 2, 2)
	h.says("m", nil, 2, 1, 1)
	h.promote("m", 3)
	h.says("m", nil, 0, 2, 2)
	h.says("m", nil, 2, 3, 3)
}

// TestIsEval: what is told is what chapter 6's Eval tells of the grove, asked once and again, before and behind Scores of others.
func TestIsEval(t *testing.T) {
	var s noise = 4
	missing := 0
	for range 30 {
		h := newHand(t)
		groves := map[string]api.Grove{}
		for i, name := range []string{"a", "b", "c", "d", "e", "f", "g", "h"} {
			groves[name] = s.grove(s.pick(i, 8, 2))
			h.puts(name, groves[name])
		}
		for range 60 {
			name := string(rune('a' + s.below(8)))
			g := groves[name]
			row := s.row(g.Features)
			want, err := grove.Eval(g, row)
			if err != nil {
				t.Fatal(err)
			}
			if slices.Contains(row, gone) {
				missing++
			}
			h.says(name, row, s.below(latest+1), want, 1)
		}
	}
	if missing < 500 {
		t.Errorf("only %d rows had cells that are not there", missing)
	}
}

// TestCached: none, one, the same again, four, five and more.
func TestCached(t *testing.T) {
	h := newHand(t)
	for i, name := range names() {
		h.puts(name, leaf(i))
	}
	h.keeps()
	l := []version{}
	for i, name := range names() {
		for range 3 {
			h.says(name, nil, 0, i, 1)
			h.keeps(append(l, version{name, 1})[max(len(l)-3, 0):]...)
		}
		l = append(l, version{name, 1})
		if h.Cached() != min(i+1, 4) {
			t.Errorf("Cached = %d behind %d versions", h.Cached(), i+1)
		}
	}
	if len(l) < 6 {
		t.Errorf("only %d versions were asked for", len(l))
	}
}

// TestCachedOfOneName: versions of one name, each live for a while; one that was retired was asked for all the same.
func TestCachedOfOneName(t *testing.T) {
	h := newHand(t)
	for number := 1; number <= 7; number++ {
		h.upload("m", leaf(number))
		h.promote("m", number)
		h.says("m", nil, 0, number, number)
		if h.Cached() != min(number, 4) {
			t.Errorf("Cached = %d behind %d versions", h.Cached(), number)
		}
	}
	h.retire("m", 7)
	h.fails("m", nil, 0, 0, api.ErrNone)
	h.keeps(version{"m", 4}, version{"m", 5}, version{"m", 6}, version{"m", 7})
}

// TestCachedCanary: the canary and the live one of a name are two, and so are those of one number of two names.
func TestCachedCanary(t *testing.T) {
	h := newHand(t)
	for i, name := range []string{"m", "mm"} {
		h.puts(name, leaf(10*i+1))
		h.upload(name, leaf(10*i+2))
		h.try(name, 2, 50)
	}
	h.says("m", nil, 0, 2, 2)
	h.says("m", nil, 2, 1, 1)
	h.keeps(version{"m", 2}, version{"m", 1})
	h.says("mm", nil, 2, 11, 1)
	h.says("mm", nil, 0, 12, 2)
	h.keeps(version{"m", 2}, version{"m", 1}, version{"mm", 1}, version{"mm", 2})
	h.says("m", nil, 100, 2, 2)
	h.keeps(version{"m", 1}, version{"mm", 1}, version{"mm", 2}, version{"m", 2})
	// The canary that is live is the version that it was.
	h.promote("m", 2)
	h.says("m", nil, 2, 2, 2)
	h.keeps(version{"m", 1}, version{"mm", 1}, version{"mm", 2}, version{"m", 2})
}

// TestCachedGivesWay: the one that was not asked for the longest, not the one that came first.
func TestCachedGivesWay(t *testing.T) {
	h := newHand(t)
	for i, name := range names() {
		h.puts(name, leaf(i))
	}
	for _, step := range [][2]string{
		{"a", "a"}, {"b", "ab"}, {"c", "abc"}, {"d", "abcd"},
		{"a", "bcda"}, {"e", "cdae"}, {"b", "daeb"}, {"d", "aebd"}, {"e", "abde"}, {"e", "abde"},
		{"f", "bdef"}, {"a", "defa"}, {"d", "efad"}, {"a", "efda"}, {"b", "fdab"}, {"c", "dabc"},
	} {
		h.says(step[0], nil, 0, int(step[0][0]-'a'), 1)
		var want []version
		for _, c := range step[1] {
			want = append(want, version{string(c), 1})
		}
		h.keeps(want...)
	}
}

// TestCachedWithAnError: a Score with an error changes nothing: neither how many are kept, nor which one gives way next.
func TestCachedWithAnError(t *testing.T) {
	h := newHand(t)
	for i, name := range names() {
		h.puts(name, leaf(i))
	}
	wrong := func(name string) {
		t.Helper()
		h.fails(name, nil, 0, -1, api.ErrRange)
		h.fails(name, nil, 0, h.Index()+1, api.ErrState)
		h.fails(name, nil, -1, 0, api.ErrRange)
		h.fails("none", nil, 0, 0, api.ErrNone)
		h.fails(name, make([]int, 9), 0, 0, api.ErrFull)
		h.fails(name, []int{highest}, 0, 0, api.ErrRange)
		h.fails(name, []int{0}, 0, 0, api.ErrShape)
	}
	wrong("a")
	h.keeps()
	for i, name := range names()[:4] {
		h.says(name, nil, 0, i, 1)
		wrong(names()[i+1])
		wrong("a")
	}
	h.keeps(version{"a", 1}, version{"b", 1}, version{"c", 1}, version{"d", 1})
	wrong("a")
	h.says("e", nil, 0, 4, 1)
	h.keeps(version{"b", 1}, version{"c", 1}, version{"d", 1}, version{"e", 1})
	wrong("a")
	wrong("b")
	h.says("f", nil, 0, 5, 1)
	h.keeps(version{"c", 1}, version{"d", 1}, version{"e", 1}, version{"f", 1})
}

// TestCachedIsWhatIsAsked: what is kept is what chapter 7 made, once, as long as it does not give way.
func TestCachedIsWhatIsAsked(t *testing.T) {
	var s noise = 11
	h := newHand(t)
	groves := map[string]api.Grove{}
	for _, name := range names() {
		groves[name] = s.grove(3)
		h.puts(name, groves[name])
	}
	ask := func(name string) *flat.Flat {
		t.Helper()
		row := s.row(3)
		value, _ := grove.Eval(groves[name], row)
		h.says(name, row, 0, value, 1)
		l := h.Kept()
		f := l[len(l)-1].Flat
		made, err := flat.New(groves[name])
		if err != nil {
			t.Fatal(err)
		}
		if is, want := fmt.Sprint(f.Grove(), f.Size()), fmt.Sprint(made.Grove(), made.Size()); is != want {
			t.Errorf("of %q %s is kept, want %s", name, is, want)
		}
		return f
	}
	a, b := ask("a"), ask("b")
	ask("c")
	ask("d")
	h.does(up("a", leaf(1)))
	h.does(up("b", leaf(1)))
	if ask("b") != b || ask("a") != a || ask("a") != a {
		t.Errorf("it was made a second time")
	}
	ask("e")
	ask("f")
	if ask("b") != b || ask("a") != a {
		t.Errorf("it was made a second time")
	}
}

// TestNoMoreIsKept: thousands of versions that were asked for, and are Gone, need no room.
func TestNoMoreIsKept(t *testing.T) {
	room := func() int {
		var m runtime.MemStats
		runtime.GC()
		runtime.ReadMemStats(&m)
		return int(m.HeapAlloc)
	}
	g := api.Grove{Features: 1, Way: api.Sum}
	var s noise = 2
	for range api.MaxTrees {
		g.Trees = append(g.Trees, s.tree(20, 1, 10))
		g.Weights = append(g.Weights, 1)
	}
	b := written(g)
	value, err := grove.Eval(g, []int{0})
	if err != nil {
		t.Fatal(err)
	}
	h := newHand(t)
	ahead := room()
	const many = 4000
	for i := range many {
		h.does(api.Call{What: api.Upload, Name: "m", Bytes: b})
		h.promote("m", i+1)
		if x, err := h.Score("m", []int{0}, i, 2*i+2); x != scored(value, i+1, 2*i+2) || err != nil {
			t.Fatalf("Score = %v, %v", x, err)
		}
	}
	if each := (room() - ahead) / many; each > 1000 {
		t.Errorf("%d bytes are kept of each version", each)
	}
	h.keeps(version{"m", many - 3}, version{"m", many - 2}, version{"m", many - 1}, version{"m", many})
}

// TestSideBySide: of two scorers neither tells of the other.
func TestSideBySide(t *testing.T) {
	a, b := newHand(t), newHand(t)
	a.puts("m", leaf(1))
	b.fails("m", nil, 0, 0, api.ErrNone)
	b.fails("m", nil, 0, 1, api.ErrState)
	b.deaf(api.Call{}, 3, api.ErrState)
	b.upload("m", leaf(2))
	b.upload("m", leaf(3))
	b.promote("m", 2)
	a.says("m", nil, 0, 1, 1)
	b.keeps()
	b.says("m", nil, 0, 3, 2)
	a.keeps(version{"m", 1})
	b.keeps(version{"m", 2})
	a.retire("m", 1)
	b.says("m", nil, 0, 3, 2)
	a.fails("m", nil, 0, 0, api.ErrNone)
	for i, name := range names() {
		b.puts(name, leaf(i))
		b.says(name, nil, 0, i, 1)
	}
	a.keeps(version{"m", 1})
	if a.Index() != 3 || b.Index() != 3+2*len(names()) {
		t.Errorf("Index = %d and %d", a.Index(), b.Index())
	}
}

// TestBehindEachOther: a scorer that has heard less tells what was so, till it has heard as much.
func TestBehindEachOther(t *testing.T) {
	calls := []api.Call{of(0, 1, up("m", leaf(1))), of(0, 2, change(api.Promote, "m", 1, 0)), of(0, 3, up("m", leaf(2))), of(0, 4, change(api.Promote, "m", 2, 0))}
	a, b := newHand(t), newHand(t)
	for _, c := range calls {
		a.hears(c)
	}
	for _, c := range calls[:2] {
		b.hears(c)
	}
	a.says("m", nil, 0, 2, 2)
	b.says("m", nil, 0, 1, 1)
	b.fails("m", nil, 0, a.Index(), api.ErrState)
	for _, c := range calls[2:] {
		b.fails("m", nil, 0, a.Index(), api.ErrState)
		b.hears(c)
	}
	b.says("m", nil, 0, 2, 2)
}

// TestHandedIn: bytes are as they were, what lies behind them is neither read nor written, and changing them afterwards changes nothing.
func TestHandedIn(t *testing.T) {
	for _, behind := range []byte{0, 1, 0x80, 0xff} {
		for _, asked := range []bool{false, true} {
			right := written(large())
			memory := append(slices.Clone(right), slices.Repeat(octets{behind}, 20)...)
			ahead := slices.Clone(memory)
			h := newHand(t)
			h.does(api.Call{What: api.Upload, Name: "m", Bytes: memory[:len(right)]})
			h.does(api.Call{What: api.Promote, Name: "m", Number: 1, Bytes: memory[:3]})
			if asked {
				h.says("m", []int{0, 5}, 0, 7, 1)
			}
			if !slices.Equal(memory, ahead) {
				t.Errorf("what was handed in is %v, and was %v", memory, ahead)
			}
			for i := range memory {
				memory[i] = 0x55
			}
			h.says("m", []int{0, 5}, 0, 7, 1)
			h.says("m", []int{0, 4}, 0, -5, 1)
		}
	}
}

// TestRowIsAsItWas: so is what lies behind it, and changing it afterwards changes nothing.
func TestRowIsAsItWas(t *testing.T) {
	h := newHand(t)
	h.puts("m", large())
	for _, behind := range []int{0, gone, highest, lowest} {
		memory := []int{3, 5, behind, behind, behind}
		ahead := slices.Clone(memory)
		h.says("m", memory[:2], 0, 7, 1)
		h.fails("m", memory[:1], 0, 0, api.ErrShape)
		h.fails("m", memory[:0], 0, 0, api.ErrShape)
		if !slices.Equal(memory, ahead) {
			t.Errorf("what was handed in is %v, and was %v", memory, ahead)
		}
		memory[1] = 4
		h.says("m", []int{3, 5}, 0, 7, 1)
		h.says("m", memory[:2], 0, -5, 1)
	}
	// No cells and nil are the same.
	h.puts("n", leaf(6))
	h.says("n", nil, 0, 6, 1)
	h.says("n", []int{}, 0, 6, 1)
	h.says("n", make([]int, 0, 9), 0, 6, 1)
}

// TestNameIsItsOwn: names that are pieces of a longer text, of which nothing is kept, though that is written over afterwards.
func TestNameIsItsOwn(t *testing.T) {
	h := newHand(t)
	text := octets("a model of models")
	name := unsafe.String(&text[2], 5)
	h.puts(name, leaf(1))
	h.puts(name[:2], leaf(2))
	h.says(name, nil, 0, 1, 1)
	h.says(name[:2], nil, 0, 2, 1)
	copy(text, "zzzzzzzzzzzzzzzzz")
	h.keeps(version{"model", 1}, version{"mo", 1})
	h.says("model", nil, 0, 1, 1)
	h.says("mo", nil, 0, 2, 1)
	h.fails("zzzzz", nil, 0, 0, api.ErrNone)
	h.keeps(version{"model", 1}, version{"mo", 1})
}

// TestAskingChangesNothing: of what is told afterwards, whatever was asked and whatever was wrong.
func TestAskingChangesNothing(t *testing.T) {
	var s noise = 21
	a, b, m := newHand(t), newHand(t), newShadow()
	for i := range 300 {
		c := s.call(m)
		m.hear(c, i+1)
		a.hears(c)
		b.hears(c)
		for range 5 {
			b.Score(s.name(), s.row(s.pick(2, 2, 2, 1, 9)), s.pick(s.below(100), -1), s.pick(0, i+1, i+2))
			b.Index()
			b.Cached()
		}
		name, row, key := s.name(), s.row(2), s.below(100)
		x, err := a.Score(name, row, key, i+1)
		y, bad := b.Score(name, row, key, i+1)
		if x != y || told(err) != told(bad) {
			t.Fatalf("Score of %q, %v, key %d = %v, %v, and %v, %v of the one that was asked more", name, row, key, x, err, y, bad)
		}
	}
}

// names of models.
func names() []string { return []string{"a", "b", "c", "d", "e", "f"} }

func (s *noise) name() string { return names()[s.below(len(names()))] }

// shadow tells a second time what a scorer is to tell: by a shelf, by the groves that are there, and by all versions that were asked for, one behind the other.
type shadow struct {
	shelf *shelf.Shelf
	heard int
	asked []version
	// seqs has of each session the Seq of the call that counted last.
	seqs map[int]int
}

func newShadow() *shadow { return &shadow{shelf: shelf.New(), seqs: map[int]int{}} }

func (m *shadow) hear(c api.Call, index int) api.Errno {
	if index < 1 || index > 1000000 {
		return api.ErrRange
	}
	if index != m.heard+1 {
		return api.ErrState
	}
	m.heard++
	counted := m.shelf.Index()
	m.shelf.Do(c)
	if m.shelf.Index() > counted {
		m.seqs[c.Session] = c.Seq
	}
	return none
}

func (m *shadow) score(name string, row []int, key, token int) (api.Score, api.Errno) {
	if token < 0 || token > 1000000 {
		return api.Score{}, api.ErrRange
	}
	if token > m.heard {
		return api.Score{}, api.ErrState
	}
	v, err := m.shelf.Pick(name, key)
	if err != nil {
		return api.Score{}, told(err)
	}
	g, err := m.shelf.Grove(name, v.Number)
	if err != nil {
		return api.Score{}, -1
	}
	value, err := grove.Eval(g, row)
	if err != nil {
		return api.Score{}, told(err)
	}
	m.asked = append(m.asked, version{name, v.Number})
	return api.Score{Value: value, Version: v.Number, Index: m.heard}, none
}

// kept has the last four of those that were asked for, each where it was asked for last.
func (m *shadow) kept() []version {
	var l []version
	for _, v := range slices.Backward(m.asked) {
		if len(l) < 4 && !slices.Contains(l, v) {
			l = append(l, v)
		}
	}
	slices.Reverse(l)
	return l
}

// versions tells how many a name has.
func (m *shadow) versions(name string) (many int) {
	for _, v := range m.shelf.All() {
		if v.Name == name {
			many++
		}
	}
	return many
}

// call gives any one, mostly one that is right as far as it can be told ahead.
func (s *noise) call(m *shadow) api.Call {
	c := api.Call{What: 1 + s.below(4), Session: s.below(3), Name: s.name()}
	if c.What == api.Retire && s.below(3) > 0 {
		c.What = api.Promote
	}
	c.Seq = m.seqs[c.Session] + s.pick(1, 1, 1, 1, 1, 1, 1, 2, 0, -1)
	many := m.versions(c.Name)
	c.Number = s.pick(many, many, many, many-1, 1+s.below(many+1), 0)
	c.Share = s.pick(1, 99, 50, 50, 60, 40, 0, 100)
	c.Bytes = written(s.grove(2))
	switch s.below(20) {
	case 0:
		c.What = s.pick(0, 5)
	case 1:
		c.Session = s.pick(-1, latest+1)
	case 2:
		c.Name = "A"
	case 3:
		c.Bytes = c.Bytes[:s.below(len(c.Bytes))]
	}
	return c
}

// wrongRow gives a row of which a grove of two features says nothing.
func (s *noise) wrongRow() []int {
	row := s.row(s.pick(0, 1, 3, 8, 9, 12, 2))
	if len(row) == 2 || len(row) > 0 && s.below(3) == 0 {
		row[s.below(len(row))] = s.pick(end+1, -end-1, gone+1, gone-1, lowest, highest)
	}
	return row
}

// do one thing with a scorer and with its shadow, and tell what it was.
func (s *noise) do(h *hand, m *shadow) string {
	h.Helper()
	if s.below(4) == 0 {
		c, index := s.call(m), m.heard+1
		if s.below(5) == 0 {
			index = s.pick(m.heard, m.heard-1, m.heard+2, 0, 1, -1, latest, latest+1, lowest, highest)
		}
		e := m.hear(c, index)
		if err := h.Hear(c, index); told(err) != e {
			h.Errorf("Hear of %s as %d = %v, want %v", short(c), index, err, e)
		}
		return "Hear " + e.Error()
	}
	name, row, key, token := s.name(), s.row(2), s.below(100), s.pick(0, m.heard, s.below(m.heard+1))
	switch s.below(16) {
	case 0:
		token = s.pick(-1, m.heard+1, latest, latest+1, lowest, highest)
	case 1:
		key = s.pick(-1, latest, latest+1, lowest, highest)
	case 2, 3:
		row = s.wrongRow()
	case 4:
		name, key, row = "none", s.pick(key, -1), s.wrongRow()
	}
	want, e := m.score(name, row, key, token)
	if x, err := h.Score(name, row, key, token); x != want || told(err) != e {
		h.Errorf("Score of %q, %v, key %d, token %d = %v, %v, want %v, %v", name, row, key, token, x, err, want, e)
	}
	return "Score " + e.Error()
}

// holds a scorer to it.
func (m *shadow) holds(h *hand) {
	h.Helper()
	if h.Index() != m.heard {
		h.Errorf("Index = %d, want %d", h.Index(), m.heard)
	}
	h.keeps(m.kept()...)
}

// TestAgainstShadow: many things of all kinds, one behind the other, each held to a second telling.
func TestAgainstShadow(t *testing.T) {
	var s noise = 3
	seen := map[string]int{}
	for range 40 {
		h, m := newHand(t), newShadow()
		var did []string
		for range 500 {
			was := s.do(h, m)
			did = append(did, was)
			seen[was]++
			seen[fmt.Sprint("kept ", len(m.kept()))]++
			m.holds(h)
			if t.Failed() {
				t.Fatalf("behind %v", did)
			}
		}
		seen[fmt.Sprint("not counted ", m.shelf.Index() < m.heard)]++
	}
	for key, least := range map[string]int{
		"Hear OK": 1000, "Hear ErrRange": 100, "Hear ErrState": 100,
		"Score OK": 1000, "Score ErrRange": 100, "Score ErrState": 100, "Score ErrNone": 100, "Score ErrFull": 100, "Score ErrShape": 100,
		"kept 0": 100, "kept 1": 100, "kept 2": 100, "kept 3": 100, "kept 4": 1000, "not counted true": 40,
	} {
		if seen[key] < least {
			t.Errorf("only %d are such: %s; of %v", seen[key], key, seen)
		}
	}
}

// TestSameAgain: the same things done tell the same, whatever was done with other scorers between.
func TestSameAgain(t *testing.T) {
	ask := func(s noise) string {
		h, m := newHand(t), newShadow()
		out := ""
		for range 300 {
			out += fmt.Sprintln(s.do(h, m), h.Index(), h.Cached(), h.kept())
		}
		return out
	}
	first := ask(5)
	ask(6)
	ask(7)
	if ask(5) != first {
		t.Errorf("the same things tell other things")
	}
}

// FuzzScore: calls and Scores of any fields.
func FuzzScore(f *testing.F) {
	f.Add(octets{1, 0, 1, 0, 0, 0, 3, 0, 2, 0, 1, 5, 8, 0, 0, 0, 0, 2, 9, 0, 1, 0, 3, 0})
	f.Add(octets{1, 1, 1, 1, 0, 9, 2, 1, 2, 1, 1, 50, 10, 1, 0, 0, 1, 2, 11, 1, 1, 3, 2, 0, 15, 200, 0, 1, 2, 3})
	f.Add(octets{5, 3, 0, 9, 255, 255, 12, 0, 0, 0, 0, 0})
	f.Fuzz(func(t *testing.T, all []byte) {
		h, m := newHand(t), newShadow()
		for b := range slices.Chunk(all[:min(len(all), 300)], 6) {
			b = append(b[:len(b):len(b)], make(octets, 6-len(b))...)
			name := append(names(), "", "A")[b[1]%8]
			if b[0]%16 < 8 {
				g := noise(b[5])
				c := api.Call{What: int(b[0] % 8), Session: int(b[1] / 8 % 3), Seq: int(b[2]), Name: name, Number: int(int8(b[4])), Share: int(b[5]), Bytes: written(g.grove(int(b[3] % 3)))}
				index := m.heard + 1 + int(b[3]/250)
				if err, e := h.Hear(c, index), m.hear(c, index); told(err) != e {
					t.Errorf("Hear of %s as %d = %v, want %v", short(c), index, err, e)
				}
			} else {
				r := noise(b[2])
				row := r.row(int(b[5] % 4))
				key, token := int(b[3])-1, m.heard+1-int(b[4])
				want, e := m.score(name, row, key, token)
				if x, err := h.Score(name, row, key, token); x != want || told(err) != e {
					t.Errorf("Score of %q, %v, key %d, token %d = %v, %v, want %v, %v", name, row, key, token, x, err, want, e)
				}
			}
			m.holds(h)
		}
	})
}
