package fleet_test

import (
	"encoding/binary"
	"errors"
	"fmt"
	"math"
	"slices"
	"strings"
	"testing"
	"unsafe"

	"orchardry/api"
	"orchardry/code"
	"orchardry/fleet"
	"orchardry/grove"
	"orchardry/shelf"
)

const (
	latest  = api.MaxTime
	lowest  = math.MinInt
	highest = math.MaxInt
	// room is how many bytes all calls of a log may have together.
	room = 100000
)

// none stands for an error that is nil.
const none = api.OK

// told gives what an error tells; -1, if it is none of the program's, or OK, which no error may be.
func told(err error) api.Errno {
	var e api.Errno
	switch {
	case err == nil:
		return none
	case errors.As(err, &e) && e != api.OK:
		return e
	}
	return -1
}

// octets are bytes that are handed in.
type octets = []byte

// calls that are done.
type calls = []api.Call

// noise: numbers that look as if they had no order, the same ones each time.
type noise uint64

func (s *noise) below(n int) int {
	*s = *s*6364136223846793005 + 1442695040888963407
	return int(uint64(*s) >> 33 % uint64(n))
}

func (s *noise) pick(l ...int) int { return l[s.below(len(l))] }

// written gives a grove as bytes.
func written(g api.Grove) octets {
	b, err := code.Encode(g)
	if err != nil {
		panic(err)
	}
	return b
}

// leaf is a grove of no features and one leaf, which its Value tells from others.
func leaf(value int) octets {
	return written(api.Grove{Way: api.Sum, Weights: []int{1}, Trees: [][]api.Node{{{Feature: api.Leaf, Value: value}}}})
}

// split is a grove of two features: of cell 1 below 5, or not there, it says value, else value + 1.
func split(value int) octets {
	return written(api.Grove{Features: 2, Way: api.Sum, Weights: []int{1}, Trees: [][]api.Node{
		{{Feature: 1, Cut: 5, Left: 1, Right: 2, Less: true}, {Feature: api.Leaf, Value: value}, {Feature: api.Leaf, Value: value + 1}},
	}})
}

// up is an Upload of bytes.
func up(session, seq int, name string, b octets) api.Call {
	return api.Call{What: api.Upload, Session: session, Seq: seq, Name: name, Bytes: b}
}

// change is a call that asks for a version.
func change(what, session, seq int, name string, number, share int) api.Call {
	return api.Call{What: what, Session: session, Seq: seq, Name: name, Number: number, Share: share}
}

// record is a call as bytes, told a second time: what the library calls a varint is a number of chapter 14.
func record(c api.Call) octets {
	var b octets
	for _, n := range []int{c.What, c.Session, c.Seq, c.Number, c.Share, len(c.Name)} {
		b = binary.AppendVarint(b, int64(n))
	}
	b = append(b, c.Name...)
	b = append(b, c.Bytes...)
	return append(binary.AppendVarint(nil, int64(len(b))), b...)
}

// short tells of a call, of long texts and bytes only how they begin.
func short(c api.Call) string {
	name, b := c.Name[:min(len(c.Name), 20)], c.Bytes[:min(len(c.Bytes), 20)]
	return fmt.Sprintf("{What %d Session %d Seq %d Name %q Number %d Share %d Bytes %v of %d}", c.What, c.Session, c.Seq, name, c.Number, c.Share, b, len(c.Bytes))
}

// answer has a Number and an Index.
func answer(number, index int) api.Answer { return api.Answer{Number: number, Index: index} }

// scored has a Value, a version's Number and an Index.
func scored(value, number, index int) api.Score {
	return api.Score{Value: value, Version: number, Index: index}
}

// done is a shelf that has done calls.
func done(l calls) *shelf.Shelf {
	s := shelf.New()
	for _, c := range l {
		s.Do(c)
	}
	return s
}

// hand is a fleet of so many scorers, and who asks it.
type hand struct {
	*testing.T
	*fleet.Fleet
	many int
}

func newHand(t *testing.T, many int) *hand {
	t.Helper()
	f, err := fleet.New(many)
	if f == nil || err != nil {
		t.Fatalf("New of %d = %v, %v", many, f, err)
	}
	return &hand{t, f, many}
}

// does a call, as it is, that is to be answered so.
func (h *hand) does(c api.Call, want api.Answer, e api.Errno) {
	h.Helper()
	if a, err := h.Do(c); a != want || told(err) != e {
		h.Errorf("Do of %s = %v, %v, want %v, %v", short(c), a, err, want, e)
	}
}

// refuses a call, as it is, with an error behind which no scorer lacks more than it did.
func (h *hand) refuses(c api.Call, e api.Errno) {
	h.Helper()
	ahead := h.lag()
	h.does(c, api.Answer{}, e)
	h.lags(ahead...)
}

// again does a call, as it is, that is to be answered as it was, and of which nothing is done.
func (h *hand) again(c api.Call, want api.Answer, e api.Errno) {
	h.Helper()
	ahead := h.lag()
	h.does(c, want, e)
	h.lags(ahead...)
}

// lag of each scorer.
func (h *hand) lag() []int {
	h.Helper()
	l := make([]int, h.many)
	for i := range l {
		n, err := h.Lag(i)
		if err != nil {
			h.Fatalf("Lag of %d = %d, %v", i, n, err)
		}
		l[i] = n
	}
	return l
}

// lags holds Lag of all scorers to numbers.
func (h *hand) lags(want ...int) {
	h.Helper()
	if l := h.lag(); !slices.Equal(l, want) {
		h.Errorf("Lag is %v, want %v", l, want)
	}
}

// tells a scorer, which goes well, so many times.
func (h *hand) tells(i, times int) {
	h.Helper()
	for range times {
		if err := h.Tell(i); err != nil {
			h.Fatalf("Tell of %d = %v", i, err)
		}
	}
}

// restarts a scorer.
func (h *hand) restarts(i int) {
	h.Helper()
	if err := h.Restart(i); err != nil {
		h.Fatalf("Restart of %d = %v", i, err)
	}
}

// says holds Score of scorer i, of a name, without cells and for key 0, to what comes.
func (h *hand) says(i int, name string, token int, want api.Score, e api.Errno) {
	h.Helper()
	if x, err := h.Score(i, name, nil, 0, token); x != want || told(err) != e {
		h.Errorf("Score of %d, %q, token %d = %v, %v, want %v, %v", i, name, token, x, err, want, e)
	}
}

// puts a first version of a name there that is live, by a session that has done nothing; behind it each scorer lacks two calls more.
func (h *hand) puts(session int, name string, b octets) {
	h.Helper()
	for _, c := range (calls{up(session, 1, name, b), change(api.Promote, session, 2, name, 1, 0)}) {
		if _, err := h.Do(c); err != nil {
			h.Fatalf("Do of %s = %v", short(c), err)
		}
	}
}

// lost holds a fleet to have lost something: whatever is done says so, and nothing of it is done.
func (h *hand) lost(l ...api.Call) {
	h.Helper()
	for _, c := range slices.Concat(l, uncounted(), calls{up(900, 1, "m", leaf(1)), change(api.Retire, 901, 1, "zz", 1, 0), up(902, 1, "m", make(octets, 6001)), change(api.Retire, 903, 1, "m", -1, 0)}) {
		h.refuses(c, api.ErrLost)
	}
}

// ends are numbers that no scorer of a fleet of so many has.
func ends(many int) []int {
	return []int{-1, many, -2, many + 1, -many, 1 << 32, -1 << 32, 1<<32 + 1, lowest, highest}
}

// uncounted are calls that every shelf refuses without counting them.
func uncounted() calls {
	return calls{
		{},
		change(0, 0, 9, "m", 1, 0),
		change(5, 0, 9, "m", 1, 0),
		change(-1, 0, 9, "m", 1, 0),
		change(api.Retire, -1, 9, "m", 1, 0),
		change(api.Retire, latest+1, 9, "m", 1, 0),
		change(api.Retire, 0, 0, "m", 1, 0),
		change(api.Retire, 0, -1, "m", 1, 0),
		change(api.Retire, 0, latest+1, "m", 1, 0),
		change(api.Retire, 0, 9, "", 1, 0),
		change(api.Retire, 0, 9, "M", 1, 0),
		up(0, 9, "thirteenslett", leaf(1)),
	}
}

// TestNew: both ends of what a number may be, all between, and one and many beyond each.
func TestNew(t *testing.T) {
	for many := 1; many <= 8; many++ {
		h := newHand(t, many)
		h.lags(make([]int, many)...)
		for _, i := range ends(many) {
			if n, err := h.Lag(i); n != 0 || told(err) != api.ErrRange {
				t.Errorf("of %d scorers Lag of %d = %d, %v", many, i, n, err)
			}
		}
	}
	for _, many := range []int{0, 9, -1, 10, -8, 1 << 32, 1<<32 + 1, -1<<32 + 1, lowest, highest} {
		if f, err := fleet.New(many); f != nil || told(err) != api.ErrRange {
			t.Errorf("New of %d = %v, %v, want ErrRange", many, f, err)
		}
	}
}

// TestEmpty: what a new one tells, whatever crashes.
func TestEmpty(t *testing.T) {
	h := newHand(t, 3)
	for _, keep := range []int{0, -1, 1, lowest, highest} {
		for i := range 3 {
			h.tells(i, 2)
			h.says(i, "m", 0, api.Score{}, api.ErrNone)
			h.says(i, "m", 1, api.Score{}, api.ErrState)
			h.says(i, "m", -1, api.Score{}, api.ErrRange)
			h.says(i, "m", latest+1, api.Score{}, api.ErrRange)
			h.restarts(i)
		}
		h.lags(0, 0, 0)
		h.Crash(keep)
		h.lags(0, 0, 0)
	}
	h.does(up(0, 1, "m", leaf(1)), answer(1, 1), none)
	h.lags(1, 1, 1)
}

// TestDo: all that a call may be, one behind the other; each that counts is one more that scorers lack.
func TestDo(t *testing.T) {
	h := newHand(t, 2)
	for i, c := range []struct {
		call api.Call
		want api.Answer
		e    api.Errno
	}{
		{up(0, 1, "m", leaf(1)), answer(1, 1), none},
		{up(7, 5, "m", leaf(2)), answer(2, 2), none},
		{change(api.Promote, 0, 2, "m", 1, 0), answer(0, 3), none},
		{change(api.Promote, 0, 3, "m", 1, 0), answer(0, 0), api.ErrState},
		{change(api.Try, latest, latest, "m", 2, 100), answer(0, 0), api.ErrRange},
		{change(api.Try, 0, 9, "m", 2, 99), answer(0, 6), none},
		{up(7, 6, "m", leaf(3)), answer(3, 7), none},
		{change(api.Try, 0, 10, "m", 3, 1), answer(0, 0), api.ErrClash},
		{change(api.Retire, 0, 11, "m", 2, 0), answer(0, 9), none},
		{change(api.Retire, 0, 12, "m", 4, 0), answer(0, 0), api.ErrNone},
		{up(0, 13, "m", leaf(4)[:3]), answer(0, 0), api.ErrShort},
		{up(0, 14, "twelveletter", split(8)), answer(1, 12), none},
		// What Number and Share are does not matter, as long as a log keeps them.
		{api.Call{What: api.Upload, Session: 8, Seq: 1, Name: "m", Number: latest, Share: latest, Bytes: leaf(5)}, answer(4, 13), none},
		{api.Call{What: api.Retire, Session: 8, Seq: 2, Name: "m", Number: 4, Share: latest, Bytes: make(octets, 6000)}, answer(0, 14), none},
	} {
		h.does(c.call, c.want, c.e)
		h.lags(i+1, i+1)
		h.again(c.call, c.want, c.e)
	}
	h.tells(1, 14)
	h.lags(14, 0)
	h.says(1, "m", 14, scored(1, 1, 14), none)
}

// TestRefused: calls that the shelf refuses without counting them are no steps, and not there behind a Crash.
func TestRefused(t *testing.T) {
	h := newHand(t, 1)
	h.puts(0, "m", leaf(4))
	h.does(up(3, 7, "m", leaf(5)), answer(2, 3), none)
	want := []api.Errno{api.ErrRange, api.ErrRange, api.ErrRange, api.ErrRange, api.ErrRange, api.ErrRange, api.ErrRange, api.ErrRange, api.ErrRange, api.ErrSyntax, api.ErrSyntax, api.ErrSyntax}
	lesser := calls{change(api.Retire, 0, 1, "m", 1, 0), up(3, 6, "m", leaf(1)), change(api.Retire, 3, 1, "m", 9, 0)}
	for _, keep := range []int{highest, 0} {
		// None of them may be the step that is lost.
		h.Fail(0)
		for i, c := range uncounted() {
			h.refuses(c, want[i])
		}
		for _, c := range lesser {
			h.refuses(c, api.ErrState)
		}
		h.Crash(keep)
		h.lags(3)
		for i, c := range uncounted() {
			h.refuses(c, want[i])
		}
		h.Crash(keep)
		h.lags(3)
	}
	h.tells(0, 9)
	h.says(0, "m", 3, scored(4, 1, 3), none)
	h.says(0, "m", 4, api.Score{}, api.ErrState)
	// Not one of them was a step, and the one that follows is the one that stops.
	h.Fail(0)
	for i, c := range uncounted() {
		h.refuses(c, want[i])
	}
	h.refuses(change(api.Retire, 0, 3, "m", 1, 0), api.ErrLost)
	h.lost()
}

// TestAgain: calls that come again are answered as they were; they are no steps, and not there behind a Crash.
func TestAgain(t *testing.T) {
	h := newHand(t, 2)
	h.does(up(0, 4, "m", leaf(4)), answer(1, 1), none)
	h.does(change(api.Try, 1, 1, "m", 2, 50), answer(0, 0), api.ErrNone)
	for _, keep := range []int{highest, 0, -1} {
		h.Fail(0)
		// The Seq tells that it is the same: all else may be other.
		for _, c := range (calls{up(0, 4, "m", leaf(4)), up(0, 4, "m", leaf(5)), up(0, 4, "n", nil), change(api.Retire, 0, 4, "m", 1, 0), change(api.Promote, 0, 4, "zz", 3, 3)}) {
			h.again(c, answer(1, 1), none)
			c.Session, c.Seq = 1, 1
			h.again(c, answer(0, 0), api.ErrNone)
		}
		h.Crash(keep)
		h.lags(2, 2)
	}
	h.does(change(api.Promote, 1, 2, "m", 1, 0), answer(0, 3), none)
	h.tells(0, 5)
	h.lags(0, 3)
	h.says(0, "m", 3, scored(4, 1, 3), none)
}

// TestShelfComesFirst: what the shelf refuses, or answers as it was, is not held against what a log keeps.
func TestShelfComesFirst(t *testing.T) {
	h := newHand(t, 1)
	h.puts(0, "m", leaf(4))
	long := make(octets, 6001)
	for _, c := range []struct {
		call api.Call
		want api.Answer
		e    api.Errno
	}{
		{api.Call{What: api.Upload, Seq: 3, Name: strings.Repeat("m", 101)}, answer(0, 0), api.ErrSyntax},
		{api.Call{What: api.Upload, Seq: 3, Name: "M", Bytes: long}, answer(0, 0), api.ErrSyntax},
		{api.Call{What: api.Upload, Seq: 3, Name: "", Number: -1}, answer(0, 0), api.ErrSyntax},
		{api.Call{What: api.Upload, Seq: 1, Name: "m", Number: -1}, answer(0, 0), api.ErrState},
		{api.Call{What: api.Upload, Seq: 1, Name: "m", Bytes: long}, answer(0, 0), api.ErrState},
		{api.Call{What: api.Upload, Seq: 2, Name: "m", Share: latest + 1}, answer(0, 2), none},
		{api.Call{What: api.Upload, Seq: 2, Name: "m", Bytes: long}, answer(0, 2), none},
		{api.Call{What: 9, Seq: 2, Name: "m", Bytes: long}, answer(0, 0), api.ErrRange},
	} {
		h.again(c.call, c.want, c.e)
	}
}

// TestCountedWithAnError: such a call is Appended; behind a Crash it is there, and answered as it was.
func TestCountedWithAnError(t *testing.T) {
	h := newHand(t, 2)
	h.puts(0, "m", leaf(4))
	h.tells(1, 2)
	all := []struct {
		call api.Call
		e    api.Errno
	}{
		{up(1, 1, "m", nil), api.ErrShort},
		{up(2, 1, "m", octets{128, 0}), api.ErrSyntax},
		{up(3, 1, "m", octets{0, 2, 0}), api.ErrRange},
		{change(api.Try, 4, 1, "m", 2, 50), api.ErrNone},
		{change(api.Promote, 5, 1, "m", 1, 0), api.ErrState},
		{change(api.Retire, 6, 1, "m", latest, 0), api.ErrNone},
		{change(api.Retire, 7, 1, "n", 1, 0), api.ErrNone},
	}
	for i, c := range all {
		h.does(c.call, api.Answer{}, c.e)
		h.lags(i+3, i+1)
		h.again(c.call, api.Answer{}, c.e)
	}
	for _, keep := range []int{0, highest, -1} {
		h.Crash(keep)
		h.lags(9, 7)
		for _, c := range all {
			h.again(c.call, api.Answer{}, c.e)
		}
	}
	h.does(up(1, 2, "m", leaf(5)), answer(2, 10), none)
	h.tells(1, 20)
	h.lags(10, 0)
	h.says(1, "m", 10, scored(4, 1, 10), none)
}

// TestOneIsLost: a call that has an error when it is done needs its steps as any other.
func TestOneIsLost(t *testing.T) {
	h := newHand(t, 1)
	c := change(api.Retire, 0, 1, "m", 1, 0)
	h.Fail(1)
	h.refuses(c, api.ErrLost)
	h.Crash(highest)
	h.lags(1)
	h.again(c, api.Answer{}, api.ErrNone)
	h.does(up(0, 2, "m", leaf(1)), answer(1, 2), none)
}

// unkept are calls that count on a shelf, and that a log refuses.
func unkept() map[api.Errno]calls {
	m := map[api.Errno]calls{}
	for what := 1; what <= 4; what++ {
		for _, n := range []int{-1, latest + 1, lowest, highest, 1 << 32} {
			for _, c := range (calls{change(what, 0, 3, "m", n, 50), change(what, 0, 3, "m", 2, n)}) {
				c.Bytes = leaf(1)
				m[api.ErrRange] = append(m[api.ErrRange], c)
			}
		}
		for _, many := range []int{6001, 6002, room} {
			m[api.ErrFull] = append(m[api.ErrFull], api.Call{What: what, Seq: 3, Name: "m", Number: 2, Share: 50, Bytes: make(octets, many)})
		}
	}
	return m
}

// TestLogRefuses: nothing is done then, nothing is lost, and the Seq is free.
func TestLogRefuses(t *testing.T) {
	h := newHand(t, 1)
	h.puts(0, "m", leaf(4))
	h.does(up(1, 1, "m", leaf(5)), answer(2, 3), none)
	for e, l := range unkept() {
		for _, c := range l {
			h.refuses(c, e)
			// It is no step either.
			h.Fail(0)
			h.refuses(c, e)
			h.Fail(-1)
			h.refuses(c, e)
		}
		h.Crash(highest)
		h.lags(3)
	}
	h.tells(0, 3)
	h.says(0, "m", 0, scored(4, 1, 3), none)
	h.does(change(api.Promote, 0, 3, "m", 2, 0), answer(0, 4), none)
	h.tells(0, 1)
	h.says(0, "m", 4, scored(5, 2, 4), none)

	// Range is told ahead of full, and both ahead of what the shelf would say of it.
	both := api.Call{What: api.Retire, Seq: 4, Name: "none", Number: -1, Bytes: make(octets, 6001)}
	h.refuses(both, api.ErrRange)
	both.Number = 1
	h.refuses(both, api.ErrFull)
	both.Bytes = both.Bytes[:6000]
	h.does(both, api.Answer{}, api.ErrNone)
	h.lags(1)
}

// padded is a call of so many bytes in a log, of a session of its own: it does nothing, but counts.
func padded(many, session int) api.Call {
	c := change(api.Retire, session, 1, "none", 1, 0)
	for long := len(record(c)); long < many; long = len(record(c)) {
		c.Bytes = append(c.Bytes, make(octets, max(many-long-1, 1))...)
	}
	if len(record(c)) != many {
		panic(fmt.Sprint("no call has ", many, " bytes"))
	}
	return c
}

// TestRoom: calls that have just as many bytes together as a log has, and one byte more; what comes again needs none.
func TestRoom(t *testing.T) {
	h := newHand(t, 2)
	first := up(0, 1, "a", leaf(4))
	h.does(first, answer(1, 1), none)
	left := room - len(record(first))
	for session := 1; left > 0; session++ {
		next := min(left, 5000)
		if left > 5000 && left < 5020 {
			next = 4000
		}
		c := padded(next, session)
		if next == left {
			h.refuses(padded(left+1, session), api.ErrFull)
		}
		h.does(c, api.Answer{}, api.ErrNone)
		for range 30 {
			h.again(c, api.Answer{}, api.ErrNone)
			h.refuses(change(api.Retire, 0, 1, "A", 1, 0), api.ErrSyntax)
		}
		left -= next
	}
	all := h.lag()[0]
	for _, keep := range []int{0, -1, highest} {
		h.refuses(change(api.Promote, 0, 2, "a", 1, 0), api.ErrFull)
		h.Fail(0)
		h.refuses(change(api.Promote, 0, 2, "a", 1, 0), api.ErrFull)
		h.again(first, answer(1, 1), none)
		h.lags(all, all)
		h.Crash(keep)
	}
	h.tells(1, all+1)
	h.lags(all, 0)
	h.says(1, "a", all, api.Score{}, api.ErrNone)
}

// TestNoFail: below 0, and so many steps that they do not come.
func TestNoFail(t *testing.T) {
	for _, n := range []int{-1, -2, lowest, 40, highest, 1 << 32} {
		h := newHand(t, 1)
		h.Fail(n)
		for i := range 20 {
			h.does(up(0, i+1, "m", leaf(i)), answer(i+1, i+1), none)
		}
		h.lags(20)
	}
}

// TestFail: so many steps are done ahead of the one that is lost: of each Do an Append, and a Sync.
func TestFail(t *testing.T) {
	for n := range 12 {
		for _, late := range []int{0, 1, 3} {
			h := newHand(t, 2)
			for i := range late {
				h.does(up(0, i+1, "m", leaf(i)), answer(i+1, i+1), none)
			}
			h.tells(1, late)
			h.Fail(n)
			for i := range n / 2 {
				h.does(up(0, late+i+1, "m", leaf(i)), answer(late+i+1, late+i+1), none)
			}
			c := up(0, late+n/2+1, "m", leaf(1))
			h.lost(c, c)
			if late > 0 {
				h.lost(up(0, late, "m", leaf(late-1)))
			}
			h.lags(late+n/2, n/2)
			h.Crash(0)
			h.lags(late+n/2, n/2)
			h.does(c, answer(late+n/2+1, late+n/2+1), none)
			h.lags(late+n/2+1, n/2+1)
		}
	}
}

// TestFailAgain: a new one takes the place of the one ahead, as long as nothing is lost.
func TestFailAgain(t *testing.T) {
	for _, c := range []struct {
		fails []int
		well  int // how many Do go well
	}{
		{[]int{0, 4}, 2},
		{[]int{4, 0}, 0},
		{[]int{1, 0, 3}, 1},
		{[]int{0, -1}, 20},
		{[]int{lowest, 2}, 1},
		{[]int{highest, 5}, 2},
	} {
		h := newHand(t, 1)
		for _, n := range c.fails {
			h.Fail(n)
		}
		for i := range c.well {
			h.does(up(0, i+1, "m", leaf(i)), answer(i+1, i+1), none)
		}
		if c.well < 20 {
			h.lost(up(0, c.well+1, "m", leaf(1)))
		}
	}
	h := newHand(t, 1)
	h.Fail(3)
	h.does(up(0, 1, "m", leaf(1)), answer(1, 1), none)
	h.Fail(3)
	h.does(up(0, 2, "m", leaf(1)), answer(2, 2), none)
	h.lost(up(0, 3, "m", leaf(1)))
}

// TestFailBehindALoss: it is lost, whatever is said then, till a Crash, which forgets that.
func TestFailBehindALoss(t *testing.T) {
	for at := range 2 {
		for _, n := range []int{-1, 0, 1, 5, highest, lowest} {
			h := newHand(t, 1)
			h.Fail(at)
			c := up(0, 1, "m", leaf(1))
			h.lost(c)
			h.Fail(n)
			h.lost(c)
			h.Crash(0)
			h.does(c, answer(1, 1), none)
			for i := range 10 {
				h.does(up(0, i+2, "m", leaf(1)), answer(i+2, i+2), none)
			}
		}
	}
}

// TestFailIsForgotten: by a Crash, also ahead of the step that would be lost.
func TestFailIsForgotten(t *testing.T) {
	for n := range 8 {
		h := newHand(t, 1)
		h.Fail(n)
		for i := range n / 2 {
			h.does(up(0, i+1, "m", leaf(1)), answer(i+1, i+1), none)
		}
		h.Crash(highest)
		for i := n / 2; i < 10; i++ {
			h.does(up(0, i+1, "m", leaf(1)), answer(i+1, i+1), none)
		}
	}
}

// TestAskingIsNoStep: but Do nothing comes to a step.
func TestAskingIsNoStep(t *testing.T) {
	h := newHand(t, 2)
	h.puts(0, "m", leaf(1))
	h.Fail(1)
	for range 9 {
		h.tells(0, 1)
		h.restarts(1)
		h.says(0, "m", latest, api.Score{}, api.ErrState)
		h.lag()
	}
	c := up(0, 3, "m", leaf(1))
	h.lost(c)
	h.Crash(highest)
	// The Append was done: the Sync was the one that was lost.
	h.lags(1, 3)
	h.again(c, answer(2, 3), none)
}

// TestLossIsOfDoAlone: scorers hear, tell and begin anew as before.
func TestLossIsOfDoAlone(t *testing.T) {
	for at := range 2 {
		h := newHand(t, 2)
		h.puts(0, "m", leaf(7))
		h.Fail(at)
		h.lost(change(api.Retire, 0, 3, "m", 1, 0))
		h.lags(2, 2)
		h.tells(0, 1)
		h.lags(1, 2)
		h.says(0, "m", 1, api.Score{}, api.ErrNone)
		// What was not Done is not heard, though it may be there.
		h.tells(0, 9)
		h.lags(0, 2)
		h.says(0, "m", 2, scored(7, 1, 2), none)
		h.says(0, "m", 3, api.Score{}, api.ErrState)
		h.restarts(0)
		h.lags(2, 2)
		h.says(0, "m", 1, api.Score{}, api.ErrState)
		h.tells(0, 2)
		h.says(0, "m", 2, scored(7, 1, 2), none)
		h.lost()
	}
}

// TestCrashBehindALostAppend: half of the call is there, of which nothing comes, however much is kept.
func TestCrashBehindALostAppend(t *testing.T) {
	c := change(api.Promote, 5, 5, "m", 1, 0)
	for _, keep := range []int{lowest, -1, 0, 1, 2, 3, len(record(c)) / 2, len(record(c)), 1000, highest} {
		h := newHand(t, 2)
		h.does(up(0, 1, "m", leaf(3)), answer(1, 1), none)
		h.tells(1, 1)
		h.Fail(0)
		h.lost(c)
		h.Crash(keep)
		h.lags(1, 0)
		h.again(up(0, 1, "m", leaf(3)), answer(1, 1), none)
		h.tells(1, 2)
		h.says(1, "m", 0, api.Score{}, api.ErrNone)
		// Behind it goes on what was not there: the same call, or another one.
		if keep%2 == 0 {
			h.does(c, answer(0, 2), none)
		} else {
			h.does(change(api.Promote, 9, 1, "m", 1, 0), answer(0, 2), none)
		}
		h.lags(2, 1)
		h.Crash(keep)
		h.lags(2, 1)
		h.tells(1, 1)
		h.says(1, "m", 2, scored(3, 1, 2), none)
	}
}

// TestCrashBehindALostSync: the call is there if all its bytes are kept, and then it is answered as it would have been.
func TestCrashBehindALostSync(t *testing.T) {
	for _, c := range (calls{change(api.Promote, 5, 5, "m", 1, 0), change(api.Promote, 0, 2, "m", 1, 0), api.Call{What: api.Promote, Session: latest, Seq: latest, Name: "m", Number: 1, Bytes: make(octets, 90)}}) {
		long := len(record(c))
		for keep := -1; keep <= long+1; keep++ {
			h := newHand(t, 2)
			h.does(up(0, 1, "m", leaf(3)), answer(1, 1), none)
			h.tells(1, 1)
			h.Fail(1)
			h.lost(c)
			h.tells(1, 1)
			h.lags(1, 0)
			h.Crash(keep)
			if keep < long {
				h.lags(1, 0)
				h.tells(1, 1)
				h.says(1, "m", 0, api.Score{}, api.ErrNone)
				h.again(up(0, 1, "m", leaf(3)), answer(1, 1), none)
				h.does(c, answer(0, 2), none)
			} else {
				h.lags(2, 1)
				h.again(c, answer(0, 2), none)
				if c.Session == 0 {
					h.refuses(up(0, 1, "m", leaf(3)), api.ErrState)
				}
			}
			h.lags(2, 1)
			h.tells(1, 1)
			h.says(1, "m", 2, scored(3, 1, 2), none)
			// It is safe now.
			h.Crash(0)
			h.lags(2, 0)
			h.again(c, answer(0, 2), none)
			h.does(up(0, 3, "m", leaf(4)), answer(2, 3), none)
		}
	}
}

// TestCrashAtTheEnds: numbers of bytes far beyond those that there are.
func TestCrashAtTheEnds(t *testing.T) {
	c := up(0, 1, "m", leaf(3))
	for keep, there := range map[int]int{lowest: 0, -1 << 32: 0, 1 << 32: 1, highest: 1} {
		h := newHand(t, 1)
		h.Fail(1)
		h.lost(c)
		h.Crash(keep)
		h.lags(there)
	}
}

// TestCrashOfNothing: where all is safe a Crash changes nothing, however often.
func TestCrashOfNothing(t *testing.T) {
	h := newHand(t, 3)
	h.puts(0, "m", leaf(3))
	h.does(up(1, 1, "m", leaf(4)), answer(2, 3), none)
	h.tells(1, 2)
	h.tells(2, 3)
	for _, keep := range []int{0, -1, 1, 5, lowest, highest} {
		h.Crash(keep)
		h.lags(3, 1, 0)
		h.says(1, "m", 2, scored(3, 1, 2), none)
		h.says(2, "m", 3, scored(3, 1, 3), none)
		h.again(up(1, 1, "m", leaf(4)), answer(2, 3), none)
		h.again(change(api.Promote, 0, 2, "m", 1, 0), answer(0, 2), none)
	}
	h.does(change(api.Promote, 0, 3, "m", 2, 0), answer(0, 4), none)
	h.tells(1, 2)
	h.says(1, "m", 4, scored(4, 2, 4), none)
}

// TestCrashAndScorers: a scorer that knows more than the log has is a new one, and the others stay as they are.
func TestCrashAndScorers(t *testing.T) {
	h := newHand(t, 5)
	h.puts(0, "m", leaf(3))
	h.tells(1, 1)
	h.tells(2, 2)
	h.tells(3, 2)
	h.tells(4, 2)
	for _, i := range []int{3, 4, 4} {
		if err := h.Overhear(i, change(api.Retire, 9, 1, "m", 1, 0)); err != nil {
			t.Fatal(err)
		}
	}
	h.says(2, "m", 2, scored(3, 1, 2), none)
	h.says(3, "m", 3, api.Score{}, api.ErrNone)
	h.says(4, "m", 4, api.Score{}, api.ErrNone)
	h.Crash(highest)
	h.lags(2, 1, 0, 2, 2)
	h.says(1, "m", 1, api.Score{}, api.ErrNone)
	h.says(2, "m", 2, scored(3, 1, 2), none)
	for _, i := range []int{3, 4} {
		h.says(i, "m", 0, api.Score{}, api.ErrNone)
		h.says(i, "m", 1, api.Score{}, api.ErrState)
		h.tells(i, 2)
		h.says(i, "m", 2, scored(3, 1, 2), none)
	}
}

// TestCrashLeavesAsMuchAsIsKnown: a scorer that was ahead by one call knows just as much as the log, if the Crash leaves one more.
func TestCrashLeavesAsMuchAsIsKnown(t *testing.T) {
	c := change(api.Promote, 0, 2, "m", 1, 0)
	for keep, lag := range map[int]int{highest: 0, 3: 1} {
		h := newHand(t, 1)
		h.does(up(0, 1, "m", leaf(3)), answer(1, 1), none)
		h.tells(0, 1)
		h.Fail(1)
		h.lost(c)
		if err := h.Overhear(0, c); err != nil {
			t.Fatal(err)
		}
		h.Crash(keep)
		h.lags(lag)
		if lag == 0 {
			h.says(0, "m", 2, scored(3, 1, 2), none)
		} else {
			h.says(0, "m", 1, api.Score{}, api.ErrState)
		}
	}
}

// TestTell: at both ends of what i may be, and one and many beyond each; a call each time, and behind all nothing.
func TestTell(t *testing.T) {
	for many := 1; many <= 8; many++ {
		h := newHand(t, many)
		wrong := func() {
			t.Helper()
			ahead := h.lag()
			for _, i := range ends(many) {
				if err := h.Tell(i); told(err) != api.ErrRange {
					t.Errorf("of %d scorers Tell of %d = %v", many, i, err)
				}
			}
			h.lags(ahead...)
		}
		wrong()
		want := make([]int, many)
		for i := range many {
			h.tells(i, 3)
			h.lags(want...)
		}
		h.puts(0, "m", leaf(6))
		h.does(change(api.Retire, 0, 3, "zz", 1, 0), api.Answer{}, api.ErrNone)
		for i := range want {
			want[i] = 3
		}
		h.lags(want...)
		wrong()
		for i := range many {
			for left := 2; left >= 0; left-- {
				h.tells(i, 1)
				want[i] = left
				h.lags(want...)
				wrong()
			}
			h.tells(i, 3)
			h.lags(want...)
			h.says(i, "m", 3, scored(6, 1, 3), none)
		}
	}
}

// TestTellInOrder: each call is heard at its place, whatever came ahead of it.
func TestTellInOrder(t *testing.T) {
	h := newHand(t, 2)
	const many = 12
	for i := range many {
		h.does(up(0, 2*i+1, "m", leaf(i)), answer(i+1, 2*i+1), none)
		h.does(change(api.Promote, 1, i+1, "m", i+1, 0), answer(0, 2*i+2), none)
		h.tells(0, 1)
	}
	h.lags(many, 2*many)
	for i := range many {
		h.tells(1, 1)
		if i > 0 {
			h.says(1, "m", 2*i+1, scored(i-1, i, 2*i+1), none)
		}
		h.tells(1, 1)
		h.says(1, "m", 2*i+2, scored(i, i+1, 2*i+2), none)
	}
	h.lags(many, 0)
}

// TestScore: i beyond each end is told ahead of all else that is wrong; then all that a scorer tells.
func TestScore(t *testing.T) {
	for _, many := range []int{1, 3, 8} {
		h := newHand(t, many)
		h.puts(0, "m", split(6))
		h.does(up(0, 3, "m", split(8)), answer(2, 3), none)
		h.does(change(api.Try, 0, 4, "m", 2, 50), answer(0, 4), none)
		last := many - 1
		h.tells(last, 4)
		for _, i := range ends(many) {
			for _, token := range []int{0, 4, 5, -1, latest + 1} {
				if x, err := h.Score(i, "m", []int{1, 2}, 0, token); x != (api.Score{}) || told(err) != api.ErrRange {
					t.Errorf("of %d scorers Score of %d = %v, %v", many, i, x, err)
				}
			}
			if x, err := h.Score(i, "none", nil, 0, 0); x != (api.Score{}) || told(err) != api.ErrRange {
				t.Errorf("of %d scorers Score of %d = %v, %v", many, i, x, err)
			}
		}
		for _, c := range []struct {
			name       string
			row        []int
			key, token int
			want       api.Score
			e          api.Errno
		}{
			{"m", []int{1, 2}, 0, 4, scored(8, 2, 4), none},
			{"m", []int{1, 5}, 0, 4, scored(9, 2, 4), none},
			{"m", []int{api.Nil, api.Nil}, 0, 0, scored(8, 2, 4), none},
			{"m", []int{1, 2}, 2, 4, scored(6, 1, 4), none},
			{"m", []int{1, 5}, 2, 3, scored(7, 1, 4), none},
			{"m", []int{1, 5}, latest, 1, scored(9, 2, 4), none},
			{"m", nil, 0, 5, scored(0, 0, 0), api.ErrState},
			{"m", nil, 0, -1, scored(0, 0, 0), api.ErrRange},
			{"m", nil, 0, latest, scored(0, 0, 0), api.ErrState},
			{"m", nil, 0, latest + 1, scored(0, 0, 0), api.ErrRange},
			{"m", nil, -1, 4, scored(0, 0, 0), api.ErrRange},
			{"m", nil, latest + 1, 4, scored(0, 0, 0), api.ErrRange},
			{"n", []int{1, 2}, 0, 4, scored(0, 0, 0), api.ErrNone},
			{"m", nil, 0, 4, scored(0, 0, 0), api.ErrShape},
			{"m", make([]int, 9), 0, 4, scored(0, 0, 0), api.ErrFull},
			{"m", []int{1, highest}, 0, 4, scored(0, 0, 0), api.ErrRange},
		} {
			if x, err := h.Score(last, c.name, c.row, c.key, c.token); x != c.want || told(err) != c.e {
				t.Errorf("Score of %q, %v, key %d, token %d = %v, %v, want %v, %v", c.name, c.row, c.key, c.token, x, err, c.want, c.e)
			}
		}
		h.lags(append(slices.Repeat([]int{4}, last), 0)...)
	}
}

// TestScoreAndToken: a token just at what a scorer knows, and one above, behind some Tells and behind all.
func TestScoreAndToken(t *testing.T) {
	h := newHand(t, 2)
	h.puts(0, "m", leaf(6))
	h.puts(1, "n", leaf(7))
	h.says(0, "m", 0, api.Score{}, api.ErrNone)
	for knows := 1; knows <= 4; knows++ {
		h.says(0, "m", knows, api.Score{}, api.ErrState)
		h.tells(0, 1)
		for token := range 7 {
			want, e := scored(6, 1, knows), none
			if token > knows {
				want, e = api.Score{}, api.ErrState
			} else if knows < 2 {
				want, e = api.Score{}, api.ErrNone
			}
			h.says(0, "m", token, want, e)
		}
		h.says(1, "m", 1, api.Score{}, api.ErrState)
	}
	h.tells(0, 5)
	h.says(0, "n", 4, scored(7, 1, 4), none)
	h.says(0, "n", 5, api.Score{}, api.ErrState)
}

// TestLag: ahead of and behind all that changes it.
func TestLag(t *testing.T) {
	h := newHand(t, 3)
	h.lags(0, 0, 0)
	h.does(up(0, 1, "m", leaf(6)), answer(1, 1), none)
	h.lags(1, 1, 1)
	h.tells(0, 1)
	h.lags(0, 1, 1)
	h.does(change(api.Promote, 0, 2, "m", 1, 0), answer(0, 2), none)
	h.lags(1, 2, 2)
	h.tells(1, 2)
	h.lags(1, 0, 2)
	h.restarts(1)
	h.lags(1, 2, 2)
	h.Crash(0)
	h.lags(1, 2, 2)
	h.Fail(1)
	h.lags(1, 2, 2)
	h.refuses(change(api.Retire, 0, 3, "m", 1, 0), api.ErrLost)
	h.lags(1, 2, 2)
	h.Crash(highest)
	h.lags(2, 3, 3)
	h.tells(2, 3)
	h.lags(2, 3, 0)
	h.restarts(0)
	h.lags(3, 3, 0)
	for _, i := range ends(3) {
		if n, err := h.Lag(i); n != 0 || told(err) != api.ErrRange {
			t.Errorf("Lag of %d = %d, %v", i, n, err)
		}
	}
}

// TestRestart: it is a new one, and hears all from the first call on; i beyond each end changes nothing.
func TestRestart(t *testing.T) {
	h := newHand(t, 3)
	h.puts(0, "m", leaf(6))
	for i := range 3 {
		h.tells(i, 2)
	}
	for _, i := range ends(3) {
		if err := h.Restart(i); told(err) != api.ErrRange {
			t.Errorf("Restart of %d = %v", i, err)
		}
		h.lags(0, 0, 0)
	}
	for i, want := range [][]int{{2, 0, 0}, {2, 2, 0}, {2, 2, 2}} {
		h.says(i, "m", 2, scored(6, 1, 2), none)
		h.restarts(i)
		h.lags(want...)
		h.says(i, "m", 0, api.Score{}, api.ErrNone)
		h.says(i, "m", 1, api.Score{}, api.ErrState)
		h.restarts(i)
		h.lags(want...)
	}
	h.tells(1, 1)
	h.restarts(1)
	h.tells(1, 2)
	h.lags(2, 0, 2)
	h.says(1, "m", 2, scored(6, 1, 2), none)
	h.does(change(api.Retire, 0, 3, "m", 1, 0), answer(0, 3), none)
	h.tells(1, 1)
	h.says(1, "m", 3, api.Score{}, api.ErrNone)
}

// TestNotForgotten: what was answered without an error is answered so again, behind whatever stops and crashes; so is what counted with one.
func TestNotForgotten(t *testing.T) {
	var s noise = 4
	type was struct {
		call   api.Call
		answer api.Answer
		e      api.Errno
	}
	for range 60 {
		h := newHand(t, 2+s.below(7))
		var all []was
		var counted calls
		for session := range 60 {
			if s.below(2) == 0 {
				h.Fail(s.below(5) - 1)
			}
			// Each call is of a session of its own, so that it stays the last one of it.
			c := s.call(counted)
			c.Session, c.Seq = session, 1+s.below(9)
			a, err := h.Do(c)
			for told(err) == api.ErrLost {
				h.Crash(s.pick(-1, 0, s.below(10), s.below(50), highest))
				a, err = h.Do(c)
			}
			// The first scorer hears nothing, so it lacks all that counted.
			if h.lag()[0] > len(all) {
				all, counted = append(all, was{c, a, told(err)}), append(counted, c)
			}
			h.tells(1+s.below(h.many-1), s.below(4))
			if s.below(6) == 0 {
				h.Crash(s.pick(-1, 0, highest))
			}
			for _, w := range all {
				h.again(w.call, w.answer, w.e)
			}
			if h.lag()[0] != len(all) || t.Failed() {
				t.Fatalf("there are %d calls, want %d", h.lag()[0], len(all))
			}
		}
		if len(all) < 30 {
			t.Errorf("only %d calls", len(all))
		}
	}
}

// TestAsOfTheAnswer: a scorer that is asked with the Index of an answer as token tells of what was so then or later, or that it does not know enough.
func TestAsOfTheAnswer(t *testing.T) {
	var s noise = 5
	var enough, little, later int
	for range 40 {
		h := newHand(t, 3)
		// tokens has the Index of each answer to a Promote: of version i+1, which says i.
		var tokens []int
		seq := 0
		for range 80 {
			switch s.below(6) {
			case 0, 1:
				number := len(tokens) + 1
				h.sure(&seq, up(0, 0, "m", leaf(number-1)))
				tokens = append(tokens, h.sure(&seq, change(api.Promote, 0, 0, "m", number, 0)).Index)
			case 2:
				h.Fail(s.below(4))
			case 3:
				h.restarts(s.below(3))
			default:
				h.tells(s.below(3), s.below(9))
			}
			for i := range 3 {
				for version, token := range tokens {
					x, err := h.Score(i, "m", nil, s.below(100), token)
					switch {
					case told(err) == api.ErrState:
						little++
					case err != nil || x.Version < version+1 || x.Value != x.Version-1 || x.Index < token:
						t.Fatalf("Score with token %d, behind which version %d was live = %v, %v", token, version+1, x, err)
					case x.Version > version+1:
						later++
					default:
						enough++
					}
				}
			}
		}
	}
	if min(enough, little, later) < 100 {
		t.Errorf("only %d tell of then, %d of later, and %d of nothing", enough, later, little)
	}
}

// sure does a call of session 0 with the next Seq till it is answered, whatever stops: behind what is lost it crashes, and asks again.
func (h *hand) sure(seq *int, c api.Call) api.Answer {
	h.Helper()
	*seq++
	c.Seq = *seq
	for try := range 5 {
		a, err := h.Do(c)
		if err == nil {
			return a
		}
		if told(err) != api.ErrLost {
			h.Fatalf("Do of %s = %v", short(c), err)
		}
		h.Crash([]int{-1, 0, 5, highest, 0}[(try+*seq)%5])
	}
	h.Fatalf("Do of %s is lost again and again", short(c))
	return api.Answer{}
}

// TestAlike: scorers that lack nothing tell alike, however they came there.
func TestAlike(t *testing.T) {
	var s noise = 6
	h, m := newHand(t, 8), newShadow(8)
	for range 150 {
		for range 6 {
			s.do(h, m)
		}
		name, row, key, token := s.name(), s.row(), s.below(100), s.below(len(m.calls)+2)
		h.tells(0, len(m.calls))
		m.heard[0] = len(m.calls)
		want, bad := h.Score(0, name, row, key, token)
		for i := 1; i < 8; i++ {
			if s.below(2) == 0 {
				h.tells(i, len(m.calls))
				m.heard[i] = len(m.calls)
			}
			if m.heard[i] < len(m.calls) {
				continue
			}
			if x, err := h.Score(i, name, row, key, token); x != want || told(err) != told(bad) {
				t.Fatalf("Score of %d, %q, %v, key %d, token %d = %v, %v, and %v, %v of the first one", i, name, row, key, token, x, err, want, bad)
			}
		}
		if t.Failed() {
			t.FailNow()
		}
	}
	if len(m.calls) < 50 {
		t.Errorf("only %d calls", len(m.calls))
	}
}

// TestSideBySide: of two fleets neither tells of the other.
func TestSideBySide(t *testing.T) {
	a, b := newHand(t, 2), newHand(t, 3)
	a.puts(0, "m", leaf(1))
	b.lags(0, 0, 0)
	b.tells(0, 1)
	b.says(0, "m", 0, api.Score{}, api.ErrNone)
	b.does(up(0, 1, "m", leaf(2)), answer(1, 1), none)
	a.lags(2, 2)
	a.tells(0, 2)
	b.lags(1, 1, 1)
	a.Fail(1)
	b.does(change(api.Promote, 0, 2, "m", 1, 0), answer(0, 2), none)
	a.lost(change(api.Retire, 0, 3, "m", 1, 0))
	b.does(up(0, 3, "m", leaf(3)), answer(2, 3), none)
	b.tells(0, 3)
	b.Crash(highest)
	a.lost()
	a.Crash(highest)
	a.lags(1, 3)
	b.lags(0, 3, 3)
	b.says(0, "m", 3, scored(2, 1, 3), none)
	a.says(0, "m", 2, scored(1, 1, 2), none)
	a.tells(0, 1)
	a.says(0, "m", 3, api.Score{}, api.ErrNone)
	a.restarts(0)
	b.says(0, "m", 3, scored(2, 1, 3), none)
	b.Fail(0)
	a.does(up(0, 4, "m", leaf(3)), answer(2, 4), none)
	b.lost(up(0, 4, "m", leaf(3)))
	a.does(up(0, 5, "m", leaf(3)), answer(3, 5), none)
}

// TestHandedIn: bytes are as they were, what lies behind them is neither read nor written, and changing them afterwards changes nothing, wherever they have come.
func TestHandedIn(t *testing.T) {
	for _, behind := range []byte{0, 1, 0x80, 0xff} {
		right := split(6)
		memory := append(slices.Clone(right), slices.Repeat(octets{behind}, 20)...)
		ahead := slices.Clone(memory)
		h := newHand(t, 3)
		h.puts(0, "m", memory[:len(right)])
		h.tells(0, 2)
		h.Fail(1)
		c := up(0, 3, "m", memory[:len(right)])
		h.refuses(c, api.ErrLost)
		if !slices.Equal(memory, ahead) {
			t.Errorf("what was handed in is %v, and was %v", memory, ahead)
		}
		scrawl(memory)
		h.Crash(highest)
		h.tells(1, 3)
		h.Crash(0)
		h.tells(2, 3)
		h.does(change(api.Promote, 0, 4, "m", 2, 0), answer(0, 4), none)
		for i, want := range []api.Score{scored(7, 1, 2), scored(7, 1, 3), scored(7, 1, 3)} {
			for range 2 {
				if x, err := h.Score(i, "m", []int{0, 5}, 0, 0); x != want || err != nil {
					t.Errorf("Score of %d = %v, %v, want %v", i, x, err, want)
				}
				h.tells(i, 4)
				want = scored(7, 2, 4)
			}
		}
	}
}

// scrawl over bytes, and over what lies behind them.
func scrawl(b octets) {
	b = b[:cap(b)]
	for i := range b {
		b[i] = 0x55
	}
}

// TestRowIsAsItWas: so is what lies behind it, and changing it afterwards changes nothing.
func TestRowIsAsItWas(t *testing.T) {
	h := newHand(t, 1)
	h.puts(0, "m", split(6))
	h.tells(0, 2)
	for _, behind := range []int{0, api.Nil, highest, lowest} {
		memory := []int{3, 5, behind, behind}
		ahead := slices.Clone(memory)
		if x, err := h.Score(0, "m", memory[:2], 0, 2); x != scored(7, 1, 2) || err != nil {
			t.Errorf("Score = %v, %v", x, err)
		}
		if _, err := h.Score(0, "m", memory[:1], 0, 2); told(err) != api.ErrShape {
			t.Errorf("Score of one cell = %v", err)
		}
		if !slices.Equal(memory, ahead) {
			t.Errorf("what was handed in is %v, and was %v", memory, ahead)
		}
		memory[1] = 4
		if x, err := h.Score(0, "m", []int{3, 5}, 0, 2); x != scored(7, 1, 2) || err != nil {
			t.Errorf("Score = %v, %v", x, err)
		}
	}
}

// TestNameIsItsOwn: names that are pieces of a longer text, of which nothing is kept, though that is written over afterwards.
func TestNameIsItsOwn(t *testing.T) {
	h := newHand(t, 2)
	text := octets("a model of models")
	name := unsafe.String(&text[2], 5)
	h.puts(0, name, leaf(1))
	h.puts(1, name[:2], leaf(2))
	h.tells(0, 4)
	h.says(0, name, 4, scored(1, 1, 4), none)
	copy(text, "zzzzzzzzzzzzzzzzz")
	h.tells(1, 4)
	h.Crash(0)
	h.does(up(2, 1, "model", leaf(3)), answer(2, 5), none)
	h.does(up(2, 2, "mo", leaf(3)), answer(2, 6), none)
	for i := range 2 {
		h.says(i, "model", 4, scored(1, 1, 4), none)
		h.says(i, "mo", 4, scored(2, 1, 4), none)
		h.says(i, "zzzzz", 4, api.Score{}, api.ErrNone)
	}
}

// TestManyCalls: as many as a log takes, told ahead of a Crash and behind it.
func TestManyCalls(t *testing.T) {
	h := newHand(t, 3)
	h.puts(0, "m", leaf(4))
	many := 2
	for seq := 1; ; seq++ {
		_, err := h.Do(change(api.Retire, 1, seq, "m", 0, 0))
		if told(err) == api.ErrFull {
			break
		}
		if told(err) != api.ErrNone {
			t.Fatalf("Do of the call at %d = %v", many, err)
		}
		many++
	}
	if many < 9000 {
		t.Fatalf("only %d calls", many)
	}
	h.tells(0, many)
	h.tells(1, many-1)
	h.Crash(0)
	h.tells(1, 2)
	h.tells(2, many+1)
	h.lags(0, 0, 0)
	for i := range 3 {
		h.says(i, "m", many, scored(4, 1, many), none)
		h.says(i, "m", many+1, api.Score{}, api.ErrState)
	}
}

// TestLongLife: a fleet that is lost again and again goes on, and what is torn takes no room.
func TestLongLife(t *testing.T) {
	h := newHand(t, 2)
	h.puts(0, "m", leaf(4))
	c := padded(5000, 1)
	for i := range 500 {
		h.Fail(i % 2)
		if _, err := h.Do(c); told(err) != api.ErrLost {
			t.Fatalf("Do behind %d crashes = %v", i, err)
		}
		h.Crash(i * 9)
	}
	h.lags(2, 2)
	h.tells(0, 3)
	h.does(c, api.Answer{}, api.ErrNone)
	h.lags(1, 3)
	h.says(0, "m", 2, scored(4, 1, 2), none)
}

// shadow tells a second time what a fleet is to tell: by the calls that are done, of which it goes over all each time, and by what is there that is not safe.
type shadow struct {
	calls calls
	// heard has of each scorer how many calls it heard.
	heard []int
	// ahead is how many steps are done ahead of the one that is lost; below 0 none is.
	ahead int
	lost  bool
	// loose is a call of which something is there, and long how many bytes.
	loose api.Call
	long  int
}

func newShadow(many int) *shadow { return &shadow{heard: make([]int, many), ahead: -1} }

func (m *shadow) do(c api.Call) (api.Answer, api.Errno) {
	if m.lost {
		return api.Answer{}, api.ErrLost
	}
	s := done(m.calls)
	a, err := s.Do(c)
	if s.Index() == len(m.calls) {
		return a, told(err)
	}
	if e := m.keep(c); e != none {
		return api.Answer{}, e
	}
	m.calls = append(m.calls, c)
	return a, told(err)
}

func (m *shadow) keep(c api.Call) api.Errno {
	if min(c.Number, c.Share) < 0 || max(c.Number, c.Share) > 1000000 {
		return api.ErrRange
	}
	b := record(c)
	all := len(b)
	for _, c := range m.calls {
		all += len(record(c))
	}
	if len(c.Bytes) > 6000 || all > room {
		return api.ErrFull
	}
	m.loose = c
	switch {
	case m.ahead == 0:
		m.long, m.lost = len(b)/2, true
	case m.ahead == 1:
		m.long, m.lost = len(b), true
	default:
		m.ahead -= 2
		return none
	}
	return api.ErrLost
}

func (m *shadow) tell(i int) api.Errno {
	if i < 0 || i >= len(m.heard) {
		return api.ErrRange
	}
	m.heard[i] = min(m.heard[i]+1, len(m.calls))
	return none
}

func (m *shadow) score(i int, name string, row []int, key, token int) (api.Score, api.Errno) {
	if i < 0 || i >= len(m.heard) || token < 0 || token > 1000000 {
		return api.Score{}, api.ErrRange
	}
	if token > m.heard[i] {
		return api.Score{}, api.ErrState
	}
	s := done(m.calls[:m.heard[i]])
	v, err := s.Pick(name, key)
	if err != nil {
		return api.Score{}, told(err)
	}
	g, err := s.Grove(name, v.Number)
	if err != nil {
		return api.Score{}, -1
	}
	value, err := grove.Eval(g, row)
	if err != nil {
		return api.Score{}, told(err)
	}
	return scored(value, v.Number, m.heard[i]), none
}

func (m *shadow) crash(keep int) {
	if m.lost && m.long == len(record(m.loose)) && keep >= m.long {
		m.calls = append(m.calls, m.loose)
	}
	m.lost, m.ahead = false, -1
}

func (m *shadow) restart(i int) api.Errno {
	if i < 0 || i >= len(m.heard) {
		return api.ErrRange
	}
	m.heard[i] = 0
	return none
}

// holds a fleet to the shadow: Lag of all, and what is answered again of the last call of each session.
func (m *shadow) holds(h *hand) {
	h.Helper()
	for i, heard := range m.heard {
		if n, err := h.Lag(i); n != len(m.calls)-heard || err != nil {
			h.Errorf("Lag of %d = %d, %v, want %d", i, n, err, len(m.calls)-heard)
		}
	}
	var sessions []int
	for _, c := range slices.Backward(m.calls) {
		if slices.Contains(sessions, c.Session) {
			continue
		}
		sessions = append(sessions, c.Session)
		want, e := m.do(c)
		h.does(c, want, e)
	}
}

// names of models.
func names() []string { return []string{"a", "b", "c"} }

func (s *noise) name() string { return names()[s.below(3)] }

// row of as many cells as split asks for, or of none.
func (s *noise) row() []int {
	return [][]int{nil, {1, 4}, {1, 5}, {api.Nil, api.Nil}, {0, 6}}[s.below(5)]
}

// call gives any one behind others, mostly one that is right as far as it can be told ahead.
func (s *noise) call(l calls) api.Call {
	c := api.Call{What: s.pick(1, 1, 1, 1, 2, 2, 2, 3, 3, 3, 3, 4), Session: s.below(4), Name: s.name(), Share: s.pick(1, 50, 99, 60)}
	for _, was := range l {
		if was.Session == c.Session {
			c.Seq = was.Seq
		}
	}
	c.Seq += s.pick(1, 1, 1, 1, 2, 0, -1)
	many := 0
	for _, v := range done(l).All() {
		if v.Name == c.Name {
			many++
		}
	}
	c.Number = s.pick(many, many, many, 1+s.below(many+1), 0)
	c.Bytes = [][]byte{leaf(s.below(100)), split(s.below(100))}[s.below(2)]
	switch s.below(30) {
	case 0:
		c.What = s.pick(0, 5)
	case 1:
		c.Session = s.pick(-1, latest+1)
	case 2:
		c.Name = "A"
	case 3:
		c.Bytes = c.Bytes[:s.below(len(c.Bytes))]
	case 4:
		c.Number = s.pick(-1, latest, latest+1)
	case 5:
		c.Share = s.pick(-1, 0, 100, latest, latest+1)
	case 6:
		c.Bytes = make(octets, s.pick(6000, 6001))
	}
	return c
}

// which scorer is asked: seldom one that there is not.
func (s *noise) which(many int) int {
	if s.below(12) == 0 {
		return s.pick(-1, many, lowest, highest)
	}
	return s.below(many)
}

// do one thing with a fleet and with its shadow, and tell what it was.
func (s *noise) do(h *hand, m *shadow) string {
	h.Helper()
	i, what := s.which(h.many), s.below(40)
	if m.lost && s.below(4) == 0 {
		what = 2
	}
	switch what {
	case 0, 1:
		n := s.pick(-1, 0, 0, 1, 1, 2, 3, 4, 5, lowest, highest)
		h.Fail(n)
		if !m.lost {
			m.ahead = n
		}
		return "Fail"
	case 2:
		keep := s.pick(-1, 0, 1, s.below(40), s.below(40), lowest, highest, highest)
		h.Crash(keep)
		m.crash(keep)
		return "Crash"
	case 3:
		e := m.restart(i)
		if err := h.Restart(i); told(err) != e {
			h.Errorf("Restart of %d = %v, want %v", i, err, e)
		}
		return "Restart " + e.Error()
	case 4, 5, 6, 7, 8, 9, 10, 11, 12:
		return s.tell(h, m, i)
	case 13, 14, 15, 16, 17, 18, 19, 20, 21, 22:
		return s.score(h, m, i)
	}
	c := s.call(m.calls)
	counted := len(m.calls)
	want, e := m.do(c)
	h.does(c, want, e)
	return fmt.Sprint("Do ", e.Error(), " ", len(m.calls) > counted)
}

// tell a scorer one call or more.
func (s *noise) tell(h *hand, m *shadow, i int) string {
	h.Helper()
	e := none
	for range s.pick(1, 2, 9) {
		e = m.tell(i)
		if err := h.Tell(i); told(err) != e {
			h.Errorf("Tell of %d = %v, want %v", i, err, e)
		}
	}
	return "Tell " + e.Error()
}

// score any row.
func (s *noise) score(h *hand, m *shadow, i int) string {
	h.Helper()
	name, row, key, token := s.name(), s.row(), s.below(100), s.below(len(m.calls)+1)
	switch s.below(10) {
	case 0:
		key = s.pick(-1, latest, latest+1)
	case 1:
		token = s.pick(-1, len(m.calls)+1, latest, latest+1)
	case 2, 3, 4, 5:
		token = 0
	}
	want, e := m.score(i, name, row, key, token)
	if x, err := h.Score(i, name, row, key, token); x != want || told(err) != e {
		h.Errorf("Score of %d, %q, %v, key %d, token %d = %v, %v, want %v, %v", i, name, row, key, token, x, err, want, e)
	}
	return "Score " + e.Error()
}

// TestAgainstShadow: many things of all kinds, one behind the other, each held to a second telling.
func TestAgainstShadow(t *testing.T) {
	var s noise = 3
	seen := map[string]int{}
	for round := range 200 {
		h, m := newHand(t, 1+round%8), newShadow(1+round%8)
		var did []string
		for range 120 {
			was := s.do(h, m)
			did = append(did, was)
			seen[was]++
			m.holds(h)
			if t.Failed() {
				t.Fatalf("behind %v", did)
			}
		}
	}
	for key, least := range map[string]int{
		"Do OK true": 500, "Do OK false": 100, "Do ErrLost false": 500, "Do ErrRange false": 50, "Do ErrFull false": 5, "Do ErrSyntax false": 30, "Do ErrState false": 50,
		"Do ErrNone true": 50, "Do ErrState true": 50, "Do ErrClash true": 10, "Do ErrNone false": 10,
		"Fail": 100, "Crash": 100, "Restart OK": 100, "Restart ErrRange": 30, "Tell OK": 500, "Tell ErrRange": 100,
		"Score OK": 100, "Score ErrRange": 100, "Score ErrState": 100, "Score ErrNone": 100, "Score ErrShape": 20,
	} {
		if seen[key] < least {
			t.Errorf("only %d are such: %s; of %v", seen[key], key, seen)
		}
	}
}

// TestSameAgain: the same things done tell the same, whatever was done with other fleets between.
func TestSameAgain(t *testing.T) {
	ask := func(s noise) string {
		h, m := newHand(t, 3), newShadow(3)
		out := ""
		for range 200 {
			out += fmt.Sprintln(s.do(h, m), h.lag())
		}
		return out
	}
	first := ask(5)
	ask(6)
	ask(7)
	if ask(5) != first {
		t.Errorf("the same things tell other things")
	}
}

// FuzzFleet: things done, and calls of any fields.
func FuzzFleet(f *testing.F) {
	f.Add(octets{0, 1, 0, 1, 0, 0, 0, 3, 0, 2, 1, 0, 4, 0, 0, 0, 0, 0, 4, 0, 0, 0, 0, 0, 5, 0, 0, 2, 0, 0})
	f.Add(octets{6, 1, 0, 0, 0, 0, 0, 1, 0, 1, 0, 9, 7, 200, 0, 0, 0, 0, 4, 0, 0, 0, 0, 0, 0, 1, 0, 1, 0, 9})
	f.Add(octets{6, 0, 0, 0, 0, 0, 1, 2, 1, 1, 1, 50, 7, 3, 0, 0, 0, 0, 8, 1, 0, 0, 0, 0})
	f.Fuzz(func(t *testing.T, all []byte) {
		h, m := newHand(t, 2), newShadow(2)
		for b := range slices.Chunk(all[:min(len(all), 240)], 6) {
			b = append(b[:len(b):len(b)], make(octets, 6-len(b))...)
			n := int(int8(b[1]))
			switch b[0] % 9 {
			case 4:
				if err, e := h.Tell(n), m.tell(n); told(err) != e {
					t.Errorf("Tell of %d = %v, want %v", n, err, e)
				}
			case 5:
				want, e := m.score(n, "a", nil, int(b[2])-1, int(b[3])-1)
				if x, err := h.Score(n, "a", nil, int(b[2])-1, int(b[3])-1); x != want || told(err) != e {
					t.Errorf("Score of %d = %v, %v, want %v, %v", n, x, err, want, e)
				}
			case 6:
				h.Fail(n)
				if !m.lost {
					m.ahead = n
				}
			case 7:
				h.Crash(n)
				m.crash(n)
			case 8:
				if err, e := h.Restart(n), m.restart(n); told(err) != e {
					t.Errorf("Restart of %d = %v, want %v", n, err, e)
				}
			default:
				c := api.Call{What: n, Session: int(b[2] % 4), Seq: int(b[3]), Name: append(names(), "", "A")[b[0]/9%5], Number: int(int8(b[4])), Share: int(b[5]), Bytes: leaf(int(b[5]))[:min(7, 1+int(b[5]))]}
				want, e := m.do(c)
				h.does(c, want, e)
			}
			m.holds(h)
		}
	})
}
