package log_test

import (
	"encoding/binary"
	"errors"
	"fmt"
	"math"
	"slices"
	"strings"
	"testing"
	"unsafe"

	"orchardry/api"
	"orchardry/code"
	"orchardry/log"
	"orchardry/shelf"
)

const (
	latest  = api.MaxTime
	lowest  = math.MinInt
	highest = math.MaxInt
	// room is how many bytes all calls may have together.
	room = 100000
)

// none stands for an error that is nil.
const none = api.OK

// told gives what an error tells; -1, if it is none of the program's, or OK, which no error may be.
func told(err error) api.Errno {
	var e api.Errno
	switch {
	case err == nil:
		return none
	case errors.As(err, &e) && e != api.OK:
		return e
	}
	return -1
}

// octets are bytes that are handed in, or come.
type octets = []byte

// calls that were Appended.
type calls = []api.Call

// noise: numbers that look as if they had no order, the same ones each time.
type noise uint64

func (s *noise) below(n int) int {
	*s = *s*6364136223846793005 + 1442695040888963407
	return int(uint64(*s) >> 33 % uint64(n))
}

func (s *noise) pick(l ...int) int { return l[s.below(len(l))] }

// written gives a grove of one leaf as bytes.
func written(value int) octets {
	b, err := code.Encode(api.Grove{Way: api.Sum, Weights: []int{1}, Trees: [][]api.Node{{{Feature: api.Leaf, Value: value}}}})
	if err != nil {
		panic(err)
	}
	return b
}

// record is a call as bytes, told a second time: what the library calls a varint is a Num.
func record(c api.Call) octets {
	var b octets
	for _, n := range []int{c.What, c.Session, c.Seq, c.Number, c.Share, len(c.Name)} {
		b = binary.AppendVarint(b, int64(n))
	}
	b = append(b, c.Name...)
	b = append(b, c.Bytes...)
	return append(binary.AppendVarint(nil, int64(len(b))), b...)
}

// records are calls as bytes, one behind the other.
func records(l ...api.Call) octets {
	var b octets
	for _, c := range l {
		b = append(b, record(c)...)
	}
	return b
}

// half of a call's bytes, as a step leaves it that stops.
func half(c api.Call) octets {
	b := record(c)
	return b[:len(b)/2]
}

// call of which the first bytes, by which it is told from others, hang on a number; many is how many bytes it has, at least 7.
func call(many, number int) api.Call {
	c := api.Call{What: 1 + number%4, Session: number % 50, Seq: number % 60, Number: number % 40, Share: number % 30}
	for long := len(record(c)); long < many; long = len(record(c)) {
		c.Bytes = append(c.Bytes, slices.Repeat(octets{byte(number)}, max(many-long-1, 1))...)
	}
	if len(record(c)) != many {
		panic(fmt.Sprint("no call has ", many, " bytes"))
	}
	return c
}

// least is a call of so few bytes as may be, 7.
func least() api.Call { return api.Call{What: api.Upload} }

// some are calls of odd and of even many bytes, with a length of one and of two bytes, with and without a Name and Bytes.
func some() calls {
	return calls{
		{What: api.Upload, Session: 1, Seq: 1, Name: "m", Bytes: written(4)},
		least(),
		{What: api.Retire, Session: latest, Seq: latest, Number: latest, Share: latest, Name: strings.Repeat("long", 25)},
		{What: api.Try, Session: 2, Seq: 9, Name: "pear", Number: 3, Share: 50},
		{What: api.Upload, Seq: 8, Bytes: slices.Repeat(octets{200}, 90)},
	}
}

// short tells of a call, of long texts and bytes only how they begin.
func short(c api.Call) string {
	name, b := c.Name[:min(len(c.Name), 20)], c.Bytes[:min(len(c.Bytes), 20)]
	return fmt.Sprintf("{What %d Session %d Seq %d Name %q of %d Number %d Share %d Bytes %v of %d}", c.What, c.Session, c.Seq, name, len(c.Name), c.Number, c.Share, b, len(c.Bytes))
}

// shorts tells of calls, of many only of the first ones.
func shorts(l calls) string {
	out := fmt.Sprint(len(l), " calls:")
	for _, c := range l[:min(len(l), 5)] {
		out += " " + short(c)
	}
	return out
}

// begin of bytes, and how many they are.
func begin(b octets) string { return fmt.Sprint(b[:min(len(b), 60)], " of ", len(b)) }

// same tells whether calls have the same fields; no Bytes and nil are the same.
func same(a, b api.Call) bool {
	return a.What == b.What && a.Session == b.Session && a.Seq == b.Seq && a.Name == b.Name && a.Number == b.Number && a.Share == b.Share && slices.Equal(a.Bytes, b.Bytes)
}

// stand tells what a shelf has.
func stand(s *shelf.Shelf) string {
	out := fmt.Sprintln(s.Index(), s.All())
	for _, v := range s.All() {
		g, err := s.Grove(v.Name, v.Number)
		out += fmt.Sprintln(g, told(err))
	}
	return out
}

// done is how a shelf stands that has done calls.
func done(l calls) string {
	s := shelf.New()
	for _, c := range l {
		s.Do(c)
	}
	return stand(s)
}

// hand is a log, and who asks it.
type hand struct {
	*testing.T
	*log.Log
}

func newHand(t *testing.T) *hand { return &hand{t, log.New()} }

// has holds all that a log tells: whole calls, bytes behind these, and how many bytes are safe.
func (h *hand) has(safe int, tail octets, want ...api.Call) {
	h.Helper()
	if l := h.Calls(); !slices.EqualFunc(l, want, same) {
		h.Errorf("Calls = %s, want %s", shorts(l), shorts(want))
	}
	for _, at := range []int{lowest, -1, 0, 1, len(want) / 2, len(want) - 1, len(want), len(want) + 1, highest} {
		h.gives(at, want)
	}
	if b, bytes := h.Bytes(), append(records(want...), tail...); !slices.Equal(b, bytes) {
		h.Errorf("Bytes = %s, want %s", begin(b), begin(bytes))
	}
	if n := h.Safe(); n != safe {
		h.Errorf("Safe = %d, want %d", n, safe)
	}
	if is, want := stand(h.Shelf()), done(want); is != want {
		h.Errorf("Shelf stands\n%s, want\n%s", is, want)
	}
}

// gives holds Call to one of calls, or to none where these have none.
func (h *hand) gives(at int, want calls) {
	h.Helper()
	var call api.Call
	there := at >= 0 && at < len(want)
	if there {
		call = want[at]
	}
	if c, is := h.Call(at); is != there || !same(c, call) {
		h.Errorf("Call of %d = %s, %t, want %s, %t", at, short(c), is, short(call), there)
	}
}

// adds a call, or more, each of which is right.
func (h *hand) adds(l ...api.Call) {
	h.Helper()
	for _, c := range l {
		if err := h.Append(c); err != nil {
			h.Fatalf("Append of %s = %v, want nil", short(c), err)
		}
	}
}

// refuses a call with an error, of which there is nothing to tell afterwards.
func (h *hand) refuses(c api.Call, e api.Errno) {
	h.Helper()
	calls, bytes, safe, stood := h.Calls(), h.Bytes(), h.Safe(), stand(h.Shelf())
	if err := h.Append(c); told(err) != e {
		h.Errorf("Append of %s = %v, want %v", short(c), err, e)
	}
	if !slices.EqualFunc(h.Calls(), calls, same) || !slices.Equal(h.Bytes(), bytes) || h.Safe() != safe || stand(h.Shelf()) != stood {
		h.Errorf("behind %s with %v there are %s, Bytes %s, %d safe, and were %s, Bytes %s, %d safe", short(c), e, shorts(h.Calls()), begin(h.Bytes()), h.Safe(), shorts(calls), begin(bytes), safe)
	}
}

// stops at a call.
func (h *hand) stops(c api.Call) {
	h.Helper()
	if err := h.Append(c); told(err) != api.ErrLost {
		h.Errorf("Append of %s = %v, want ErrLost", short(c), err)
	}
}

// syncs all.
func (h *hand) syncs() {
	h.Helper()
	if err := h.Sync(); err != nil {
		h.Fatalf("Sync = %v, want nil", err)
	}
}

// lost has Sync say so, and do nothing.
func (h *hand) lost() {
	h.Helper()
	calls, bytes, safe := h.Calls(), h.Bytes(), h.Safe()
	if err := h.Sync(); told(err) != api.ErrLost {
		h.Errorf("Sync = %v, want ErrLost", err)
	}
	if !slices.EqualFunc(h.Calls(), calls, same) || !slices.Equal(h.Bytes(), bytes) || h.Safe() != safe {
		h.Errorf("behind Sync with ErrLost there are %s, Bytes %s, %d safe, and were %s, Bytes %s, %d safe", shorts(h.Calls()), begin(h.Bytes()), h.Safe(), shorts(calls), begin(bytes), safe)
	}
}

// stopped holds a log to have stopped.
func (h *hand) stopped() {
	h.Helper()
	h.refuses(least(), api.ErrLost)
	h.lost()
}

// going holds a log not to have stopped, for more steps than any Fail here asks for, and leaves it as it was.
func (h *hand) going() {
	h.Helper()
	for range 20 {
		h.syncs()
	}
}

// TestEmpty: what a new one tells.
func TestEmpty(t *testing.T) {
	h := newHand(t)
	h.has(0, nil)
	h.going()
	h.has(0, nil)
	for _, keep := range []int{lowest, -1, 0, 1, highest} {
		h.Crash(keep)
		h.has(0, nil)
	}
}

// TestBytesByHand: calls as bytes, sign by sign.
func TestBytesByHand(t *testing.T) {
	name := strings.Repeat("\x00\xffm\n ", 20)
	long := slices.Repeat(octets{7, 0, 255}, api.MaxBytes/3)
	join := func(l ...octets) octets { return slices.Concat(l...) }
	for _, c := range []struct {
		call api.Call
		want octets
	}{
		{api.Call{What: 1}, octets{12, 2, 0, 0, 0, 0, 0}},
		{api.Call{What: 2, Session: 3, Seq: 5, Number: 7, Share: 9, Name: "pear", Bytes: octets{255, 0, 128}}, octets{26, 4, 6, 10, 14, 18, 8, 'p', 'e', 'a', 'r', 255, 0, 128}},
		{api.Call{What: 3, Session: latest}, octets{16, 6, 128, 137, 122, 0, 0, 0, 0}},
		{api.Call{What: 3, Seq: latest}, octets{16, 6, 0, 128, 137, 122, 0, 0, 0}},
		{api.Call{What: 3, Number: latest}, octets{16, 6, 0, 0, 128, 137, 122, 0, 0}},
		{api.Call{What: 3, Share: latest}, octets{16, 6, 0, 0, 0, 128, 137, 122, 0}},
		{api.Call{What: 4, Session: latest, Seq: latest, Number: latest, Share: latest}, octets{28, 8, 128, 137, 122, 128, 137, 122, 128, 137, 122, 128, 137, 122, 0}},
		{api.Call{What: 4, Session: 63, Seq: 64, Number: 8191, Share: 8192}, octets{20, 8, 126, 128, 1, 254, 127, 128, 128, 1, 0}},
		{api.Call{What: 1, Name: "\x00"}, octets{14, 2, 0, 0, 0, 0, 2, 0}},
		{api.Call{What: 1, Bytes: octets{0}}, octets{14, 2, 0, 0, 0, 0, 0, 0}},
		{api.Call{What: 1, Name: "\xff\x80"}, octets{16, 2, 0, 0, 0, 0, 4, 255, 128}},
		{api.Call{What: 1, Name: "ü"}, octets{16, 2, 0, 0, 0, 0, 4, 0xc3, 0xbc}},
		{api.Call{What: 1, Name: name[:63]}, join(octets{138, 1, 2, 0, 0, 0, 0, 126}, octets(name[:63]))},
		{api.Call{What: 1, Name: name[:64]}, join(octets{142, 1, 2, 0, 0, 0, 0, 128, 1}, octets(name[:64]))},
		{api.Call{What: 1, Name: name}, join(octets{214, 1, 2, 0, 0, 0, 0, 200, 1}, octets(name))},
		{api.Call{What: 1, Bytes: long[:57]}, join(octets{126, 2, 0, 0, 0, 0, 0}, long[:57])},
		{api.Call{What: 1, Bytes: long[:58]}, join(octets{128, 1, 2, 0, 0, 0, 0, 0}, long[:58])},
		{api.Call{What: 1, Bytes: long}, join(octets{236, 93, 2, 0, 0, 0, 0, 0}, long)},
		{api.Call{What: 4, Session: latest, Seq: latest, Number: latest, Share: latest, Name: name, Bytes: long}, join(octets{198, 95, 8, 128, 137, 122, 128, 137, 122, 128, 137, 122, 128, 137, 122, 200, 1}, octets(name), long)},
	} {
		h := newHand(t)
		h.adds(c.call)
		if b := h.Bytes(); !slices.Equal(b, c.want) {
			t.Errorf("Bytes of %s = %s, want %s", short(c.call), begin(b), begin(c.want))
		}
		h.has(0, nil, c.call)
		h.adds(c.call, least())
		h.has(0, nil, c.call, c.call, least())
		if b := h.Bytes(); !slices.Equal(b, join(c.want, c.want, octets{12, 2, 0, 0, 0, 0, 0})) {
			t.Errorf("Bytes of %s twice, and another = %s", short(c.call), begin(b))
		}
	}
}

// with gives calls, each of which has one field at a number.
func with(n int) map[string]api.Call {
	c := api.Call{What: api.Try, Session: 1, Seq: 2, Name: "m", Number: 3, Share: 4, Bytes: octets{5}}
	m := map[string]api.Call{"Session": c, "Seq": c, "Number": c, "Share": c}
	for field, c := range m {
		switch field {
		case "Session":
			c.Session = n
		case "Seq":
			c.Seq = n
		case "Number":
			c.Number = n
		case "Share":
			c.Share = n
		}
		m[field] = c
	}
	return m
}

// beyond are numbers that neither Session, Seq, Number nor Share may be.
func beyond() []int {
	return []int{-1, latest + 1, -2, -latest, lowest, highest, 1 << 32, -1 << 32, 1<<32 + 1, 1<<16*latest + 1}
}

// TestWhat: from 1 to 4.
func TestWhat(t *testing.T) {
	h := newHand(t)
	var all calls
	for what := 1; what <= 4; what++ {
		all = append(all, api.Call{What: what, Name: "m"})
		h.adds(all[what-1])
		h.has(0, nil, all...)
	}
	for _, what := range []int{0, 5, -1, -4, 1 << 32, 1<<32 + 1, lowest, highest, 257} {
		h.refuses(api.Call{What: what, Name: "m"}, api.ErrRange)
	}
	h.has(0, nil, all...)
}

// TestNumbers: Session, Seq, Number and Share, from 0 to MaxTime.
func TestNumbers(t *testing.T) {
	for _, n := range []int{0, 1, 99, 100, latest - 1, latest} {
		for _, c := range with(n) {
			h := newHand(t)
			h.adds(c)
			h.has(0, nil, c)
		}
	}
	h := newHand(t)
	for _, n := range beyond() {
		for _, c := range with(n) {
			h.refuses(c, api.ErrRange)
		}
	}
	h.has(0, nil)
}

// TestNames: of at most 100 bytes, whatever signs they have.
func TestNames(t *testing.T) {
	for _, sign := range []string{"m", "\x00", "\xff", " ", "\n", "ü", "\xc3", "€", "𝄞"} {
		longest := strings.Repeat(sign, 100/len(sign))
		longest += strings.Repeat("m", 100-len(longest))
		for _, name := range []string{"", sign, longest[:99], longest} {
			h := newHand(t)
			c := api.Call{What: api.Promote, Name: name, Bytes: octets{1}}
			h.adds(c)
			h.has(0, nil, c)
			for _, name := range []string{longest + "m", longest + "\x00", "m" + longest, longest + longest, strings.Repeat("m", 1<<16)} {
				h.refuses(api.Call{What: api.Promote, Name: name}, api.ErrFull)
			}
			h.has(0, nil, c)
		}
	}
}

// TestLongBytes: of at most MaxBytes, whatever What is.
func TestLongBytes(t *testing.T) {
	for what := 1; what <= 4; what++ {
		h := newHand(t)
		c := api.Call{What: what, Bytes: slices.Repeat(octets{128}, api.MaxBytes)}
		h.adds(c)
		h.has(0, nil, c)
		for _, more := range []int{1, 2, api.MaxBytes, room} {
			h.refuses(api.Call{What: what, Bytes: slices.Repeat(octets{128}, api.MaxBytes+more)}, api.ErrFull)
		}
		h.has(0, nil, c)
	}
}

// filled gives calls that have so many bytes together, none of which is longer than may be.
func filled(many int) calls {
	var l calls
	for many > 0 {
		next := min(many, 6000)
		if left := many - next; left > 0 && left < 7 {
			next -= 7
		}
		l = append(l, call(next, len(l)))
		many -= next
	}
	return l
}

// TestRoom: calls that together have just 100000 bytes, and one more.
func TestRoom(t *testing.T) {
	h := newHand(t)
	l := filled(room)
	h.adds(l...)
	h.has(0, nil, l...)
	if n := len(h.Bytes()); n != room {
		t.Fatalf("there are %d bytes", n)
	}
	h.refuses(least(), api.ErrFull)
	h.syncs()
	h.has(room, nil, l...)
	h.refuses(least(), api.ErrFull)
	h.Crash(-1)
	h.refuses(least(), api.ErrFull)
	h.has(room, nil, l...)

	for _, last := range []int{7, 8, 9, 100, 1000, 5999} {
		h := newHand(t)
		l := filled(room - last)
		h.adds(l...)
		h.refuses(call(last+1, 1), api.ErrFull)
		h.adds(call(last, 1))
		h.has(0, nil, append(l, call(last, 1))...)
		h.refuses(least(), api.ErrFull)
	}

	h = newHand(t)
	l = filled(room - 6)
	h.adds(l...)
	h.refuses(least(), api.ErrFull)
	h.has(0, nil, l...)
}

// TestRoomOfMany: as many calls as may be.
func TestRoomOfMany(t *testing.T) {
	h := newHand(t)
	l := slices.Repeat(calls{least()}, room/7)
	h.adds(l...)
	h.refuses(least(), api.ErrFull)
	h.syncs()
	h.has(room/7*7, nil, l...)
}

// TestRoomIsOfWholeOnes: what is there of a call that is not whole takes none.
func TestRoomIsOfWholeOnes(t *testing.T) {
	for _, crash := range []int{0, 1, 1000, 2500, highest} {
		h := newHand(t)
		l := filled(room - 5000)
		h.adds(l...)
		h.syncs()
		h.Fail(0)
		last := call(5000, 1)
		h.stops(last)
		h.has(room-5000, half(last), l...)
		h.refuses(call(5001, 1), api.ErrFull)
		h.refuses(last, api.ErrLost)
		h.Crash(crash)
		tail := half(last)[:min(crash, 2500)]
		h.has(room-5000+len(tail), tail, l...)
		h.refuses(call(5001, 1), api.ErrFull)
		h.adds(last)
		h.has(room-5000, nil, append(l, last)...)
		h.refuses(least(), api.ErrFull)
	}
}

// TestRoomAgain: what is lost leaves room.
func TestRoomAgain(t *testing.T) {
	h := newHand(t)
	l := filled(room)
	h.adds(l[:3]...)
	h.syncs()
	h.adds(l[3:]...)
	h.refuses(least(), api.ErrFull)
	h.Crash(len(records(l[3:]...)) - 1)
	left := l[:len(l)-1]
	tail := record(l[len(l)-1])
	h.has(room-1, tail[:len(tail)-1], left...)
	h.refuses(call(len(tail)+1, 3), api.ErrFull)
	h.adds(call(len(tail), 3))
	h.has(len(records(left...)), nil, append(slices.Clone(left), call(len(tail), 3))...)
	h.refuses(least(), api.ErrFull)
	h.Crash(-1)
	h.has(len(records(left...)), nil, left...)
}

// wrong are calls with several faults, and which of these is told.
func wrong() []struct {
	call api.Call
	e    api.Errno
} {
	name, long := strings.Repeat("m", 101), make(octets, api.MaxBytes+1)
	return []struct {
		call api.Call
		e    api.Errno
	}{
		{api.Call{}, api.ErrRange},
		{api.Call{What: 5}, api.ErrRange},
		{api.Call{What: 1, Session: -1, Name: name}, api.ErrRange},
		{api.Call{What: 1, Seq: -1, Bytes: long}, api.ErrRange},
		{api.Call{What: 1, Number: latest + 1, Name: name, Bytes: long}, api.ErrRange},
		{api.Call{What: 1, Share: latest + 1, Name: name}, api.ErrRange},
		{api.Call{What: 0, Session: -1, Seq: -1, Number: -1, Share: -1, Name: name, Bytes: long}, api.ErrRange},
		{api.Call{What: 5, Bytes: long}, api.ErrRange},
		{api.Call{What: 1, Session: latest + 1, Bytes: make(octets, api.MaxBytes)}, api.ErrRange},
		{api.Call{What: 1, Name: name}, api.ErrFull},
		{api.Call{What: 1, Bytes: long}, api.ErrFull},
		{api.Call{What: 1, Name: name, Bytes: long}, api.ErrFull},
	}
}

// TestWhichComesFirst: ErrRange, ErrFull, ErrLost.
func TestWhichComesFirst(t *testing.T) {
	for _, there := range []calls{nil, some(), filled(room - 100)} {
		h := newHand(t)
		h.adds(there...)
		all := func() {
			t.Helper()
			for _, c := range wrong() {
				h.refuses(c.call, c.e)
			}
			if len(h.Bytes()) == room-100 {
				h.refuses(call(101, 1), api.ErrFull)
				h.refuses(api.Call{What: 1, Share: -1, Bytes: make(octets, 101)}, api.ErrRange)
			}
		}
		all()
		h.Fail(0)
		h.lost()
		all()
		h.refuses(call(100, 1), api.ErrLost)
		all()
		h.has(0, nil, there...)
	}
}

// TestRefusedIsNoStep: an Append with ErrRange or ErrFull neither stops nor counts.
func TestRefusedIsNoStep(t *testing.T) {
	for n := range 4 {
		h := newHand(t)
		there := filled(room - 100)
		h.adds(there...)
		h.Fail(n)
		refused := func() {
			for _, c := range wrong() {
				h.refuses(c.call, c.e)
			}
			h.refuses(call(101, 1), api.ErrFull)
		}
		for i := range n {
			refused()
			h.adds(call(10, i))
			there = append(there, call(10, i))
			h.has(0, nil, there...)
		}
		refused()
		h.stops(call(10, 9))
		h.has(0, half(call(10, 9)), there...)
		refused()
		h.stopped()
	}
}

// TestRefusedCutsNothing: what is there of a call that is not whole stays, whatever is refused.
func TestRefusedCutsNothing(t *testing.T) {
	h := newHand(t)
	h.adds(some()...)
	h.Crash(len(records(some()...)) - 3)
	last := record(some()[4])
	tail := last[:len(last)-3]
	safe := len(records(some()...)) - 3
	for _, c := range wrong() {
		h.refuses(c.call, c.e)
		h.has(safe, tail, some()[:4]...)
	}
	h.Fail(0)
	h.lost()
	h.has(safe, tail, some()[:4]...)
	h.stopped()
	h.has(safe, tail, some()[:4]...)
	h.Crash(0)
	h.has(safe, tail, some()[:4]...)
}

// TestSync: nothing there, all safe, some not, and what does not belong to a whole one.
func TestSync(t *testing.T) {
	h := newHand(t)
	h.syncs()
	h.has(0, nil)
	for i, c := range some() {
		h.adds(c)
		h.has(len(records(some()[:i]...)), nil, some()[:i+1]...)
		for range 2 {
			h.syncs()
			h.has(len(records(some()[:i+1]...)), nil, some()[:i+1]...)
		}
	}
	all := len(records(some()...))
	h.adds(some()...)
	h.has(all, nil, append(some(), some()...)...)
	h.syncs()
	h.has(2*all, nil, append(some(), some()...)...)
	h.Fail(0)
	h.stops(call(20, 1))
	h.has(2*all, half(call(20, 1)), append(some(), some()...)...)
	h.Crash(4)
	h.has(2*all+4, half(call(20, 1))[:4], append(some(), some()...)...)
	h.syncs()
	h.has(2*all+4, half(call(20, 1))[:4], append(some(), some()...)...)
}

// TestStopAtAppend: half its bytes, rounded down, are there, and are not safe.
func TestStopAtAppend(t *testing.T) {
	for many := 7; many < 140; many++ {
		if many == 65 {
			// The next longer length has two bytes, so that none comes to just so many.
			continue
		}
		for _, safe := range []bool{true, false} {
			h := newHand(t)
			h.adds(some()...)
			want := 0
			if safe {
				h.syncs()
				want = len(records(some()...))
			}
			h.Fail(0)
			h.stops(call(many, 6))
			h.has(want, record(call(many, 6))[:many/2], some()...)
			h.stopped()
			h.refuses(call(many, 6), api.ErrLost)
			h.has(want, record(call(many, 6))[:many/2], some()...)
		}
	}
	for _, c := range append(some(), call(6000, 1), call(5999, 1), api.Call{What: 1, Name: strings.Repeat("m", 100), Bytes: make(octets, api.MaxBytes)}) {
		h := newHand(t)
		h.Fail(0)
		h.stops(c)
		h.has(0, half(c))
		h.stopped()
	}
}

// TestStopAtSync: nothing is done.
func TestStopAtSync(t *testing.T) {
	h := newHand(t)
	h.Fail(0)
	h.lost()
	h.has(0, nil)
	h.stopped()
	h = newHand(t)
	h.adds(some()[:2]...)
	h.syncs()
	h.adds(some()[2:]...)
	safe := len(records(some()[:2]...))
	h.Fail(0)
	h.lost()
	h.has(safe, nil, some()...)
	h.stopped()
	h.has(safe, nil, some()...)
	h.Crash(0)
	h.has(safe, nil, some()[:2]...)
	h.going()
}

// TestFail: so many steps, of either kind, are done ahead of the one that stops.
func TestFail(t *testing.T) {
	for n := range 6 {
		for mix := range 1 << (n + 1) {
			h := newHand(t)
			h.adds(least())
			h.Fail(n)
			there, safe := calls{least()}, 0
			for i := range n {
				if mix>>i&1 == 0 {
					h.syncs()
					safe = len(records(there...))
				} else {
					h.adds(call(30, i))
					there = append(there, call(30, i))
				}
				h.has(safe, nil, there...)
			}
			var tail octets
			if mix>>n&1 == 0 {
				h.lost()
			} else {
				h.stops(call(31, n))
				tail = record(call(31, n))[:15]
			}
			h.has(safe, tail, there...)
			for range 3 {
				h.stopped()
			}
			h.has(safe, tail, there...)
		}
	}
}

// TestNoFail: below 0, and so many steps that they do not come.
func TestNoFail(t *testing.T) {
	for _, n := range []int{-1, -2, -1 << 32, lowest, 1 << 32, 1<<32 + 1, highest, latest} {
		h := newHand(t)
		h.Fail(n)
		for range 50 {
			h.adds(least())
			h.syncs()
		}
		h.has(350, nil, slices.Repeat(calls{least()}, 50)...)
	}
}

// TestFailAgain: a new one takes the place of the one ahead.
func TestFailAgain(t *testing.T) {
	for _, l := range [][]int{{0, 1}, {1, 0}, {0, 0}, {0, 3}, {3, 0}, {5, 2}, {2, 5}, {-1, 2}, {0, -1, 1}, {0, 0, lowest, 4}, {highest, 0}, {0, highest, 3}} {
		h := newHand(t)
		for _, n := range l {
			h.Fail(n)
		}
		last := l[len(l)-1]
		for range last {
			h.adds(least())
		}
		h.lost()
		h.stopped()
		h.has(0, nil, slices.Repeat(calls{least()}, last)...)
	}
	for _, l := range [][]int{{0, -1}, {3, lowest}, {0, 1, -2}} {
		h := newHand(t)
		for _, n := range l {
			h.Fail(n)
		}
		h.going()
	}
	// From now, and not from where the one ahead was said.
	h := newHand(t)
	h.Fail(3)
	h.syncs()
	h.syncs()
	h.Fail(2)
	h.syncs()
	h.adds(least())
	h.lost()
	h.stopped()
	h = newHand(t)
	h.Fail(2)
	h.syncs()
	h.Fail(-1)
	h.going()
}

// TestFailBehindAStop: it has stopped, whatever is said then, till a Crash, which forgets that.
func TestFailBehindAStop(t *testing.T) {
	for _, n := range []int{-1, 0, 1, 2, lowest, highest} {
		h := newHand(t)
		h.adds(some()...)
		h.Fail(0)
		h.stops(least())
		h.Fail(n)
		for range 4 {
			h.stopped()
		}
		h.has(0, octets{12, 2, 0}, some()...)
		h.Crash(highest)
		h.going()
		h.has(len(records(some()...))+3, octets{12, 2, 0}, some()...)
	}
}

// TestFailIsForgotten: by a Crash, whether it has stopped or not.
func TestFailIsForgotten(t *testing.T) {
	for n := range 5 {
		h := newHand(t)
		h.Fail(n)
		if n > 0 {
			h.adds(least())
		}
		h.Crash(highest)
		h.going()
		h.adds(least())
		h.going()
		h.Fail(n)
		for range n {
			h.syncs()
		}
		h.lost()
		h.stopped()
		h.Crash(-1)
		h.going()
	}
}

// TestAskingIsNoStep: neither Calls, Bytes, Safe, Shelf nor Fail counts.
func TestAskingIsNoStep(t *testing.T) {
	h := newHand(t)
	h.adds(some()...)
	h.Fail(1)
	for range 5 {
		h.has(0, nil, some()...)
	}
	h.syncs()
	safe := len(records(some()...))
	for range 5 {
		h.has(safe, nil, some()...)
	}
	h.lost()
	for range 5 {
		h.has(safe, nil, some()...)
	}
	h.stopped()
}

// left gives what a Crash leaves of calls, if so many bytes of theirs are left: whole calls, and bytes behind these.
func left(l calls, many int) (calls, octets) {
	for i, c := range l {
		b := record(c)
		if many < len(b) {
			return l[:i], b[:many]
		}
		many -= len(b)
	}
	return l, nil
}

// TestCrash: at each byte, behind each call that is safe, with a stop and without one.
func TestCrash(t *testing.T) {
	all := len(records(some()...))
	for safe := range 6 {
		first := len(records(some()[:safe]...))
		for keep := -2; keep <= all-first+2; keep++ {
			for _, stop := range []bool{false, true} {
				h := newHand(t)
				h.adds(some()[:safe]...)
				h.syncs()
				h.adds(some()[safe:]...)
				h.Fail(3)
				if stop {
					h.Fail(0)
					h.lost()
				}
				h.Crash(keep)
				many := min(first+max(keep, 0), all)
				l, tail := left(some(), many)
				h.has(many, tail, l...)
				h.going()
				h.has(many, tail, l...)
				// What is left is safe, and not lost by another one.
				h.Crash(-1)
				h.has(many, tail, l...)
				h.Crash(highest)
				h.has(many, tail, l...)
			}
		}
	}
}

// TestCrashByHand: of three calls of 7, 8 and 9 bytes, the first safe.
func TestCrashByHand(t *testing.T) {
	seven, eight, nine := call(7, 1), call(8, 2), call(9, 3)
	for _, c := range []struct {
		keep, safe int
		whole      calls
		tail       octets
	}{
		{lowest, 7, calls{seven}, nil},
		{-1, 7, calls{seven}, nil},
		{0, 7, calls{seven}, nil},
		{1, 8, calls{seven}, octets{14}},
		{7, 14, calls{seven}, octets{14, 6, 4, 4, 4, 4, 0}},
		{8, 15, calls{seven, eight}, nil},
		{9, 16, calls{seven, eight}, octets{16}},
		{16, 23, calls{seven, eight}, octets{16, 8, 6, 6, 6, 6, 0, 3}},
		{17, 24, calls{seven, eight, nine}, nil},
		{18, 24, calls{seven, eight, nine}, nil},
		{1 << 32, 24, calls{seven, eight, nine}, nil},
		{highest - 6, 24, calls{seven, eight, nine}, nil},
		{highest, 24, calls{seven, eight, nine}, nil},
	} {
		h := newHand(t)
		h.adds(seven)
		h.syncs()
		h.adds(eight, nine)
		h.Crash(c.keep)
		h.has(c.safe, c.tail, c.whole...)
	}
}

// TestCrashBehindAStop: of the half that is there as much is kept as is said.
func TestCrashBehindAStop(t *testing.T) {
	for _, c := range []api.Call{call(7, 1), call(8, 1), call(40, 1), call(71, 1), call(301, 1)} {
		for _, ahead := range []calls{nil, some()} {
			for _, safe := range []bool{true, false} {
				for keep := -1; keep <= len(record(c)); keep++ {
					h := newHand(t)
					h.adds(ahead...)
					all, is := len(records(ahead...)), 0
					if safe {
						h.syncs()
						is = all
					}
					h.Fail(0)
					h.stops(c)
					h.Crash(keep)
					many := min(is+max(keep, 0), all+len(half(c)))
					l, tail := left(append(slices.Clone(ahead), c), many)
					h.has(many, tail, l...)
					h.adds(least())
					h.has(len(records(l...))-max(len(records(l...))-many, 0), nil, append(slices.Clone(l), least())...)
				}
			}
		}
	}
}

// TestCrashOfNothing: all is safe, or nothing is there.
func TestCrashOfNothing(t *testing.T) {
	for _, keep := range []int{lowest, -1, 0, 1, 100, highest} {
		h := newHand(t)
		h.Crash(keep)
		h.has(0, nil)
		h.adds(some()...)
		h.syncs()
		h.Crash(keep)
		h.has(len(records(some()...)), nil, some()...)
		h.Fail(0)
		h.lost()
		h.Crash(keep)
		h.has(len(records(some()...)), nil, some()...)
		h.going()
		h.adds(least())
		h.has(len(records(some()...)), nil, append(some(), least())...)
	}
}

// TestLooksWhole: what is left of a call has bytes that would be whole calls if they stood for themselves.
func TestLooksWhole(t *testing.T) {
	inner := records(some()...)
	for _, c := range []api.Call{
		{What: api.Upload, Bytes: inner},
		{What: api.Upload, Bytes: slices.Repeat(octets{0}, 200)},
		{What: api.Upload, Bytes: slices.Repeat(record(least()), 30)},
		{What: api.Upload, Name: strings.Repeat(string(record(least())), 14)},
		{What: api.Try, Session: 6, Name: string(record(least())), Bytes: inner},
		// Each field of it is a length, and as many bytes stand behind.
		{What: 4, Session: 3, Seq: 2, Number: 1, Share: 0, Bytes: inner},
	} {
		b := record(c)
		for keep := range len(b) + 1 {
			h := newHand(t)
			h.adds(least())
			h.syncs()
			h.adds(c)
			h.Crash(keep)
			if keep == len(b) {
				h.has(7+keep, nil, least(), c)
				continue
			}
			h.has(7+keep, b[:keep], least())
			h.syncs()
			h.has(7+keep, b[:keep], least())
		}
		// Of one that stops as well: the half ends just behind an inner one, or within.
		for more := range 20 {
			c.Bytes = append(slices.Clone(c.Bytes), make(octets, more)...)
			h := newHand(t)
			h.Fail(0)
			h.stops(c)
			h.has(0, half(c))
			h.Crash(highest)
			h.has(len(half(c)), half(c))
		}
	}
}

// TestWholeInWhole: a call that has calls as its Bytes, or as its Name, is one.
func TestWholeInWhole(t *testing.T) {
	h := newHand(t)
	outer := api.Call{What: api.Upload, Name: string(record(least())), Bytes: records(some()...)}
	h.adds(outer, least(), outer)
	h.has(0, nil, outer, least(), outer)
	h.Crash(highest)
	h.has(2*len(record(outer))+7, nil, outer, least(), outer)
}

// TestAppendCutsOff: behind a Crash that cut a call off, at each byte, what does not belong to a whole one is gone ahead of the next.
func TestAppendCutsOff(t *testing.T) {
	all := len(records(some()...))
	for keep := range all + 1 {
		l, tail := left(some(), keep)
		whole := keep - len(tail)
		next := call(20+keep%3, 9)
		torn := func() *hand {
			h := newHand(t)
			h.adds(some()...)
			h.Crash(keep)
			h.has(keep, tail, l...)
			return h
		}
		with := append(slices.Clone(l), next)

		h := torn()
		h.adds(next)
		h.has(whole, nil, with...)
		h.adds(least())
		h.has(whole, nil, append(with, least())...)
		h.syncs()
		h.has(whole+len(record(next))+7, nil, append(with, least())...)

		// Lost again: it is the whole ones that are safe, and not what was cut off.
		h = torn()
		h.adds(next)
		h.Crash(0)
		h.has(whole, nil, l...)

		h = torn()
		h.adds(next)
		h.Crash(4)
		h.has(whole+4, record(next)[:4], l...)

		h = torn()
		h.Fail(0)
		h.stops(next)
		h.has(whole, half(next), l...)
		h.stopped()
		h.has(whole, half(next), l...)
		h.Crash(5)
		h.has(whole+5, half(next)[:5], l...)
		h.adds(next)
		h.has(whole, nil, with...)

		// A Sync does not cut, also if it stops.
		h = torn()
		h.syncs()
		h.has(keep, tail, l...)
		h.Fail(0)
		h.lost()
		h.has(keep, tail, l...)
		// Nor does an Append behind that: it is none that comes to be a step.
		h.refuses(next, api.ErrLost)
		h.has(keep, tail, l...)
	}
}

// TestAppendAsShortAsWhatIsCut: nothing of what was cut off is seen behind what takes its place.
func TestAppendAsShortAsWhatIsCut(t *testing.T) {
	h := newHand(t)
	h.adds(call(300, 1), call(400, 2))
	h.Crash(600)
	h.has(600, record(call(400, 2))[:300], call(300, 1))
	h.adds(least())
	h.has(300, nil, call(300, 1), least())
	h.Fail(0)
	h.stops(least())
	h.has(300, octets{12, 2, 0}, call(300, 1), least())
	h.Crash(highest)
	h.has(310, octets{12, 2, 0}, call(300, 1), least())
	h.Fail(0)
	h.stops(call(400, 2))
	h.has(307, half(call(400, 2)), call(300, 1), least())
}

// TestSafeIsNotLost: whatever stops and crashes, the calls that a Sync was behind are there.
func TestSafeIsNotLost(t *testing.T) {
	var s noise = 11
	for range 300 {
		h := newHand(t)
		var there calls
		for i := range 20 {
			h.Fail(s.below(4))
			c := call(7+s.below(50), i)
			if h.Append(c) == nil && h.Sync() == nil {
				there = append(there, c)
			} else {
				h.Crash(-s.below(3))
			}
		}
		h.Crash(-1)
		if len(there) < 3 {
			t.Fatalf("only %d calls were synced", len(there))
		}
		for _, c := range h.Calls() {
			if len(there) > 0 && same(c, there[0]) {
				there = there[1:]
			}
		}
		if len(there) > 0 {
			t.Fatalf("lost: %s", shorts(there))
		}
	}
}

// TestShelf: it has done all calls, also such as it refuses, and is a new one each time.
func TestShelf(t *testing.T) {
	h := newHand(t)
	if s := h.Shelf(); s.Index() != 0 || len(s.All()) != 0 {
		t.Errorf("Shelf of nothing has %d, %v", s.Index(), s.All())
	}
	all := calls{
		{What: api.Upload, Session: 1, Seq: 1, Name: "m", Bytes: written(4)},
		{What: api.Upload, Session: 1, Seq: 0, Name: "m", Bytes: written(5)},                            // a Shelf has no such Seq
		{What: api.Upload, Session: 1, Seq: 1, Name: "m", Bytes: written(6)},                            // answered as it was
		{What: api.Upload, Session: 1, Seq: 2, Name: "M", Bytes: written(7)},                            // no name there
		{What: api.Upload, Session: 1, Seq: 2, Name: "", Bytes: written(7)},                             // nor here
		{What: api.Upload, Session: 1, Seq: 2, Name: "thirteenslett", Bytes: written(7)},                // nor here
		{What: api.Upload, Session: 1, Seq: 3, Name: "m", Bytes: octets{1, 2}},                          // counts, with an error
		{What: api.Upload, Session: 1, Seq: 2, Name: "m", Bytes: written(8)},                            // too late
		{What: api.Upload, Session: 2, Seq: latest, Name: "m", Bytes: written(9)},                       // another session
		{What: api.Try, Session: 1, Seq: 4, Name: "m", Number: 2, Share: 100},                           // counts, with an error
		{What: api.Try, Session: 1, Seq: 5, Name: "m", Number: 2, Share: 99, Bytes: octets{3}},          //
		{What: api.Promote, Session: 0, Seq: 1, Name: "m", Number: 1, Share: latest},                    //
		{What: api.Retire, Session: latest, Seq: 1, Name: "m", Number: latest},                          // counts, with an error
		{What: api.Upload, Session: 3, Seq: 1, Name: "pear", Bytes: make(octets, api.MaxBytes)},         // counts, with an error
		{What: api.Upload, Session: 3, Seq: 2, Name: "pear", Bytes: written(-1), Number: 3, Share: 700}, //
	}
	h.adds(all...)
	s := h.Shelf()
	if s.Index() != 9 {
		t.Errorf("Index = %d, want 9", s.Index())
	}
	want := []api.Version{{Name: "m", Number: 1, Stage: api.Live}, {Name: "m", Number: 2, Stage: api.Canary, Share: 99}, {Name: "pear", Number: 1, Stage: api.Draft}}
	if l := s.All(); !slices.Equal(l, want) {
		t.Errorf("All = %v, want %v", l, want)
	}
	if g, err := s.Grove("m", 2); err != nil || g.Trees[0][0].Value != 9 {
		t.Errorf("Grove = %v, %v", g, err)
	}
	// The sessions' last calls are there too.
	for _, c := range []struct {
		call api.Call
		want api.Answer
		e    api.Errno
	}{
		{api.Call{What: api.Upload, Session: 3, Seq: 2, Name: "m"}, api.Answer{Number: 1, Index: 9}, none},
		{api.Call{What: api.Retire, Session: latest, Seq: 1, Name: "m"}, api.Answer{}, api.ErrNone},
		{api.Call{What: api.Retire, Session: 1, Seq: 4, Name: "m", Number: 1}, api.Answer{}, api.ErrState},
		{api.Call{What: api.Retire, Session: 4, Seq: 1, Name: "m", Number: 1}, api.Answer{Index: 10}, none},
	} {
		if a, err := s.Do(c.call); a != c.want || told(err) != c.e {
			t.Errorf("Do of %s = %v, %v, want %v, %v", short(c.call), a, err, c.want, c.e)
		}
	}
	// What is done by one of them is not done by the log, nor by another.
	h.has(0, nil, all...)
	if other := h.Shelf(); other == s || other.Index() != 9 || s.Index() != 10 {
		t.Errorf("Index of another Shelf is %d, and of the first %d", other.Index(), s.Index())
	}
	h.adds(api.Call{What: api.Retire, Session: 4, Seq: 1, Name: "m", Number: 2})
	if s.Index() != 10 || !slices.Equal(s.All()[1:], want[1:]) {
		t.Errorf("a Shelf that was made has %d, %v", s.Index(), s.All())
	}
	if s := h.Shelf(); s.Index() != 10 || s.All()[1].Stage != api.Gone || s.All()[0].Stage != api.Live {
		t.Errorf("a new Shelf has %d, %v", s.Index(), s.All())
	}
}

// TestShelfBehindACrash: it is that of the calls that are left.
func TestShelfBehindACrash(t *testing.T) {
	h := newHand(t)
	l := calls{
		{What: api.Upload, Seq: 1, Name: "m", Bytes: written(4)},
		{What: api.Promote, Seq: 2, Name: "m", Number: 1},
		{What: api.Upload, Seq: 3, Name: "m", Bytes: written(5)},
	}
	h.adds(l[:1]...)
	h.syncs()
	h.adds(l[1:]...)
	h.Crash(len(record(l[1])) + 5)
	if s := h.Shelf(); s.Index() != 2 || len(s.All()) != 1 || s.All()[0].Stage != api.Live {
		t.Errorf("it has %d, %v", s.Index(), s.All())
	}
	h.Fail(0)
	h.stops(l[2])
	h.Crash(-1)
	if s := h.Shelf(); s.Index() != 2 || len(s.All()) != 1 {
		t.Errorf("it has %d, %v", s.Index(), s.All())
	}
	h.adds(l[2])
	if s := h.Shelf(); s.Index() != 3 || len(s.All()) != 2 {
		t.Errorf("it has %d, %v", s.Index(), s.All())
	}
}

// TestSideBySide: of two logs neither tells of the other.
func TestSideBySide(t *testing.T) {
	a, b := newHand(t), newHand(t)
	a.adds(some()...)
	b.has(0, nil)
	a.Fail(0)
	b.going()
	b.adds(least(), call(30, 3))
	a.has(0, nil, some()...)
	b.syncs()
	a.lost()
	a.has(0, nil, some()...)
	b.adds(call(40, 4))
	b.has(37, nil, least(), call(30, 3), call(40, 4))
	b.Fail(1)
	b.Crash(10)
	a.stopped()
	a.has(0, nil, some()...)
	a.Crash(8)
	b.has(47, record(call(40, 4))[:10], least(), call(30, 3))
	a.going()
	b.going()
	full := filled(room)
	c := newHand(t)
	c.adds(full...)
	c.refuses(least(), api.ErrFull)
	a.adds(least())
	c.has(0, nil, full...)
}

// TestHandedIn: what was handed in is as it was, what lies behind it is neither read nor written, and changing it afterwards changes nothing.
func TestHandedIn(t *testing.T) {
	for _, many := range []int{0, 1, 20, 6000} {
		memory := append(slices.Repeat(octets{9}, many), slices.Repeat(octets{0xee}, 30)...)
		text := octets("a model of models, and more")
		ahead, said := slices.Clone(memory), string(text)
		c := api.Call{What: api.Upload, Seq: 1, Name: unsafe.String(&text[2], 5), Bytes: memory[:many]}
		want := api.Call{What: api.Upload, Seq: 1, Name: "model", Bytes: slices.Repeat(octets{9}, many)}
		h := newHand(t)
		h.adds(c)
		h.refuses(api.Call{What: 9, Name: c.Name, Bytes: c.Bytes}, api.ErrRange)
		h.refuses(api.Call{What: 1, Bytes: memory[:many:many], Name: strings.Repeat("m", 101)}, api.ErrFull)
		h.Fail(0)
		h.stops(c)
		h.refuses(c, api.ErrLost)
		if !slices.Equal(memory, ahead) || string(text) != said || c.Name != "model" || len(c.Bytes) != many {
			t.Errorf("what was handed in is %s, %q, and was %s, %q", begin(memory), text, begin(ahead), said)
		}
		for i := range memory {
			memory[i] = 0x55
		}
		for i := range text {
			text[i] = 'z'
		}
		h.has(0, half(want), want)
		h.Crash(highest)
		h.adds(want)
		h.has(len(record(want)), nil, want, want)
	}
}

// TestRoomBehindBytes: a call with Bytes that have much room behind them leaves that as it was.
func TestRoomBehindBytes(t *testing.T) {
	memory := make(octets, 200)
	h := newHand(t)
	for i := range 10 {
		h.adds(api.Call{What: api.Try, Bytes: memory[:i:200]})
	}
	if slices.Max(memory) > 0 {
		t.Errorf("what was handed in is %v", memory)
	}
}

// scribble writes over all memory of calls.
func scribble(l calls) {
	for _, c := range l[:cap(l)] {
		scrawl(c.Bytes)
	}
	for i := range l[:cap(l)] {
		l[:cap(l)][i] = api.Call{What: 77, Session: 77, Seq: 77, Name: "zz", Number: 77, Share: 77, Bytes: octets{77}}
	}
}

// scrawl writes over all memory of bytes.
func scrawl(b octets) {
	for i := range b[:cap(b)] {
		b[:cap(b)][i] = 77
	}
}

// TestHandedOut: changing what came changes nothing of the log, nor of what came beside it.
func TestHandedOut(t *testing.T) {
	h := newHand(t)
	h.adds(some()...)
	h.syncs()
	h.Fail(0)
	h.stops(call(50, 1))
	h.Crash(20)
	all, tail := len(records(some()...)), record(call(50, 1))[:20]
	first, second := h.Calls(), h.Calls()
	b, other := h.Bytes(), h.Bytes()
	scribble(first)
	scrawl(b)
	if !slices.EqualFunc(second, some(), same) {
		t.Errorf("what came is %s, as another list was written into", shorts(second))
	}
	if !slices.Equal(other, append(records(some()...), tail...)) {
		t.Errorf("what came is %s, as another list was written into", begin(other))
	}
	h.has(all+20, tail, some()...)

	for i := range some() {
		c, _ := h.Call(i)
		other, _ := h.Call(i)
		scrawl(c.Bytes)
		if !same(other, some()[i]) {
			t.Errorf("call %d is %s, as another was written into", i, short(other))
		}
	}
	h.has(all+20, tail, some()...)

	// No two lists of one answer share any memory.
	for i := range second {
		scrawl(second[i].Bytes)
		for j, c := range second {
			if want := some()[j]; j > i && !same(c, want) {
				t.Errorf("call %d is %s, as the Bytes of call %d were written into", j, short(c), i)
			}
		}
	}
	h.has(all+20, tail, some()...)
}

// TestHandedOutStays: what came is not changed by what is done afterwards.
func TestHandedOutStays(t *testing.T) {
	h := newHand(t)
	h.adds(some()...)
	l, b, s := h.Calls(), h.Bytes(), h.Shelf()
	stood := stand(s)
	h.Crash(-1)
	for range 20 {
		h.adds(api.Call{What: api.Retire, Session: 5, Seq: 5, Name: "zzzzzz", Number: 5, Share: 5, Bytes: slices.Repeat(octets{5}, 80)})
	}
	if !slices.EqualFunc(l, some(), same) {
		t.Errorf("what came is %s, as the log went on", shorts(l))
	}
	if !slices.Equal(b, records(some()...)) {
		t.Errorf("what came is %s, as the log went on", begin(b))
	}
	if is := stand(s); is != stood {
		t.Errorf("what came stands\n%s, and stood\n%s", is, stood)
	}
}

// TestCallsBack: what Calls gives may be Appended to another log, which is then the same.
func TestCallsBack(t *testing.T) {
	h, other := newHand(t), newHand(t)
	l := filled(room)
	h.adds(l...)
	other.adds(h.Calls()...)
	other.has(0, nil, l...)
	h = newHand(t)
	h.adds(some()...)
	h.adds(h.Calls()...)
	h.has(0, nil, append(some(), some()...)...)
}

// shadow tells a second time what a log is: the whole calls, the bytes behind these, and at which step it stops.
type shadow struct {
	whole      calls
	tail       octets
	safe       int
	steps, end int // end 0: there is no stop
	stopped    bool
}

// wrong tells what is wrong with a call; OK, if it comes to be a step.
func (m *shadow) wrong(c api.Call) api.Errno {
	for _, n := range []int{c.Session, c.Seq, c.Number, c.Share, (c.What - 1) * (latest / 3)} {
		if min(max(n, 0), latest) != n {
			return api.ErrRange
		}
	}
	if len(c.Name) > 100 || len(c.Bytes) > 6000 || len(records(append(slices.Clone(m.whole), c)...)) > room {
		return api.ErrFull
	}
	if m.stopped {
		return api.ErrLost
	}
	return none
}

// stops counts a step.
func (m *shadow) stops() bool {
	m.steps++
	m.stopped = m.stopped || m.steps == m.end
	return m.stopped
}

func (m *shadow) append(c api.Call) api.Errno {
	if e := m.wrong(c); e != none {
		return e
	}
	m.tail, m.safe = nil, min(m.safe, len(records(m.whole...)))
	if m.stops() {
		m.tail = half(c)
		return api.ErrLost
	}
	m.whole = append(slices.Clone(m.whole), c)
	return none
}

func (m *shadow) sync() api.Errno {
	if m.stops() {
		return api.ErrLost
	}
	m.safe = len(records(m.whole...)) + len(m.tail)
	return none
}

func (m *shadow) fail(n int) {
	m.end = 0
	if n >= 0 {
		m.end = m.steps + n + 1
	}
}

func (m *shadow) crash(keep int) {
	all := append(records(m.whole...), m.tail...)
	unsafe := all[m.safe:]
	all = append(all[:m.safe:m.safe], unsafe[:min(max(keep, 0), len(unsafe))]...)
	l, tail := left(m.whole, len(all))
	if tail == nil {
		tail = all[len(records(l...)):]
	}
	*m = shadow{whole: l, tail: tail, safe: len(all)}
}

// holds a log to the shadow.
func (m *shadow) holds(h *hand) {
	h.Helper()
	h.has(m.safe, m.tail, m.whole...)
}

// call that is mostly right.
func (s *noise) call() api.Call {
	c := api.Call{What: 1 + s.below(4), Session: s.below(3), Seq: s.below(6), Number: s.below(4), Share: s.pick(0, 1, 50, 99, 100, latest)}
	c.Name = []string{"m", "n", "pear", "", "M", strings.Repeat("\xff", 100)}[s.below(6)]
	switch s.below(4) {
	case 0:
		c.Bytes = written(s.below(100))
	case 1:
		c.Bytes = slices.Repeat(octets{byte(s.below(256))}, s.below(200))
	case 2:
		c.Bytes = record(least())
	}
	switch s.below(25) {
	case 0:
		c.What = s.pick(0, 5)
	case 1:
		c.Seq = s.pick(-1, latest, latest+1)
	case 2:
		c.Number = s.pick(-1, latest, latest+1)
	case 3:
		c.Name = strings.Repeat("m", s.pick(100, 101))
	case 4:
		c.Bytes = make(octets, s.pick(6000, 6001, 5999))
	}
	return c
}

// do one thing with a log and its shadow, and tell which, and what came.
func (s *noise) do(h *hand, m *shadow) string {
	switch s.below(9) {
	case 0, 1:
		e := m.sync()
		if err := h.Sync(); told(err) != e {
			h.Errorf("Sync = %v, want %v", err, e)
		}
		return "Sync " + e.Error()
	case 2:
		n := s.pick(-1, 0, 1, 2, 3, 4, 5, lowest)
		h.Fail(n)
		m.fail(n)
		return "Fail"
	case 3:
		keep := s.pick(-1, 0, 1, 2, s.below(200), s.below(200), s.below(500), highest)
		h.Crash(keep)
		m.crash(keep)
		return "Crash"
	}
	c := s.call()
	e := m.append(c)
	if err := h.Append(c); told(err) != e {
		h.Errorf("Append of %s = %v, want %v", short(c), err, e)
	}
	return "Append " + e.Error()
}

// TestAgainstShadow: many things of all kinds, one behind the other, each held to a second telling.
func TestAgainstShadow(t *testing.T) {
	var s noise = 3
	seen := map[string]int{}
	for range 300 {
		h, m := newHand(t), &shadow{}
		var did []string
		for range 60 {
			was := s.do(h, m)
			did = append(did, was)
			seen[was]++
			if len(m.tail) > 0 {
				seen[was+" torn"]++
			}
			m.holds(h)
			if t.Failed() {
				t.Fatalf("behind %v", did)
			}
		}
	}
	for _, key := range []string{"Append OK", "Append ErrRange", "Append ErrFull", "Append ErrLost", "Sync OK", "Sync ErrLost", "Append ErrLost torn", "Append ErrRange torn", "Append ErrFull torn", "Sync OK torn", "Sync ErrLost torn", "Crash", "Crash torn", "Fail torn"} {
		if seen[key] < 50 {
			t.Errorf("only %d are such: %s; of %v", seen[key], key, seen)
		}
	}
}

// TestFullAgainstShadow: the same with calls so long that there is often no room for another.
func TestFullAgainstShadow(t *testing.T) {
	var s noise = 8
	full := 0
	for range 4 {
		h, m := newHand(t), &shadow{}
		for i := range 150 {
			if i%5 == 0 {
				s.do(h, m)
			}
			c := call(s.pick(6000, 5000, 4000, 1000, 100, 7), i)
			e := m.append(c)
			if err := h.Append(c); told(err) != e {
				t.Fatalf("Append of %s = %v, want %v", short(c), err, e)
			}
			if e == api.ErrFull {
				full++
			}
			m.holds(h)
			if t.Failed() {
				t.FailNow()
			}
		}
	}
	if full < 20 {
		t.Errorf("only %d had no room", full)
	}
}

// TestSameAgain: the same things done tell the same, whatever was done with other logs between.
func TestSameAgain(t *testing.T) {
	ask := func(s noise) string {
		h, m := newHand(t), &shadow{}
		out := ""
		for range 100 {
			out += fmt.Sprintln(s.do(h, m), shorts(h.Calls()), h.Bytes(), h.Safe(), stand(h.Shelf()))
		}
		return out
	}
	first := ask(5)
	ask(6)
	ask(7)
	if ask(5) != first {
		t.Errorf("the same things tell other things")
	}
}

// TestLongLife: a log that is lost again and again is at last as it was at first.
func TestLongLife(t *testing.T) {
	h := newHand(t)
	l := filled(room - 3000)
	h.adds(l...)
	h.syncs()
	for i := range 20000 {
		c := call(7+i%50, i)
		h.adds(c)
		h.Fail(i % 3)
		h.Append(c)
		h.Append(c)
		h.Crash(6)
		if n := h.Safe(); n != room-3000+6 {
			t.Fatalf("Safe = %d behind %d crashes", n, i+1)
		}
	}
	h.adds(call(3000, 1))
	h.has(room-3000, nil, append(l, call(3000, 1))...)
}

// FuzzLog: things done, and calls of any fields.
func FuzzLog(f *testing.F) {
	f.Add(octets{0, 1, 1, 1, 1, 1, 1, 0, 2, 2, 1, 1, 3, 4, 6, 0, 0, 0, 0, 0})
	f.Add(octets{5, 0, 0, 0, 0, 0, 1, 7, 0, 9, 9, 9, 7, 0, 0, 0, 0, 0, 2, 7, 0, 9, 9, 9})
	f.Add(octets{4, 200, 200, 200, 200, 200, 7, 90, 0, 0, 0, 0, 4, 200, 0, 200, 0, 200})
	f.Fuzz(func(t *testing.T, all []byte) {
		h, m := newHand(t), &shadow{}
		for b := range slices.Chunk(all[:min(len(all), 240)], 6) {
			b = append(b[:len(b):len(b)], make(octets, 6-len(b))...)
			n := int(b[1])
			switch b[0] % 8 {
			case 5:
				h.Fail(n%8 - 1)
				m.fail(n%8 - 1)
			case 6:
				if err, e := h.Sync(), m.sync(); told(err) != e {
					t.Errorf("Sync = %v, want %v", err, e)
				}
			case 7:
				h.Crash(n - 1)
				m.crash(n - 1)
			default:
				c := api.Call{What: int(b[0] % 16 % 6), Session: int(b[2]) << (b[3] % 16), Seq: n, Number: int(int8(b[4])), Share: int(b[5]), Name: strings.Repeat(string(b[1:2]), int(b[4])%110), Bytes: slices.Repeat(b[2:5], int(b[5])*int(b[1])/32)}
				if err, e := h.Append(c), m.append(c); told(err) != e {
					t.Errorf("Append of %s = %v, want %v", short(c), err, e)
				}
			}
			m.holds(h)
		}
	})
}
