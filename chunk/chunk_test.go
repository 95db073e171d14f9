package chunk_test

import (
	"bytes"
	"errors"
	"fmt"
	"math"
	"math/big"
	"slices"
	"testing"

	"orchardry/api"
	"orchardry/chunk"
	"orchardry/code"
)

const (
	full    = api.MaxBytes
	lastSum = 1000002
	lowest  = math.MinInt
	highest = math.MaxInt
)

// none stands for an error that is nil.
const none = api.OK

// told gives what an error tells; -1, if it is none of the program's, or OK, which no error may be.
func told(err error) api.Errno {
	var e api.Errno
	switch {
	case err == nil:
		return none
	case errors.As(err, &e) && e != api.OK:
		return e
	}
	return -1
}

// octets are bytes that are handed in or come out.
type octets = []byte

// parts of a manifest.
type parts = []api.Part

// noise: numbers that look as if they had no order, the same ones each time.
type noise uint64

func (s *noise) below(n int) int {
	*s = *s*6364136223846793005 + 1442695040888963407
	return int(uint64(*s) >> 33 % uint64(n))
}

func (s *noise) pick(l ...int) int { return l[s.below(len(l))] }

// octets gives so many, many of them at an end.
func (s *noise) octets(count int) octets {
	b := make(octets, count)
	for i := range b {
		b[i] = byte(s.pick(0, 255, s.below(256), s.below(256)))
	}
	return b
}

// order of so many places.
func (s *noise) order(count int) []int {
	l := upTo(count)
	for i := range l {
		j := i + s.below(count-i)
		l[i], l[j] = l[j], l[i]
	}
	return l
}

// upTo gives the numbers from 0 on.
func upTo(count int) []int {
	l := make([]int, count)
	for i := range l {
		l[i] = i
	}
	return l
}

// with another thing at a place.
func with[T any](l []T, place int, x T) []T {
	l = slices.Clone(l)
	l[place] = x
	return l
}

// plainSum is Sum in one go: 7 by 31 as often as there are bytes, and each byte and 1 by 31 as often as there are bytes behind it; only then is what is left over 1000003 taken.
func plainSum(b octets) int {
	all := new(big.Int).Exp(big.NewInt(31), big.NewInt(int64(len(b))), nil)
	all.Mul(all, big.NewInt(7))
	power := big.NewInt(1)
	for _, c := range slices.Backward(b) {
		all.Add(all, new(big.Int).Mul(power, big.NewInt(int64(c)+1)))
		power.Mul(power, big.NewInt(31))
	}
	return int(all.Mod(all, big.NewInt(1000003)).Int64())
}

// backSum is plainSum for more bytes than that has time for: from the last byte to the first.
func backSum(b octets) int {
	all, power := 0, 1
	for _, c := range slices.Backward(b) {
		all = (all + power*(int(c)+1)) % 1000003
		power = power * 31 % 1000003
	}
	return (all + 7*power) % 1000003
}

// cutUp gives the pieces of which each has so many bytes, but the last.
func cutUp(b octets, size int) []octets {
	var l []octets
	for at := 0; at < len(b); at += size {
		l = append(l, slices.Clone(b[at:min(at+size, len(b))]))
	}
	return l
}

// partsOf gives of each piece its Size and Sum.
func partsOf(pieces []octets) parts {
	var l parts
	for _, p := range pieces {
		l = append(l, part(len(p), plainSum(p)))
	}
	return l
}

// part has a Size and a Sum.
func part(size, sum int) api.Part { return api.Part{Size: size, Sum: sum} }

// sized gives parts of these sizes.
func sized(sizes ...int) parts {
	var l parts
	for _, n := range sizes {
		l = append(l, part(n, 5))
	}
	return l
}

// many gives so many parts of one size.
func many(count, size int) parts { return sized(slices.Repeat([]int{size}, count)...) }

// wantSum holds Sum to a number.
func wantSum(t *testing.T, b octets, want int) {
	t.Helper()
	if got := chunk.Sum(b); got != want {
		t.Errorf("Sum of %d bytes %v.. = %d, want %d", len(b), b[:min(len(b), 9)], got, want)
	}
}

// wantPlan holds Plan to parts, or to an error.
func wantPlan(t *testing.T, b octets, size int, want parts, e api.Errno) {
	t.Helper()
	l, err := chunk.Plan(b, size)
	if told(err) != e || !slices.Equal(l, want) {
		t.Errorf("Plan of %d bytes in pieces of %d = %v, %v, want %v, %v", len(b), size, l, err, want, e)
	}
	if err != nil && l != nil {
		t.Errorf("Plan of %d bytes in pieces of %d has an error, and a list", len(b), size)
	}
}

// TestSumByHand: few bytes, added up by hand.
func TestSumByHand(t *testing.T) {
	for _, c := range []struct {
		b    octets
		want int
	}{
		{nil, 7},
		{octets{}, 7},
		{octets{0}, 31*7 + 1},
		{octets{1}, 31*7 + 2},
		{octets{127}, 31*7 + 128},
		{octets{128}, 31*7 + 129},
		{octets{254}, 31*7 + 255},
		{octets{255}, 31*7 + 256},
		{octets{0, 0}, 31*218 + 1},
		{octets{0, 255}, 31*218 + 256},
		{octets{255, 0}, 31*473 + 1},
		{octets{255, 255}, 31*473 + 256},
		{octets{0, 0, 0}, 209530},
		{octets{255, 255, 255}, 462745},
		// The first that comes beyond 1000003: 6495431.
		{octets{0, 0, 0, 0}, 495413},
		{octets{255, 255, 255, 255}, 14345351 - 14*1000003},
		// 31 times 225799 is 6999769, and 7 times 1000003 is 7000021.
		{octets{9, 238, 242, 250}, lastSum},
		{octets{9, 238, 242, 251}, 0},
		{octets{9, 238, 242, 252}, 1},
		// From 0 on it goes on.
		{octets{9, 238, 242, 251, 0}, 1},
		{octets{9, 238, 242, 251, 255}, 256},
		{octets{9, 238, 242, 250, 255}, (31*lastSum + 256) % 1000003},
		{octets("orchardry"), plainSum(octets("orchardry"))},
	} {
		wantSum(t, c.b, c.want)
	}
}

// TestSumInOneGo: all bytes, all pairs of some, and many, held to what is taken over 1000003 only at last.
func TestSumInOneGo(t *testing.T) {
	some := octets{0, 1, 30, 31, 32, 127, 128, 254, 255}
	for a := range 256 {
		wantSum(t, octets{byte(a)}, plainSum(octets{byte(a)}))
		for _, c := range some {
			wantSum(t, octets{byte(a), c}, plainSum(octets{byte(a), c}))
			wantSum(t, octets{c, 255, byte(a), 0}, plainSum(octets{c, 255, byte(a), 0}))
		}
	}
	var s noise = 1
	for count := range 400 {
		b := s.octets(count)
		wantSum(t, b, plainSum(b))
		wantSum(t, b, backSum(b))
	}
	for _, count := range []int{full - 1, full, full + 1, 20000} {
		b := s.octets(count)
		wantSum(t, b, plainSum(b))
		wantSum(t, bytes.Repeat(octets{0}, count), plainSum(bytes.Repeat(octets{0}, count)))
		wantSum(t, bytes.Repeat(octets{255}, count), plainSum(bytes.Repeat(octets{255}, count)))
	}
}

// TestSumOfManyBytes: so many that it comes beyond 1000003 millions of times; they have no end of their own.
func TestSumOfManyBytes(t *testing.T) {
	var s noise = 2
	for _, count := range []int{100000, 1000002, 1000003, 4000000} {
		for _, b := range []octets{s.octets(count), make(octets, count), bytes.Repeat(octets{255}, count)} {
			wantSum(t, b, backSum(b))
		}
	}
}

// TestSumHangsOnOrder: turned round, with a byte of 0 ahead or behind, or without one, it is another one.
func TestSumHangsOnOrder(t *testing.T) {
	b := octets{1, 2, 3}
	is := chunk.Sum(b)
	for _, other := range []octets{{3, 2, 1}, {2, 1, 3}, {0, 1, 2, 3}, {1, 2, 3, 0}, {1, 2}, {2, 3}, {1, 2, 4}, {0, 2, 3}} {
		if chunk.Sum(other) == is {
			t.Errorf("Sum of %v and of %v are both %d", b, other, is)
		}
	}
}

// TestPlanByHand: pieces whose Size and Sum are told by hand.
func TestPlanByHand(t *testing.T) {
	for _, c := range []struct {
		b    octets
		size int
		want parts
	}{
		{octets{0}, 1, parts{part(1, 218)}},
		{octets{255}, full, parts{part(1, 473)}},
		{octets{0, 255}, 1, parts{part(1, 218), part(1, 473)}},
		{octets{0, 255}, 2, parts{part(2, 31*218+256)}},
		{octets{0, 255}, 3, parts{part(2, 31*218+256)}},
		{octets{0, 255}, full, parts{part(2, 31*218+256)}},
		{octets{255, 0, 0}, 2, parts{part(2, 31*473+1), part(1, 218)}},
		{octets{255, 0, 0, 0}, 2, parts{part(2, 31*473+1), part(2, 6759)}},
		{octets{0, 0, 0, 255, 255, 255, 0}, 3, parts{part(3, 209530), part(3, 462745), part(1, 218)}},
		{octets{9, 238, 242, 251, 9, 238, 242, 250, 9}, 4, parts{part(4, 0), part(4, lastSum), part(1, 227)}},
	} {
		wantPlan(t, c.b, c.size, c.want, none)
	}
}

// TestPlanOfNone: no bytes have no piece, but a size that is wrong stays wrong.
func TestPlanOfNone(t *testing.T) {
	for _, b := range []octets{nil, {}} {
		for _, size := range []int{1, 2, 59, 60, full - 1, full} {
			wantPlan(t, b, size, nil, none)
		}
		for _, size := range []int{0, -1, full + 1, lowest, highest, -full, 1 << 32, 1<<32 + 1} {
			wantPlan(t, b, size, nil, api.ErrRange)
		}
	}
}

// TestPlanEnds: bytes and sizes at both ends of what they may be, one beyond, and both wrong.
func TestPlanEnds(t *testing.T) {
	var s noise = 3
	b := s.octets(full + 1000)
	for _, c := range []struct {
		count, size int
		pieces      int
		want        api.Errno
	}{
		{1, 1, 1, none},
		{1, 0, 0, api.ErrRange},
		{1, -1, 0, api.ErrRange},
		{1, full, 1, none},
		{1, full + 1, 0, api.ErrRange},
		{1, lowest, 0, api.ErrRange},
		{1, highest, 0, api.ErrRange},
		{99, 1, 99, none},
		{100, 1, 100, none},
		{101, 1, 0, api.ErrFull},
		{101, 2, 51, none},
		{101, 0, 0, api.ErrRange},
		{101, full + 1, 0, api.ErrRange},
		{199, 2, 100, none},
		{200, 2, 100, none},
		{201, 2, 0, api.ErrFull},
		{5899, 59, 100, none},
		{5900, 59, 100, none},
		{5901, 59, 0, api.ErrFull},
		{full - 1, 60, 100, none},
		{full - 1, 0, 0, api.ErrRange},
		{full - 1, full, 1, none},
		{full - 1, full - 1, 1, none},
		{full, 1, 0, api.ErrFull},
		{full, 59, 0, api.ErrFull},
		{full, 60, 100, none},
		{full, 61, 99, none},
		{full, full / 2, 2, none},
		{full, full - 1, 2, none},
		{full, full, 1, none},
		{full, full + 1, 0, api.ErrRange},
		{full, 0, 0, api.ErrRange},
		{full, -1, 0, api.ErrRange},
		{full, lowest, 0, api.ErrRange},
		{full, highest, 0, api.ErrRange},
		{full + 1, 1, 0, api.ErrFull},
		{full + 1, 61, 0, api.ErrFull},
		{full + 1, full, 0, api.ErrFull},
		{full + 1, full + 1, 0, api.ErrFull},
		{full + 1, 0, 0, api.ErrFull},
		{full + 1, -1, 0, api.ErrFull},
		{full + 1, lowest, 0, api.ErrFull},
		{full + 1, highest, 0, api.ErrFull},
		{full + 1000, 0, 0, api.ErrFull},
		{full + 1000, 100, 0, api.ErrFull},
	} {
		var want parts
		if c.want == none {
			want = partsOf(cutUp(b[:c.count], c.size))
		}
		if len(want) != c.pieces {
			t.Fatalf("%d bytes have %d pieces of %d, told %d", c.count, len(want), c.size, c.pieces)
		}
		wantPlan(t, b[:c.count], c.size, want, c.want)
	}
}

// TestPlanOfMillions: bytes far beyond what may be are told so.
func TestPlanOfMillions(t *testing.T) {
	b := make(octets, 3000000)
	for _, size := range []int{0, 1, full, full + 1} {
		wantPlan(t, b, size, nil, api.ErrFull)
	}
}

// TestPlanOfAllSizes: all counts and sizes up to some, whether the one is a multiple of the other or not; what comes is always right by Check.
func TestPlanOfAllSizes(t *testing.T) {
	var s noise = 4
	b := s.octets(230)
	for count := range len(b) {
		for size := 1; size <= len(b)+1; size++ {
			pieces := cutUp(b[:count], size)
			if len(pieces) > 100 {
				wantPlan(t, b[:count], size, nil, api.ErrFull)
				continue
			}
			l, err := chunk.Plan(b[:count], size)
			if err != nil || len(l) != len(pieces) {
				t.Fatalf("Plan of %d bytes in pieces of %d = %v, %v", count, size, l, err)
			}
			for i, p := range l {
				if p != (part(len(pieces[i]), backSum(pieces[i]))) {
					t.Fatalf("piece %d of %d bytes in pieces of %d is %v", i, count, size, p)
				}
			}
			if err := chunk.Check(l); err != nil {
				t.Fatalf("Check of what Plan gave of %d bytes in pieces of %d: %v", count, size, err)
			}
		}
	}
}

// ill is a list of parts, and what Check tells of it.
type ill struct {
	name string
	l    parts
	want api.Errno
}

// ills are lists with something wrong, and some with several things.
func ills() []ill {
	hundred := many(100, 1)
	over := many(101, 1)
	list := []ill{
		{"101 parts", over, api.ErrFull},
		{"1000 parts", many(1000, 1), api.ErrFull},
		{"101 parts, all zero", make(parts, 101), api.ErrFull},
		{"101 parts, the first with Size 0", with(over, 0, part(0, 5)), api.ErrFull},
		{"101 parts, the last with Sum -1", with(over, 100, part(1, -1)), api.ErrFull},
		{"101 parts of full size", many(101, full), api.ErrFull},
		{"one that is zero", parts{{}}, api.ErrRange},
		{"100 parts, all zero", make(parts, 100), api.ErrRange},
		{"100 parts of full size, the last with Sum beyond", with(many(100, full), 99, part(1, 1000003)), api.ErrRange},
		{"100 parts of full size, the first with Size 0", with(many(100, full), 0, part(0, 5)), api.ErrRange},
		{"too much in all ahead of a Size beyond", append(sized(full, full), part(full+1, 5)), api.ErrRange},
		{"too much in all ahead of a Sum below", append(sized(full, full), part(1, -1)), api.ErrRange},
		{"two of the greatest Size, which come round to -2", sized(highest, highest), api.ErrRange},
		{"sizes that come to just full, one below 1", sized(full, 1, -1), api.ErrRange},
		{"sizes that come to just full, one beyond", sized(full+1, -1), api.ErrRange},
		{"one more than full", sized(full, 1), api.ErrFull},
		{"one more than full, the other way round", sized(1, full), api.ErrFull},
		{"one more than full, in three", sized(2000, 2000, 2001), api.ErrFull},
		{"one more than full, in a hundred", with(many(100, 60), 50, part(61, 5)), api.ErrFull},
		{"one more than full, as the last has one more", with(many(100, 60), 99, part(61, 5)), api.ErrFull},
		{"100 parts of full size", many(100, full), api.ErrFull},
	}
	for _, p := range []api.Part{part(0, 5), part(-1, 5), part(full+1, 5), part(lowest, 5), part(highest, 5), part(1<<32, 5), part(1<<32+1, 5), part(1, -1), part(1, 1000003), part(1, 1000004), part(1, lowest), part(1, highest), part(full, -1), part(0, -1), part(full+1, 1000003)} {
		for _, place := range []int{0, 1, 50, 99} {
			list = append(list, ill{fmt.Sprint("100 parts, at ", place, " ", p), with(hundred, place, p), api.ErrRange})
		}
		list = append(list, ill{fmt.Sprint("only ", p), parts{p}, api.ErrRange})
	}
	return list
}

// rights are lists with nothing wrong.
func rights() []parts {
	return []parts{
		nil,
		{},
		{part(1, 0)},
		{part(1, lastSum)},
		{part(full, 0)},
		{part(full, lastSum)},
		{part(1, 0), part(1, lastSum), part(1, 7)},
		sized(full-1, 1),
		sized(1, full-1),
		sized(2000, 2000, 2000),
		many(99, 60),
		many(100, 1),
		many(100, 60),
		with(with(many(100, 60), 0, api.Part{Size: 59}), 99, part(61, lastSum)),
		with(many(100, 1), 42, api.Part{Size: full - 99}),
	}
}

// TestCheck: lists with something wrong, with several things, and with nothing.
func TestCheck(t *testing.T) {
	for _, c := range ills() {
		if err := chunk.Check(c.l); told(err) != c.want {
			t.Errorf("%s: Check = %v, want %v", c.name, err, c.want)
		}
	}
	for _, l := range rights() {
		if err := chunk.Check(l); err != nil {
			t.Errorf("Check of %d parts %v = %v", len(l), l, err)
		}
	}
}

// plainCheck tells what is wrong with parts, each thing gone over by itself.
func plainCheck(l parts) api.Errno {
	switch {
	case len(l) > 100:
		return api.ErrFull
	case slices.ContainsFunc(l, func(p api.Part) bool { return p.Size < 1 || 6000 < p.Size || p.Sum < 0 || 1000002 < p.Sum }):
		return api.ErrRange
	}
	all := new(big.Int)
	for _, p := range l {
		all.Add(all, big.NewInt(int64(p.Size)))
	}
	if all.Cmp(big.NewInt(6000)) > 0 {
		return api.ErrFull
	}
	return none
}

// TestCheckAgainstPlain: lists with numbers near all ends; New tells the same of each.
func TestCheckAgainstPlain(t *testing.T) {
	var s noise = 5
	seen := map[api.Errno]int{}
	for range 20000 {
		l := make(parts, s.pick(0, 1, 2, 3, 4, 99, 100, 101))
		near := s.pick(1, 59, 1000, 1999, 2999, 5998)
		for i := range l {
			l[i] = part(near+s.below(3), s.pick(0, 1, 7, lastSum-1, lastSum))
		}
		if len(l) > 0 && s.below(3) == 0 {
			l[s.below(len(l))] = part(s.pick(-1, 0, 1, 2, full-1, full, full+1), s.pick(-1, 0, lastSum, lastSum+1))
		}
		want := plainCheck(l)
		seen[want]++
		if err := chunk.Check(l); told(err) != want {
			t.Fatalf("Check of %v = %v, want %v", l, err, want)
		}
		if f, err := chunk.New(l); told(err) != want || (f == nil) != (want != none) {
			t.Fatalf("New of %v = %v, %v, want %v", l, f, err, want)
		}
	}
	for _, e := range []api.Errno{none, api.ErrRange, api.ErrFull} {
		if seen[e] < 500 {
			t.Errorf("only %d come to %v", seen[e], e)
		}
	}
}

// TestNew: each error of Check, and no Fetch with one.
func TestNew(t *testing.T) {
	for _, c := range ills() {
		if f, err := chunk.New(c.l); told(err) != c.want || f != nil {
			t.Errorf("%s: New = %v, %v, want %v", c.name, f, err, c.want)
		}
	}
	for _, l := range rights() {
		f := made(t, l)
		wantLacks(t, f, upTo(len(l)))
		if len(l) > 0 {
			wantLacking(t, f)
		} else {
			wantBytes(t, f, nil)
		}
	}
}

// made gives a Fetch of parts that are right.
func made(t *testing.T, l parts) *chunk.Fetch {
	t.Helper()
	f, err := chunk.New(l)
	if err != nil || f == nil {
		t.Fatalf("New of %v = %v, %v", l, f, err)
	}
	return f
}

// planned gives bytes in pieces, and a Fetch of their parts.
func planned(t *testing.T, b octets, size int) ([]octets, *chunk.Fetch) {
	t.Helper()
	l, err := chunk.Plan(b, size)
	if err != nil {
		t.Fatalf("Plan of %d bytes in pieces of %d: %v", len(b), size, err)
	}
	return cutUp(b, size), made(t, l)
}

// wantPut holds Put to an answer.
func wantPut(t *testing.T, f *chunk.Fetch, i int, b octets, want bool, e api.Errno) {
	t.Helper()
	if is, err := f.Put(i, b); is != want || told(err) != e {
		t.Errorf("Put of %d bytes %v.. at %d = %v, %v, want %v, %v", len(b), b[:min(len(b), 9)], i, is, err, want, e)
	}
}

// wantLacks holds Lacks to places.
func wantLacks(t *testing.T, f *chunk.Fetch, want []int) {
	t.Helper()
	if l := f.Lacks(); !slices.Equal(l, want) {
		t.Errorf("Lacks = %v, want %v", l, want)
	}
}

// wantLacking holds Bytes to that one lacks.
func wantLacking(t *testing.T, f *chunk.Fetch) {
	t.Helper()
	if b, err := f.Bytes(); told(err) != api.ErrNone || b != nil {
		t.Errorf("Bytes = %v, %v, want ErrNone", b, err)
	}
}

// wantBytes holds Bytes to what is put together; nothing lacks then.
func wantBytes(t *testing.T, f *chunk.Fetch, want octets) {
	t.Helper()
	wantLacks(t, f, nil)
	if b, err := f.Bytes(); err != nil || !bytes.Equal(b, want) {
		t.Errorf("Bytes = %v, %v, want %v", b, err, want)
	}
}

// wantStand holds Lacks and Bytes to what is there and what lacks.
func wantStand(t *testing.T, f *chunk.Fetch, b octets, lacks []int) {
	t.Helper()
	if len(lacks) == 0 {
		wantBytes(t, f, b)
		return
	}
	wantLacks(t, f, lacks)
	wantLacking(t, f)
}

// TestOrders: pieces in order, turned round and mixed, each once, and with some twice.
func TestOrders(t *testing.T) {
	var s noise = 6
	for _, c := range []struct{ count, size int }{{1, 1}, {2, 1}, {7, 2}, {8, 2}, {30, 7}, {100, 1}, {full, 60}, {full - 1, 60}, {full, full}, {full, full - 1}} {
		b := s.octets(c.count)
		turned := upTo(len(cutUp(b, c.size)))
		slices.Reverse(turned)
		for _, order := range [][]int{upTo(len(turned)), turned, s.order(len(turned)), s.order(len(turned))} {
			checkOrder(t, b, c.size, order, false)
			checkOrder(t, b, c.size, order, true)
		}
	}
}

// checkOrder puts pieces in an order, each once, or each twice and all once more.
func checkOrder(t *testing.T, b octets, size int, order []int, twice bool) {
	t.Helper()
	pieces, f := planned(t, b, size)
	left := upTo(len(order))
	wantStand(t, f, b, left)
	for _, i := range order {
		wantPut(t, f, i, pieces[i], true, none)
		left = slices.DeleteFunc(left, func(j int) bool { return j == i })
		wantStand(t, f, b, left)
		if twice {
			wantPut(t, f, i, pieces[i], false, none)
			wantPut(t, f, order[0], pieces[order[0]], false, none)
			wantStand(t, f, b, left)
		}
	}
	for i := range order {
		wantPut(t, f, i, pieces[i], false, none)
	}
	wantBytes(t, f, b)
	wantBytes(t, f, b)
}

// TestNoParts: of no parts nothing lacks at first, and there is no place to put anything.
func TestNoParts(t *testing.T) {
	for _, l := range []parts{nil, {}} {
		f := made(t, l)
		wantBytes(t, f, nil)
		for _, i := range []int{0, 1, -1, lowest, highest} {
			wantPut(t, f, i, nil, false, api.ErrRange)
			wantPut(t, f, i, octets{1}, false, api.ErrRange)
		}
		wantBytes(t, f, nil)
	}
}

// TestPlaces: places at both ends, and one and many beyond each; what is put there has no part in it.
func TestPlaces(t *testing.T) {
	b := octets{1, 2, 3, 4, 5}
	pieces, f := planned(t, b, 2)
	beyond := func(lacks []int) {
		t.Helper()
		for _, i := range []int{-1, 3, -2, -3, 4, 100, -100, lowest, highest, 1 << 32, -1 << 32, 1<<32 + 1} {
			for _, p := range append(slices.Clone(pieces), nil, octets{}, octets{9}, b, make(octets, full+1)) {
				wantPut(t, f, i, p, false, api.ErrRange)
			}
		}
		wantStand(t, f, b, lacks)
	}
	beyond([]int{0, 1, 2})
	wantPut(t, f, 0, pieces[0], true, none)
	beyond([]int{1, 2})
	wantPut(t, f, 2, pieces[2], true, none)
	beyond([]int{1})
	wantPut(t, f, 1, pieces[1], true, none)
	beyond(nil)
}

// others gives bytes that are not a piece: of another size, or of that size with one byte another one.
func others(p octets) []octets {
	list := []octets{nil, {}, p[:len(p)-1], p[1:], append(slices.Clone(p), 0), append(slices.Clone(p), 255), append(octets{0}, p...), slices.Concat(p, p), make(octets, full), make(octets, full+1)}
	for i, c := range p {
		for _, other := range []byte{c + 1, c - 1, c + 128, ^c} {
			list = append(list, with(p, i, other))
		}
	}
	return list
}

// TestShape: bytes that are another piece, ahead of the right one and behind it; what is there stays, and what lacks does.
func TestShape(t *testing.T) {
	var s noise = 7
	for _, size := range []int{1, 2, 5, 13} {
		b := s.octets(4*size - size/2)
		pieces, f := planned(t, b, size)
		left := upTo(len(pieces))
		for _, i := range s.order(len(pieces)) {
			for _, p := range others(pieces[i]) {
				wantPut(t, f, i, p, false, api.ErrShape)
			}
			wantStand(t, f, b, left)
			wantPut(t, f, i, pieces[i], true, none)
			left = slices.DeleteFunc(left, func(j int) bool { return j == i })
			for _, p := range others(pieces[i]) {
				wantPut(t, f, i, p, false, api.ErrShape)
			}
			wantStand(t, f, b, left)
			wantPut(t, f, i, pieces[i], false, none)
		}
		wantBytes(t, f, b)
	}
}

// TestOfAnotherPlace: a piece that is right at one place is another one elsewhere, but where both are told the same.
func TestOfAnotherPlace(t *testing.T) {
	b := octets{1, 2, 3, 4, 1, 2, 5}
	pieces, f := planned(t, b, 2)
	wantPut(t, f, 1, pieces[0], false, api.ErrShape)
	wantPut(t, f, 3, pieces[0], false, api.ErrShape)
	wantPut(t, f, 0, pieces[3], false, api.ErrShape)
	wantPut(t, f, 2, pieces[0], true, none)
	wantStand(t, f, b, []int{0, 1, 3})
	wantPut(t, f, 0, pieces[2], true, none)
	wantPut(t, f, 2, pieces[2], false, none)
	wantStand(t, f, b, []int{1, 3})
	wantPut(t, f, 3, pieces[3], true, none)
	wantPut(t, f, 1, pieces[1], true, none)
	wantBytes(t, f, b)
}

// TestSizeOrSumAlone: bytes of which only the Size is right, or only the Sum.
func TestSizeOrSumAlone(t *testing.T) {
	// The Sum of both is 0.
	four, five := octets{9, 238, 242, 251}, fiveOfSum(t, 0)
	for _, c := range []struct {
		p     api.Part
		right octets
		wrong octets
	}{
		{part(4, 0), four, five},
		{part(5, 0), five, four},
		{part(4, lastSum), octets{9, 238, 242, 250}, four},
	} {
		f := made(t, parts{c.p})
		wantPut(t, f, 0, c.wrong, false, api.ErrShape)
		wantStand(t, f, nil, []int{0})
		wantPut(t, f, 0, c.right, true, none)
		wantPut(t, f, 0, c.wrong, false, api.ErrShape)
		wantBytes(t, f, c.right)
	}
}

// fiveOfSum looks for five bytes of a Sum.
func fiveOfSum(t *testing.T, sum int) octets {
	t.Helper()
	for a := range 256 {
		for b := range 256 {
			// With these two at 0, what lacks to the Sum is what they have to bring: 31 times the one, and the other.
			p := octets{0, byte(a), byte(b), 0, 0}
			left := (sum - plainSum(p) + 1000003) % 1000003
			if left/31 < 256 {
				p[3], p[4] = byte(left/31), byte(left%31)
				return p
			}
		}
	}
	t.Fatalf("no five bytes with the Sum %d", sum)
	return nil
}

// TestTwins: other bytes of the same Size and Sum are right too; the one that was there first stays.
func TestTwins(t *testing.T) {
	one, two := octets{1, 0}, octets{0, 31}
	if chunk.Sum(one) != chunk.Sum(two) {
		t.Fatalf("Sum of %v is %d, of %v %d", one, chunk.Sum(one), two, chunk.Sum(two))
	}
	for range 2 {
		one, two = two, one
		_, f := planned(t, one, 2)
		wantPut(t, f, 0, two, true, none)
		wantBytes(t, f, two)
		wantPut(t, f, 0, one, false, none)
		wantBytes(t, f, two)
		wantPut(t, f, 0, two, false, none)
		wantPut(t, f, 0, octets{1, 1}, false, api.ErrShape)
		wantBytes(t, f, two)
	}
}

// TestNobodysSum: parts that no bytes have are right, and lack for ever.
func TestNobodysSum(t *testing.T) {
	f := made(t, parts{part(1, 0), part(1, 218), part(1, lastSum)})
	for c := range 256 {
		wantPut(t, f, 0, octets{byte(c)}, false, api.ErrShape)
		wantPut(t, f, 2, octets{byte(c)}, false, api.ErrShape)
	}
	wantPut(t, f, 1, octets{0}, true, none)
	wantStand(t, f, nil, []int{0, 2})
}

// TestSideBySide: what is put into one Fetch is not in another, of the same parts or of others.
func TestSideBySide(t *testing.T) {
	b, c := octets{1, 2, 3, 4, 5}, octets{9, 8, 7}
	l, err := chunk.Plan(b, 2)
	if err != nil {
		t.Fatal(err)
	}
	pieces, first, second := cutUp(b, 2), made(t, l), made(t, l)
	elsewhere, third := planned(t, c, 2)
	wantPut(t, first, 0, pieces[0], true, none)
	wantPut(t, third, 1, elsewhere[1], true, none)
	wantStand(t, first, b, []int{1, 2})
	wantStand(t, second, b, []int{0, 1, 2})
	wantStand(t, third, c, []int{0})
	wantPut(t, second, 2, pieces[2], true, none)
	wantPut(t, second, 1, pieces[1], true, none)
	wantPut(t, second, 0, elsewhere[0], false, api.ErrShape)
	wantStand(t, first, b, []int{1, 2})
	wantPut(t, second, 0, pieces[0], true, none)
	wantPut(t, third, 0, elsewhere[0], true, none)
	wantBytes(t, second, b)
	wantBytes(t, third, c)
	wantStand(t, first, b, []int{1, 2})
	wantStand(t, made(t, l), b, []int{0, 1, 2})
}

// shadow is a Fetch as it is thought to be.
type shadow struct {
	l      parts
	pieces []octets
}

func (m *shadow) put(i int, b octets) (bool, api.Errno) {
	switch {
	case i < 0 || i >= len(m.l):
		return false, api.ErrRange
	case len(b) != m.l[i].Size || plainSum(b) != m.l[i].Sum:
		return false, api.ErrShape
	case m.pieces[i] != nil:
		return false, none
	}
	m.pieces[i] = slices.Clone(b)
	return true, none
}

func (m *shadow) lacks() []int {
	var l []int
	for i, p := range m.pieces {
		if p == nil {
			l = append(l, i)
		}
	}
	return l
}

// TestAgainstShadow: any calls, one behind the other, held to what is thought; what a call is given is written into behind it.
func TestAgainstShadow(t *testing.T) {
	var s noise = 8
	seen, ended := map[string]int{}, 0
	for range 1500 {
		size := 1 + s.below(4)
		b := s.octets(s.below(9 * size))
		pieces, f := planned(t, b, size)
		m := &shadow{partsOf(pieces), make([]octets, len(pieces))}
		for range 3 * len(pieces) {
			i := s.below(len(pieces)+2) - 1
			p := slices.Clone(pieces[s.below(len(pieces))])
			if s.below(4) > 0 && i >= 0 && i < len(pieces) {
				p = slices.Clone(pieces[i])
			}
			if s.below(6) == 0 {
				p[s.below(len(p))]++
			}
			want, e := m.put(i, p)
			wantPut(t, f, i, p, want, e)
			seen[fmt.Sprint(want, e)]++
			scribble(p, 77)
			wantStand(t, f, slices.Concat(m.pieces...), m.lacks())
		}
		if len(m.lacks()) == 0 {
			ended++
		}
	}
	for _, e := range []string{"true OK", "false OK", "false ErrRange", "false ErrShape"} {
		if seen[e] < 500 {
			t.Errorf("only %d come to %s", seen[e], e)
		}
	}
	if ended < 200 {
		t.Errorf("only %d come to an end", ended)
	}
}

// guarded gives a list with memory behind its length, and all of that memory.
func guarded[T any](l []T, behind ...T) (list, all []T) {
	all = append(slices.Clone(l), behind...)
	return all[:len(l)], all
}

// scribble writes into all the memory of a list, also behind its length.
func scribble[T any](l []T, x T) {
	for i := range l[:cap(l)] {
		l[:cap(l)][i] = x
	}
}

// TestBytesStay: Sum, Plan and Put leave what is handed in, and do not read behind it.
func TestBytesStay(t *testing.T) {
	var s noise = 9
	for _, count := range []int{0, 1, 2, 5, 60, 100, 101, full, full + 1} {
		for _, size := range []int{0, 1, 2, 60, full, full + 1} {
			plain := s.octets(count)
			b, all := guarded(plain, bytes.Repeat(octets{99}, 200)...)
			was := slices.Clone(all)
			wantSum(t, b, backSum(plain))
			want, wrong := chunk.Plan(slices.Clip(slices.Clone(plain)), size)
			wantPlan(t, b, size, want, told(wrong))
			if count > 0 && count <= full {
				f := made(t, parts{part(count, backSum(plain))})
				wantPut(t, f, 1, b, false, api.ErrRange)
				wantPut(t, f, 0, b[:count-1], false, api.ErrShape)
				wantPut(t, f, 0, all[:count+1], false, api.ErrShape)
				wantPut(t, f, 0, b, true, none)
				wantPut(t, f, 0, b, false, none)
				wantBytes(t, f, plain)
			}
			if !bytes.Equal(all, was) {
				t.Fatalf("of %d bytes, or behind them, something was written into", count)
			}
		}
	}
}

// TestPartsStay: Check and New leave what is handed in, and do not read behind it.
func TestPartsStay(t *testing.T) {
	list := ills()
	for _, l := range rights() {
		list = append(list, ill{fmt.Sprint(l), l, none})
	}
	for _, c := range list {
		l, all := guarded(c.l, parts{part(0, -1), part(full+1, 1000003), part(full, 5)}...)
		was := slices.Clone(all)
		if err := chunk.Check(l); told(err) != c.want {
			t.Errorf("%s, with memory behind: Check = %v, want %v", c.name, err, c.want)
		}
		f, err := chunk.New(l)
		if told(err) != c.want {
			t.Errorf("%s, with memory behind: New = %v, want %v", c.name, err, c.want)
		}
		if err == nil {
			f.Put(0, octets{1})
			wantLacks(t, f, upTo(len(l)))
			scribble(f.Lacks(), 5)
		}
		if !slices.Equal(all, was) {
			t.Fatalf("%s was written into", c.name)
		}
	}
}

// TestPlanIsFresh: changing parts that came changes nothing of the bytes nor of what comes next, nor the other way round.
func TestPlanIsFresh(t *testing.T) {
	var s noise = 10
	plain := s.octets(31)
	b := slices.Clone(plain)
	want := partsOf(cutUp(plain, 4))
	first, err := chunk.Plan(b, 4)
	if err != nil {
		t.Fatal(err)
	}
	second, err := chunk.Plan(b, 4)
	if err != nil {
		t.Fatal(err)
	}
	scribble(first, part(1, 2))
	if !slices.Equal(second, want) || !bytes.Equal(b, plain) {
		t.Errorf("the bytes, or their parts, changed as other parts were written into")
	}
	wantPlan(t, b, 4, want, none)
	scribble(b, 66)
	if !slices.Equal(second, want) {
		t.Errorf("parts changed as their bytes were written into")
	}
}

// TestKeepsNoParts: parts that New was given may be changed then.
func TestKeepsNoParts(t *testing.T) {
	b := octets{1, 2, 3, 4, 5}
	pieces := cutUp(b, 2)
	for _, x := range []api.Part{{}, part(1, 218), part(2, -1), part(full, full)} {
		l := append(make(parts, 0, 20), partsOf(pieces)...)
		f := made(t, l)
		scribble(l, x)
		wantStand(t, f, b, []int{0, 1, 2})
		wantPut(t, f, 1, octets{0}, false, api.ErrShape)
		for i, p := range pieces {
			wantPut(t, f, i, p, true, none)
			scribble(l, part(i, i))
		}
		wantBytes(t, f, b)
		for i, p := range l {
			if p != (part(2, 2)) {
				t.Errorf("part %d of what New was given is %v", i, p)
			}
		}
	}
}

// TestKeepsNoPiece: what was put may be changed then, also behind its length, and whether it was taken or not.
func TestKeepsNoPiece(t *testing.T) {
	b := octets{1, 2, 3, 4, 5}
	pieces, f := planned(t, b, 2)
	for i, p := range pieces {
		handed, all := guarded(p, 50, 51, 52)
		wantPut(t, f, i, handed, true, none)
		scribble(all, 60)
		again, _ := guarded(p, 53)
		wantPut(t, f, i, again, false, none)
		scribble(again, 61)
		wrong := with(p, 0, p[0]+1)
		wantPut(t, f, i, wrong, false, api.ErrShape)
		scribble(wrong, 62)
		wantStand(t, f, b, upTo(len(pieces))[i+1:])
		wantPut(t, f, i, p, false, none)
	}
	// All pieces may come of one list, written anew for each.
	_, f = planned(t, b, 2)
	one := make(octets, 2)
	for i, p := range pieces {
		copy(one, p)
		wantPut(t, f, i, one[:len(p)], true, none)
	}
	wantBytes(t, f, b)
}

// TestAnswersAreFresh: changing what Lacks and Bytes gave changes nothing of the Fetch, nor of what was given ahead.
func TestAnswersAreFresh(t *testing.T) {
	for _, size := range []int{1, 2, 5, full} {
		b := octets{1, 2, 3, 4, 5}
		pieces, f := planned(t, b, size)
		left := upTo(len(pieces))
		for i, p := range pieces {
			first, second := f.Lacks(), f.Lacks()
			scribble(first, 77)
			if !slices.Equal(second, left[i:]) {
				t.Errorf("what Lacks gave is %v, as what it gave ahead was written into", second)
			}
			wantPut(t, f, i, p, true, none)
			if !slices.Equal(second, left[i:]) {
				t.Errorf("what Lacks gave is %v, as a piece was put", second)
			}
			wantLacks(t, f, left[i+1:])
		}
		first, err := f.Bytes()
		second, wrong := f.Bytes()
		if err != nil || wrong != nil {
			t.Fatal(err, wrong)
		}
		scribble(first, 88)
		if !bytes.Equal(second, b) {
			t.Errorf("what Bytes gave is %v, as what it gave ahead was written into", second)
		}
		wantBytes(t, f, b)
		for i, p := range pieces {
			wantPut(t, f, i, p, false, none)
			if !bytes.Equal(p, cutUp(b, size)[i]) {
				t.Errorf("piece %d is %v, as what Bytes gave was written into", i, p)
			}
		}
	}
}

// TestGroveInPieces: a grove that was written, cut up, put together and read is as it was.
func TestGroveInPieces(t *testing.T) {
	g := api.Grove{Features: 2, Way: api.Mean, Weights: []int{3, 1}, Trees: [][]api.Node{
		{{Feature: 1, Cut: 5, Left: 1, Right: 2, Less: true}, {Feature: api.Leaf, Value: -7}, {Feature: api.Leaf, Value: 9}},
		{{Feature: api.Leaf, Value: 4}},
	}}
	b, err := code.Encode(g)
	if err != nil {
		t.Fatal(err)
	}
	var s noise = 11
	for size := 1; size <= len(b)+1; size++ {
		pieces, f := planned(t, b, size)
		for _, i := range s.order(len(pieces)) {
			wantPut(t, f, i, pieces[i], true, none)
		}
		all, err := f.Bytes()
		if err != nil {
			t.Fatal(err)
		}
		again, _, err := code.Decode(all)
		if err != nil || fmt.Sprint(again) != fmt.Sprint(g) {
			t.Errorf("in pieces of %d it is %v, %v, want %v", size, again, err, g)
		}
	}
}

// TestSameAgain: the same answers come whatever was asked between.
func TestSameAgain(t *testing.T) {
	ask := func(b octets, size int) string {
		l, err := chunk.Plan(b, size)
		f, bad := chunk.New(l)
		out := fmt.Sprintln(chunk.Sum(b), l, told(err), told(chunk.Check(l)), told(bad))
		for i, p := range cutUp(b, max(size, 1)) {
			is, err := f.Put(i, p)
			out += fmt.Sprintln(is, told(err), f.Lacks())
		}
		all, err := f.Bytes()
		return out + fmt.Sprintln(all, told(err))
	}
	b := octets("trees that ask")
	first := ask(b, 3)
	ask(nil, 1)
	ask(make(octets, full+1), 5)
	ask(b, 0)
	ask(b, 4)
	if again := ask(b, 3); again != first {
		t.Errorf("it tells %s, and %s ahead", again, first)
	}
}

// FuzzFetch: any bytes, in pieces of any size, put in any order.
func FuzzFetch(f *testing.F) {
	f.Add(octets{}, 1, octets{})
	f.Add(octets{0, 255, 0}, 2, octets{1, 0})
	f.Add(make(octets, 101), 1, octets{0})
	f.Fuzz(func(t *testing.T, b []byte, size int, order []byte) {
		l, err := chunk.Plan(b, size)
		if err != nil {
			return
		}
		pieces, f := cutUp(b, size), made(t, l)
		m := &shadow{partsOf(pieces), make([]octets, len(pieces))}
		for _, at := range order {
			i := int(at) - 1
			p := slices.Concat(pieces[min(max(i, 0), len(pieces)):min(max(i, 0)+1, len(pieces))]...)
			want, e := m.put(i, p)
			wantPut(t, f, i, p, want, e)
			wantStand(t, f, slices.Concat(m.pieces...), m.lacks())
		}
	})
}
