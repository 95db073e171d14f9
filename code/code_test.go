package code_test

import (
	"bytes"
	"errors"
	"fmt"
	"math"
	"math/big"
	"slices"
	"testing"

	"orchardry/api"
	"orchardry/code"
	"orchardry/grove"
)

const (
	end     = api.MaxCell
	full    = api.MaxBytes
	lowest  = math.MinInt
	highest = math.MaxInt
)

// none stands for an error that is nil.
const none = api.OK

// told gives what an error tells; -1, if it is none of the program's, or OK, which no error may be.
func told(err error) api.Errno {
	var e api.Errno
	switch {
	case err == nil:
		return none
	case errors.As(err, &e) && e != api.OK:
		return e
	}
	return -1
}

// octets are bytes that are handed in or come out.
type octets = []byte

// with another thing at a place.
func with[T any](l []T, place int, x T) []T {
	l = slices.Clone(l)
	l[place] = x
	return l
}

// nodes of a tree.
type nodes = []api.Node

// leaf that says a value.
func leaf(value int) api.Node { return api.Node{Feature: api.Leaf, Value: value} }

// ask whether a feature is below a cut; what is not there goes to Right.
func ask(feature, cut, left, right int) api.Node {
	return api.Node{Feature: feature, Cut: cut, Left: left, Right: right}
}

// says is a tree that says one value of every row.
func says(value int) nodes { return nodes{leaf(value)} }

// behind gives nodes that stand so many places further back.
func behind(n nodes, by int) nodes {
	n = slices.Clone(n)
	for i := range n {
		if n[i].Feature != api.Leaf {
			n[i].Left += by
			n[i].Right += by
		}
	}
	return n
}

// fork asks ahead of two trees; what is not there goes to Right.
func fork(feature, cut int, left, right nodes) nodes {
	return slices.Concat(nodes{ask(feature, cut, 1, 1+len(left))}, behind(left, 1), behind(right, 1+len(left)))
}

// forkLess is fork, but what is not there goes to Left.
func forkLess(feature, cut int, left, right nodes) nodes {
	n := fork(feature, cut, left, right)
	n[0].Less = true
	return n
}

// small has one question.
func small(feature, cut, left, right int) nodes { return fork(feature, cut, says(left), says(right)) }

// even has below place i those at 2i+1 and 2i+2.
func even(count int) nodes {
	t := make(nodes, count)
	for i := range t {
		if 2*i+2 < count {
			t[i] = ask(i%8, i-20, 2*i+1, 2*i+2)
		} else {
			t[i] = leaf(i)
		}
	}
	return t
}

// longestTree has as many nodes as may be, with Cuts and Values of as many bytes as may be.
func longestTree() nodes {
	t := even(63)
	for i := range t {
		if t[i].Feature == api.Leaf {
			t[i].Value = end - 2*end*(i%2)
		} else {
			t[i].Cut, t[i].Less = end-2*end*(i%2), i%3 > 0
		}
	}
	return t
}

// chain is as deep as it is told.
func chain(deep int) nodes {
	var t nodes
	for level := range deep {
		t = append(t, ask(0, level, len(t)+1, len(t)+2), leaf(level))
	}
	return append(t, leaf(100))
}

// ones are Weights of 1.
func ones(count int) []int { return slices.Repeat([]int{1}, count) }

// wood is a grove.
func wood(features, way int, weights []int, trees ...nodes) api.Grove {
	return api.Grove{Features: features, Way: way, Weights: weights, Trees: trees}
}

// three has three trees and three features.
func three(way int) api.Grove {
	return wood(3, way, []int{2, 300, 4}, small(0, 0, 5, -7), forkLess(1, 2000, says(-7), small(2, 1, 11, 5)), forkLess(2, -1, says(40), says(-30)))
}

// greatest is a grove that has more bytes than any other that is right.
func greatest() api.Grove {
	return wood(8, api.Vote, slices.Repeat([]int{1000}, 12), slices.Repeat([]nodes{longestTree()}, 12)...)
}

// copied gives a grove that shares nothing with another.
func copied(g api.Grove) api.Grove {
	g.Weights, g.Trees = slices.Clone(g.Weights), slices.Clone(g.Trees)
	for i := range g.Trees {
		g.Trees[i] = slices.Clone(g.Trees[i])
	}
	return g
}

// changed gives a grove that is otherwise, and leaves the other one as it is.
func changed(g api.Grove, change func(g *api.Grove)) api.Grove {
	g = copied(g)
	change(&g)
	return g
}

// same tells whether groves are the same; an empty list and nil are.
func same(a, b api.Grove) bool {
	return a.Features == b.Features && a.Way == b.Way && slices.Equal(a.Weights, b.Weights) && slices.EqualFunc(a.Trees, b.Trees, slices.Equal[nodes])
}

// isNothing tells whether a grove has nothing at all.
func isNothing(g api.Grove) bool { return same(g, api.Grove{}) }

func ways() []int { return []int{api.Sum, api.Mean, api.Vote} }

// noise: numbers that look as if they had no order, the same ones each time.
type noise uint64

func (s *noise) below(n int) int {
	*s = *s*6364136223846793005 + 1442695040888963407
	return int(uint64(*s) >> 33 % uint64(n))
}

// pick one of some numbers.
func (s *noise) pick(l ...int) int { return l[s.below(len(l))] }

// number of any size, all sizes about as often.
func (s *noise) number() int {
	n := uint64(s.below(1<<31))<<33 ^ uint64(s.below(1<<31))<<16 ^ uint64(s.below(1<<31))
	return int(n) >> s.below(64)
}

// cell that a Cut or a Value may be.
func (s *noise) cell() int {
	return s.pick(-end, -end+1, -8193, -8192, -65, -64, -1, 0, 1, 63, 64, 8191, 8192, end-1, end, s.below(2*end+1)-end)
}

// tree of at most so many questions that is right.
func (s *noise) tree(questions, features, deep int) nodes {
	if questions == 0 || features == 0 || deep == 0 {
		return says(s.cell())
	}
	left := s.below(questions)
	n := fork(s.below(features), s.cell(), s.tree(left, features, deep-1), s.tree(questions-1-left, features, deep-1))
	n[0].Less = s.below(2) == 0
	return n
}

// grove that is right.
func (s *noise) grove(trees, questions int) api.Grove {
	g := api.Grove{Features: s.below(9), Way: 1 + s.below(3)}
	for range trees {
		g.Weights = append(g.Weights, s.pick(1, 63, 64, 999, 1000, 1+s.below(1000)))
		g.Trees = append(g.Trees, s.tree(s.below(questions+1), g.Features, 10))
	}
	return g
}

func TestNumbers(t *testing.T) {
	if api.MaxRow != 8 || api.MaxNodes != 63 || api.MaxTrees != 12 || api.MaxWeight != 1000 || api.MaxCell != 1000000 || api.MaxBytes != 6000 || api.Leaf != -1 {
		t.Errorf("MaxRow is %d, MaxNodes %d, MaxTrees %d, MaxWeight %d, MaxCell %d, MaxBytes %d, Leaf %d", api.MaxRow, api.MaxNodes, api.MaxTrees, api.MaxWeight, api.MaxCell, api.MaxBytes, api.Leaf)
	}
}

// plainNum works a number's bytes out by numbers that have no end.
func plainNum(n int) octets {
	x := new(big.Int).Mul(big.NewInt(int64(n)), big.NewInt(2))
	if n < 0 {
		x.Neg(x).Sub(x, big.NewInt(1))
	}
	var b octets
	for x.Cmp(big.NewInt(128)) >= 0 {
		low := new(big.Int)
		x.DivMod(x, big.NewInt(128), low)
		b = append(b, byte(low.Int64()+128))
	}
	return append(b, byte(x.Int64()))
}

// plainGet holds the bytes, one more each time, against what a number may be.
func plainGet(b octets) (n, used int, e api.Errno) {
	all, times := new(big.Int), big.NewInt(1)
	for i, c := range b {
		all.Add(all, new(big.Int).Mul(times, big.NewInt(int64(c)%128)))
		times.Lsh(times, 7)
		goesOn := c >= 128
		switch {
		case all.BitLen() > 64, goesOn && i == 9:
			return 0, 0, api.ErrSyntax
		case goesOn:
		case i > 0 && c == 0:
			return 0, 0, api.ErrSyntax
		default:
			if all.Bit(0) == 1 {
				all.Neg(all).Sub(all, big.NewInt(1))
			}
			return int(all.Div(all, big.NewInt(2)).Int64()), i + 1, none
		}
	}
	return 0, 0, api.ErrShort
}

// example is a number, and its bytes by hand.
type example struct {
	n int
	b octets
}

func examples() []example {
	return []example{
		{0, octets{0}},
		{-1, octets{1}},
		{1, octets{2}},
		{-2, octets{3}},
		{2, octets{4}},
		{63, octets{126}},
		{-64, octets{127}},
		{64, octets{128, 1}},
		{-65, octets{129, 1}},
		{100, octets{200, 1}},
		{-100, octets{199, 1}},
		{128, octets{128, 2}},
		{8191, octets{254, 127}},
		{-8192, octets{255, 127}},
		{8192, octets{128, 128, 1}},
		{-8193, octets{129, 128, 1}},
		{1000000, octets{128, 137, 122}},
		{-1000000, octets{255, 136, 122}},
		{1 << 20, octets{128, 128, 128, 1}},
		{1<<40 + 1, octets{130, 128, 128, 128, 128, 64}},
		{1<<62 - 1, octets{254, 255, 255, 255, 255, 255, 255, 255, 127}},
		{-1 << 62, octets{255, 255, 255, 255, 255, 255, 255, 255, 127}},
		{1 << 62, octets{128, 128, 128, 128, 128, 128, 128, 128, 128, 1}},
		{-1<<62 - 1, octets{129, 128, 128, 128, 128, 128, 128, 128, 128, 1}},
		{highest, octets{254, 255, 255, 255, 255, 255, 255, 255, 255, 1}},
		{lowest, octets{255, 255, 255, 255, 255, 255, 255, 255, 255, 1}},
	}
}

// numbers to be written and read: small ones, those around each at which one byte more is needed, both ends, and many between.
func numbers() []int {
	l := []int{lowest, lowest + 1, highest - 1, highest, api.Nil, -api.MaxNum, api.MaxNum}
	for n := -300; n <= 300; n++ {
		l = append(l, n)
	}
	for bits := range 63 {
		for by := -2; by <= 2; by++ {
			l = append(l, 1<<bits+by, -1<<bits+by)
		}
	}
	var s noise = 1
	for range 2000 {
		l = append(l, s.number())
	}
	return l
}

// checkNum holds Num behind bytes to the bytes that are wanted behind them.
func checkNum(t *testing.T, ahead octets, n int, want octets) {
	t.Helper()
	if got := code.Num(ahead, n); !bytes.Equal(got, slices.Concat(ahead, want)) {
		t.Errorf("Num(%v, %d) = %v, want %v behind", ahead, n, got, want)
	}
}

// checkGet holds Get to what is wanted.
func checkGet(t *testing.T, b octets, n, used int, want api.Errno) {
	t.Helper()
	if got, count, err := code.Get(b); got != n || count != used || told(err) != want {
		t.Errorf("Get(%v) = %d, %d, %v, want %d, %d, %v", b, got, count, err, n, used, want)
	}
}

// aheads are bytes behind which a number is written.
func aheads() []octets {
	return []octets{nil, {}, {0}, {255}, {128, 128}, {1, 2, 3, 4, 5, 6, 7, 8, 9}, bytes.Repeat(octets{200}, 7000)}
}

// behinds are bytes that stand behind a number.
func behinds() []octets {
	return []octets{nil, {}, {0}, {1}, {127}, {128}, {255}, {0, 0}, {128, 0}, bytes.Repeat(octets{255}, 20), make(octets, 7000)}
}

func TestNumByHand(t *testing.T) {
	for _, c := range examples() {
		if p := plainNum(c.n); !bytes.Equal(p, c.b) {
			t.Errorf("by numbers that have no end %d is %v, want %v", c.n, p, c.b)
		}
		for _, ahead := range aheads() {
			checkNum(t, ahead, c.n, c.b)
		}
	}
}

func TestGetByHand(t *testing.T) {
	for _, c := range examples() {
		for _, b := range behinds() {
			checkGet(t, slices.Concat(c.b, b), c.n, len(c.b), none)
		}
	}
}

func TestNumAndGet(t *testing.T) {
	for _, n := range numbers() {
		b := plainNum(n)
		checkNum(t, nil, n, b)
		checkNum(t, octets{128, 0, 255}, n, b)
		for _, more := range behinds()[:9] {
			checkGet(t, slices.Concat(b, more), n, len(b), none)
		}
	}
}

// TestOneByteMore: where the bytes of a number become one more.
func TestOneByteMore(t *testing.T) {
	for count := 1; count <= 9; count++ {
		least := 1 << (7*count - 1)
		for n, want := range map[int]int{least - 1: count, least: count + 1, -least: count, -least - 1: count + 1} {
			if got := len(code.Num(nil, n)); got != want {
				t.Errorf("Num of %d has %d bytes, want %d", n, got, want)
			}
		}
	}
}

// TestGetShort: each number, cut off, does not end.
func TestGetShort(t *testing.T) {
	checkGet(t, nil, 0, 0, api.ErrShort)
	checkGet(t, octets{}, 0, 0, api.ErrShort)
	for _, n := range numbers() {
		b := plainNum(n)
		for count := range b {
			checkGet(t, b[:count], 0, 0, api.ErrShort)
			checkGet(t, slices.Clone(b[:count]), 0, 0, api.ErrShort)
		}
	}
}

// TestGetNoEnd: bytes that all go on are short up to nine; the tenth makes them too many.
func TestGetNoEnd(t *testing.T) {
	for _, c := range []byte{128, 129, 130, 200, 254, 255} {
		for count := 1; count <= 9; count++ {
			checkGet(t, bytes.Repeat(octets{c}, count), 0, 0, api.ErrShort)
		}
		for _, count := range []int{10, 11, 12, 19, 20, 100, 10000} {
			checkGet(t, bytes.Repeat(octets{c}, count), 0, 0, api.ErrSyntax)
		}
	}
}

// TestGetNeedless: a last byte of 0 that is not the only one.
func TestGetNeedless(t *testing.T) {
	for _, n := range numbers() {
		b := plainNum(n)
		b[len(b)-1] += 128
		for len(b) < 12 {
			for _, more := range behinds()[:9] {
				checkGet(t, slices.Concat(b, octets{0}, more), 0, 0, api.ErrSyntax)
			}
			b = append(b, 128)
		}
	}
}

// TestGetTenth: of 64 bits the tenth byte has one.
func TestGetTenth(t *testing.T) {
	for _, c := range []byte{128, 129, 200, 254, 255} {
		nine := bytes.Repeat(octets{c}, 9)
		for last := range 256 {
			b := append(slices.Clone(nine), byte(last))
			for _, more := range behinds() {
				if last == 1 {
					n, used, _ := plainGet(b)
					checkGet(t, slices.Concat(b, more), n, used, none)
				} else {
					checkGet(t, slices.Concat(b, more), 0, 0, api.ErrSyntax)
				}
			}
		}
		checkGet(t, nine, 0, 0, api.ErrShort)
	}
	checkGet(t, append(bytes.Repeat(octets{255}, 9), 1), lowest, 10, none)
	checkGet(t, append(bytes.Repeat(octets{128}, 9), 1), 1<<62, 10, none)
	checkGet(t, append(bytes.Repeat(octets{128}, 9), 2), 0, 0, api.ErrSyntax)
	checkGet(t, append(bytes.Repeat(octets{128}, 9), 128), 0, 0, api.ErrSyntax)
	checkGet(t, append(bytes.Repeat(octets{128}, 9), 129, 0), 0, 0, api.ErrSyntax)
	checkGet(t, append(bytes.Repeat(octets{255}, 8), 1), -1<<56, 9, none)
}

// checkGetPlain holds Get of any bytes to what is worked out, and to what must be so of any.
func checkGetPlain(t *testing.T, b octets) {
	t.Helper()
	n, used, want := plainGet(b)
	checkGet(t, b, n, used, want)
	switch want {
	case none:
		checkNum(t, nil, n, b[:used])
	case api.ErrShort:
		// Some number begins so.
		if _, all, err := code.Get(append(slices.Clone(b), 1)); all != len(b)+1 || err != nil {
			t.Errorf("Get(%v and 1) = %d bytes, %v", b, all, err)
		}
	case api.ErrSyntax:
		// None begins so.
		for _, more := range behinds()[:9] {
			checkGet(t, slices.Concat(b, more), 0, 0, api.ErrSyntax)
		}
	}
}

// TestGetOfAny: all of two bytes, and many of more.
func TestGetOfAny(t *testing.T) {
	for first := range 256 {
		checkGetPlain(t, octets{byte(first)})
		for second := range 256 {
			checkGetPlain(t, octets{byte(first), byte(second)})
		}
	}
	var s noise = 2
	for range 100000 {
		b := make(octets, s.below(14))
		for i := range b {
			b[i] = byte(s.pick(0, 1, 2, 127, 128, 129, 255, 128+s.below(128), 128+s.below(128), 128+s.below(128), s.below(256)))
		}
		checkGetPlain(t, b)
	}
}

// part is one number that is written of a grove, and what it tells.
type part struct {
	what string
	n    int
}

// parts of a grove, in order; of Weights as many as there are trees.
func parts(g api.Grove) []part {
	l := []part{{"Features", g.Features}, {"Way", g.Way}, {"trees", len(g.Trees)}}
	for i, t := range g.Trees {
		l = append(l, part{"Weight", g.Weights[i]}, part{"nodes", len(t)})
		for _, n := range t {
			l = append(l, part{"Feature", n.Feature})
			if n.Feature == -1 {
				l = append(l, part{"Value", n.Value})
				continue
			}
			less := 0
			if n.Less {
				less = 1
			}
			l = append(l, part{"Cut", n.Cut}, part{"Left", n.Left}, part{"Right", n.Right}, part{"Less", less})
		}
	}
	return l
}

// pieces gives the bytes of each number.
func pieces(l []part) []octets {
	var all []octets
	for _, p := range l {
		all = append(all, plainNum(p.n))
	}
	return all
}

// places gives where each piece begins, and at last where all of them end.
func places(l []octets) []int {
	at, all := 0, []int{0}
	for _, b := range l {
		at += len(b)
		all = append(all, at)
	}
	return all
}

// plainBytes gives the bytes of a grove, whether it is right or not.
func plainBytes(g api.Grove) octets { return slices.Concat(pieces(parts(g))...) }

// canBeWritten tells whether bytes can tell of all that a grove has.
func canBeWritten(g api.Grove) bool {
	if len(g.Weights) != len(g.Trees) {
		return false
	}
	for _, n := range slices.Concat(g.Trees...) {
		if n.Feature == -1 && (n.Cut != 0 || n.Left != 0 || n.Right != 0 || n.Less) || n.Feature != -1 && n.Value != 0 {
			return false
		}
	}
	return true
}

// fault: where and how bytes are wrong.
type fault struct {
	at   int
	told api.Errno
}

// plainDecode reads a grove by plainGet, and stops at the first fault.
func plainDecode(b octets) (g api.Grove, f fault) {
	if len(b) > 6000 {
		return g, fault{0, api.ErrFull}
	}
	defer func() {
		if x := recover(); x != nil {
			g, f = api.Grove{}, x.(fault)
		}
	}()
	at := 0
	number := func(isRight func(n int) bool, wrong api.Errno) int {
		n, used, e := plainGet(b[at:])
		if e == none && !isRight(n) {
			e = wrong
		}
		if e != none {
			panic(fault{at, e})
		}
		at += used
		return n
	}
	g = plainGrove(number)
	if at != len(b) {
		panic(fault{at, api.ErrSyntax})
	}
	if err := grove.Check(g); err != nil {
		panic(fault{at, told(err)})
	}
	return g, fault{}
}

// plainGrove asks for a grove number by number.
func plainGrove(number func(isRight func(n int) bool, wrong api.Errno) int) api.Grove {
	next := func() int { return number(func(int) bool { return true }, none) }
	upTo := func(most int) int { return number(func(n int) bool { return n > 0 && n <= most }, api.ErrRange) }
	var g api.Grove
	g.Features = next()
	g.Way = next()
	g.Trees = make([]nodes, upTo(12))
	for i := range g.Trees {
		g.Weights = append(g.Weights, next())
		g.Trees[i] = make(nodes, upTo(63))
		for j := range g.Trees[i] {
			n := &g.Trees[i][j]
			n.Feature = next()
			if n.Feature == -1 {
				n.Value = next()
				continue
			}
			n.Cut = next()
			n.Left = next()
			n.Right = next()
			n.Less = number(func(n int) bool { return n == 0 || n == 1 }, api.ErrSyntax) == 1
		}
	}
	return g
}

// checkEncodes holds Encode of a grove that is right to its bytes, and Decode of these to the grove.
func checkEncodes(t *testing.T, name string, g api.Grove, want octets) {
	t.Helper()
	if got, err := code.Encode(g); !bytes.Equal(got, want) || err != nil {
		t.Errorf("%s: Encode of %v = %v, %v, want %v", name, g, got, err, want)
	}
	if got, at, err := code.Decode(want); !same(got, g) || at != 0 || err != nil {
		t.Errorf("%s: Decode of %v = %v, %d, %v, want %v", name, want, got, at, err, g)
	}
}

// checkNotEncoded holds Encode to an error, and with it to no bytes.
func checkNotEncoded(t *testing.T, name string, g api.Grove, want api.Errno) {
	t.Helper()
	if got, err := code.Encode(g); len(got) != 0 || told(err) != want {
		t.Errorf("%s: Encode = %v, %v, want %v", name, got, err, want)
	}
}

// checkWrong holds Decode to a place and an error, and with it to no grove.
func checkWrong(t *testing.T, name string, b octets, at int, want api.Errno) {
	t.Helper()
	if got, place, err := code.Decode(b); !isNothing(got) || place != at || told(err) != want {
		t.Errorf("%s: Decode of %v = %v, %d, %v, want %d, %v", name, b, got, place, err, at, want)
	}
}

// checkDecode holds Decode of any bytes to what is worked out, and to what must be so of any.
func checkDecode(t *testing.T, name string, b octets) {
	t.Helper()
	g, f := plainDecode(b)
	got, at, err := code.Decode(b)
	if !same(got, g) || at != f.at || told(err) != f.told {
		t.Fatalf("%s: Decode of %v = %v, %d, %v, want %v, %v", name, b, got, at, err, g, f)
	}
	if err == nil {
		checkEncodes(t, name, got, b)
		return
	}
	if len(b) > full || at == len(b) {
		return
	}
	// All that is ahead of the place is the beginning of a grove, or all of one.
	ahead, place, err := code.Decode(b[:at])
	if short := place == at && told(err) == api.ErrShort; !short && f.told != api.ErrSyntax {
		t.Fatalf("%s: Decode of %v, which is wrong at %d, is %v, %d, %v of what is ahead", name, b, at, ahead, place, err)
	}
	if err != nil && place != at {
		t.Fatalf("%s: Decode of %v is wrong at %d, and what is ahead at %d", name, b, at, place)
	}
}

// rights are groves that are right.
func rights() []api.Grove {
	l := []api.Grove{
		wood(0, api.Sum, ones(1), says(0)),
		wood(8, api.Mean, []int{1000}, says(end)),
		wood(3, api.Vote, []int{64}, says(-end)),
		wood(1, api.Sum, ones(1), small(0, -end, end, -end)),
		wood(1, api.Sum, ones(1), forkLess(0, end, says(-end), says(end))),
		wood(8, api.Mean, []int{1, 1000, 63, 64}, even(63), says(1), chain(10), small(7, 64, -65, 63)),
		wood(2, api.Sum, ones(12), slices.Repeat([]nodes{says(-7)}, 12)...),
		// Left stands behind Right, and nodes that ask behind leaves.
		wood(1, api.Sum, ones(1), nodes{ask(0, 5, 2, 1), leaf(9), ask(0, 3, 4, 3), leaf(8), leaf(7)}),
		greatest(),
	}
	for _, way := range ways() {
		l = append(l, three(way))
	}
	var s noise = 3
	for trees := 1; trees <= 12; trees++ {
		l = append(l, s.grove(trees, 0), s.grove(trees, 3), s.grove(trees, 31))
	}
	return l
}

// TestByHand: groves, and their bytes by hand.
func TestByHand(t *testing.T) {
	checkEncodes(t, "one leaf", wood(0, api.Sum, ones(1), says(0)), octets{0, 2, 2, 2, 2, 1, 0})
	checkEncodes(t, "one leaf, the ends", wood(8, api.Vote, []int{1000}, says(end)), octets{16, 6, 2, 208, 15, 2, 1, 128, 137, 122})
	checkEncodes(t, "one leaf, below 0", wood(8, api.Mean, []int{64}, says(-end)), octets{16, 4, 2, 128, 1, 2, 1, 255, 136, 122})
	checkEncodes(t, "one question", wood(2, api.Sum, []int{3}, small(1, -5, 7, -8)), octets{4, 2, 2, 6, 6, 2, 9, 2, 4, 0, 1, 14, 1, 15})
	checkEncodes(t, "one question, Less", wood(2, api.Sum, []int{3}, forkLess(1, -5, says(7), says(-8))), octets{4, 2, 2, 6, 6, 2, 9, 2, 4, 2, 1, 14, 1, 15})
	checkEncodes(t, "Cuts at the ends", wood(1, api.Sum, ones(2), small(0, end, 0, 0), small(0, -end, 0, 0)), octets{2, 2, 4, 2, 6, 0, 128, 137, 122, 2, 4, 0, 1, 0, 1, 0, 2, 6, 0, 255, 136, 122, 2, 4, 0, 1, 0, 1, 0})
	checkEncodes(t, "Left behind Right", wood(1, api.Sum, ones(1), nodes{ask(0, 0, 2, 1), leaf(1), leaf(2)}), octets{2, 2, 2, 2, 6, 0, 0, 4, 2, 0, 1, 2, 1, 4})
	checkEncodes(t, "two trees", wood(0, api.Mean, []int{1, 63}, says(5), says(-5)), octets{0, 4, 4, 2, 2, 1, 10, 126, 2, 1, 9})
	checkEncodes(t, "two questions", wood(3, api.Vote, ones(1), forkLess(2, 1, small(0, 64, 1, 2), says(3))), octets{6, 6, 2, 2, 10, 4, 2, 2, 8, 2, 0, 128, 1, 4, 6, 0, 1, 2, 1, 4, 1, 6})
}

func TestRights(t *testing.T) {
	for i, g := range rights() {
		if err := grove.Check(g); err != nil {
			t.Fatalf("grove %d is wrong: %v", i, err)
		}
		checkEncodes(t, fmt.Sprint("grove ", i), g, plainBytes(g))
		checkDecode(t, fmt.Sprint("grove ", i), plainBytes(g))
	}
	var s noise = 4
	for range 3000 {
		g := s.grove(1+s.below(12), s.pick(0, 3, 31))
		checkEncodes(t, "any", g, plainBytes(g))
	}
}

// TestEnds: each number of a grove at both ends of what it may be.
func TestEnds(t *testing.T) {
	for _, n := range []int{-end, -end + 1, -1, 0, 1, end - 1, end} {
		for _, weight := range []int{1, 2, 63, 64, 999, 1000} {
			g := wood(1, api.Sum, []int{weight, 1001 - weight}, small(0, n, -n, n), says(n))
			checkEncodes(t, "ends", g, plainBytes(g))
		}
	}
	for features := range 9 {
		g := wood(features, api.Mean, ones(1), says(features))
		if features > 0 {
			g.Trees[0] = small(features-1, 0, 1, 2)
		}
		checkEncodes(t, "features", g, plainBytes(g))
	}
}

// TestGreatest: no grove that is right comes near MaxBytes, so that Encode takes each.
func TestGreatest(t *testing.T) {
	g := greatest()
	b, err := code.Encode(g)
	// Of 12 trees 31 nodes that ask have 7 bytes each, 32 leaves 4, a Weight 2 and how many nodes 1; 3 are ahead of all.
	if len(b) != 3+12*(2+1+31*7+32*4) || err != nil {
		t.Errorf("Encode = %d bytes, %v, want 4179", len(b), err)
	}
	checkEncodes(t, "the greatest", g, plainBytes(g))
}

// asWide gives a number above 0 that has so many bytes.
func asWide(count int) int { return 1 << (7*(count-1) - 1) }

// wide gives a grove that is wrong and has just so many bytes: all nodes are leaves, whose Values are beyond what they may be.
func wide(count int) api.Grove {
	g := wood(8, api.Sum, ones(12))
	left := count - 3 - 12*2 - 12*63
	for tree := range 12 {
		g.Trees = append(g.Trees, nil)
		for node := range 63 {
			here := left / (12*63 - 63*tree - node)
			left -= here
			g.Trees[tree] = append(g.Trees[tree], leaf(asWide(here)))
		}
	}
	return g
}

// TestMaxBytes: bytes of just as many as may be, and of more.
func TestMaxBytes(t *testing.T) {
	for _, count := range []int{full - 1000, full - 1, full, full + 1, full + 2, full + 1000} {
		g := wide(count)
		b := plainBytes(g)
		if len(b) != count {
			t.Fatalf("there are %d bytes, want %d", len(b), count)
		}
		// What is wrong with a grove is told ahead of how many bytes it has.
		checkNotEncoded(t, fmt.Sprint(count, " bytes"), g, api.ErrRange)
		if count <= full {
			checkWrong(t, "as many as may be", b, count, api.ErrRange)
		} else {
			checkWrong(t, "too many", b, 0, api.ErrFull)
		}
		checkDecode(t, fmt.Sprint(count, " bytes"), b)
	}
}

// TestTooMany: more than MaxBytes is told ahead of all else.
func TestTooMany(t *testing.T) {
	for _, c := range []byte{0, 1, 2, 127, 128, 255} {
		for _, count := range []int{full + 1, full + 2, 2 * full, 100000, 1 << 20} {
			checkWrong(t, fmt.Sprint(count, " of ", c), bytes.Repeat(octets{c}, count), 0, api.ErrFull)
		}
	}
	for i, g := range rights() {
		b := plainBytes(g)
		for _, c := range []byte{0, 2, 128} {
			more := append(slices.Clone(b), bytes.Repeat(octets{c}, full-len(b))...)
			checkWrong(t, fmt.Sprint("grove ", i, ", and more up to MaxBytes"), more, len(b), api.ErrSyntax)
			checkWrong(t, fmt.Sprint("grove ", i, ", and more beyond MaxBytes"), append(more, c), 0, api.ErrFull)
		}
	}
	// Up to MaxBytes what is wrong first is told.
	checkWrong(t, "0 alone", make(octets, full), 2, api.ErrRange)
	checkWrong(t, "1 alone", bytes.Repeat(octets{1}, full), 2, api.ErrRange)
	checkWrong(t, "128 alone", bytes.Repeat(octets{128}, full), 0, api.ErrSyntax)
}

// flaw is something that is wrong with a grove of three trees and three features.
type flaw struct {
	name   string
	change func(g *api.Grove)
	want   api.Errno
}

// badTrees: each way in which a tree of three features is wrong.
func badTrees() []struct {
	name string
	tree nodes
	want api.Errno
} {
	return []struct {
		name string
		tree nodes
		want api.Errno
	}{
		{"64 nodes", append(even(63), leaf(1)), api.ErrFull},
		{"10000 nodes", make(nodes, 10000), api.ErrFull},
		{"no nodes", nil, api.ErrNone},
		{"an empty list of nodes", nodes{}, api.ErrNone},
		{"a Value beyond", says(end + 1), api.ErrRange},
		{"a Value beyond, below 0", says(-end - 1), api.ErrRange},
		{"a Value far beyond", says(highest), api.ErrRange},
		{"a Value far below", says(lowest), api.ErrRange},
		{"a leaf with a Cut", nodes{{Feature: api.Leaf, Cut: 1}}, api.ErrShape},
		{"a leaf with a Left", nodes{{Feature: api.Leaf, Left: 1}}, api.ErrShape},
		{"a leaf with a Right", nodes{{Feature: api.Leaf, Right: 1}}, api.ErrShape},
		{"a leaf with Less", nodes{{Feature: api.Leaf, Less: true}}, api.ErrShape},
		{"a Feature below", small(-2, 0, 1, 2), api.ErrRange},
		{"a Feature far below", small(lowest, 0, 1, 2), api.ErrRange},
		{"a Feature beyond", small(3, 0, 1, 2), api.ErrRange},
		{"a Feature far beyond", small(highest, 0, 1, 2), api.ErrRange},
		{"a Cut beyond", small(0, end+1, 1, 2), api.ErrRange},
		{"a Cut beyond, below 0", small(0, -end-1, 1, 2), api.ErrRange},
		{"a Cut that is no cell", small(0, api.Nil, 1, 2), api.ErrRange},
		{"a Left that is not behind", nodes{ask(0, 0, 0, 1), leaf(1)}, api.ErrRange},
		{"a Right that is not behind", nodes{ask(0, 0, 1, 0), leaf(1)}, api.ErrRange},
		{"a Left beyond", nodes{ask(0, 0, 3, 1), leaf(1), leaf(2)}, api.ErrRange},
		{"a Left below 0", nodes{ask(0, 0, -1, 1), leaf(1), leaf(2)}, api.ErrRange},
		{"a Left far below", nodes{ask(0, 0, lowest, 1), leaf(1), leaf(2)}, api.ErrRange},
		{"a Right far beyond", nodes{ask(0, 0, 1, highest), leaf(1), leaf(2)}, api.ErrRange},
		{"one that asks with a Value", nodes{{Left: 1, Right: 2, Value: 1}, leaf(1), leaf(2)}, api.ErrShape},
		{"Left that is Right", nodes{ask(0, 0, 1, 1), leaf(1)}, api.ErrShape},
		{"a leaf that is nobody's", append(small(0, 0, 1, 2), leaf(3)), api.ErrClash},
		{"a leaf that is two's", nodes{ask(0, 0, 1, 2), ask(0, 0, 2, 3), leaf(1), leaf(2)}, api.ErrClash},
		{"too deep", chain(11), api.ErrFull},
	}
}

// flaws: each way in which a grove is wrong, and some at once.
func flaws() []flaw {
	l := []flaw{
		{"Features -1", func(g *api.Grove) { g.Features = -1 }, api.ErrRange},
		{"Features 9", func(g *api.Grove) { g.Features = 9 }, api.ErrRange},
		{"Features far beyond", func(g *api.Grove) { g.Features = highest }, api.ErrRange},
		{"Features far below", func(g *api.Grove) { g.Features = lowest }, api.ErrRange},
		{"Features too few for what is asked", func(g *api.Grove) { g.Features = 2 }, api.ErrRange},
		{"Way 0", func(g *api.Grove) { g.Way = 0 }, api.ErrRange},
		{"Way 4", func(g *api.Grove) { g.Way = 4 }, api.ErrRange},
		{"Way -1", func(g *api.Grove) { g.Way = -1 }, api.ErrRange},
		{"Way far below", func(g *api.Grove) { g.Way = lowest }, api.ErrRange},
		{"no trees", func(g *api.Grove) { g.Trees = nil }, api.ErrNone},
		{"no trees and no Weights", func(g *api.Grove) { g.Trees, g.Weights = nil, nil }, api.ErrNone},
		{"13 trees", func(g *api.Grove) { g.Trees, g.Weights = slices.Repeat([]nodes{says(1)}, 13), ones(13) }, api.ErrFull},
		{"5000 trees", func(g *api.Grove) { g.Trees, g.Weights = make([]nodes, 5000), make([]int, 5000) }, api.ErrFull},
		{"no Weights", func(g *api.Grove) { g.Weights = nil }, api.ErrShape},
		{"a Weight too few", func(g *api.Grove) { g.Weights = g.Weights[1:] }, api.ErrShape},
		{"a Weight too many", func(g *api.Grove) { g.Weights = append(g.Weights, 1) }, api.ErrShape},
		{"the first Weight 0", func(g *api.Grove) { g.Weights[0] = 0 }, api.ErrRange},
		{"a Weight below 0", func(g *api.Grove) { g.Weights[1] = -1 }, api.ErrRange},
		{"a Weight far below", func(g *api.Grove) { g.Weights[1] = lowest }, api.ErrRange},
		{"the last Weight 1001", func(g *api.Grove) { g.Weights[2] = 1001 }, api.ErrRange},

		{"Way 4, no trees", func(g *api.Grove) { g.Way, g.Trees = 4, nil }, api.ErrRange},
		{"Features 9, 13 trees", func(g *api.Grove) { g.Features, g.Trees = 9, make([]nodes, 13) }, api.ErrRange},
		{"13 trees without nodes, no Weights", func(g *api.Grove) { g.Trees, g.Weights = make([]nodes, 13), nil }, api.ErrFull},
		{"a Weight too few, another 0", func(g *api.Grove) { g.Weights = []int{0, 1} }, api.ErrShape},
		{"the last Weight 0, the first tree without nodes", func(g *api.Grove) { g.Weights[2], g.Trees[0] = 0, nil }, api.ErrRange},
		{"the last Weight 0, the first tree too deep", func(g *api.Grove) { g.Weights[2], g.Trees[0] = 0, chain(11) }, api.ErrRange},
		{"the second tree too deep, the last without nodes", func(g *api.Grove) { g.Trees[1], g.Trees[2] = chain(11), nil }, api.ErrFull},
		{"the second tree too deep, the last with a Value beyond", func(g *api.Grove) { g.Trees[1], g.Trees[2] = chain(11), says(end+1) }, api.ErrFull},
		{"nobody's leaf in the first tree, the second too deep", func(g *api.Grove) { g.Trees[0], g.Trees[1] = append(says(1), leaf(2)), chain(11) }, api.ErrClash},
	}
	for _, b := range badTrees() {
		for place := range 3 {
			l = append(l, flaw{fmt.Sprint(b.name, " at ", place), func(g *api.Grove) { g.Trees[place] = b.tree }, b.want})
		}
	}
	return l
}

// firstCount gives the place of the first count of trees or nodes that is none, if there is one.
func firstCount(g api.Grove) (int, bool) {
	l := parts(g)
	at := places(pieces(l))
	for i, p := range l {
		if p.what == "trees" && (p.n < 1 || p.n > 12) || p.what == "nodes" && (p.n < 1 || p.n > 63) {
			return at[i], true
		}
	}
	return 0, false
}

// TestFlaws: Encode tells what is wrong with a grove, and so does Decode behind all bytes, but of how many trees or nodes there are it tells at once.
func TestFlaws(t *testing.T) {
	written := map[api.Errno]int{}
	for _, way := range ways() {
		for _, f := range flaws() {
			g := changed(three(way), f.change)
			checkNotEncoded(t, f.name, g, f.want)
			if !canBeWritten(g) {
				continue
			}
			b := plainBytes(g)
			at, isCount := firstCount(g)
			switch {
			case len(b) > full:
				checkWrong(t, f.name, b, 0, api.ErrFull)
			case isCount:
				checkWrong(t, f.name, b, at, api.ErrRange)
			default:
				written[f.want]++
				checkWrong(t, f.name, b, len(b), f.want)
				checkWrong(t, f.name+", and more", append(b, 0), len(b), api.ErrSyntax)
				checkWrong(t, f.name+", and more that does not end", append(b, 128), len(b), api.ErrSyntax)
				checkWrong(t, f.name+", the last byte off", b[:len(b)-1], places(pieces(parts(g)))[len(parts(g))-1], api.ErrShort)
			}
			checkDecode(t, f.name, b)
		}
	}
	checkNotEncoded(t, "nothing at all", api.Grove{}, api.ErrRange)
	for _, e := range []api.Errno{api.ErrRange, api.ErrShape, api.ErrClash, api.ErrFull} {
		if written[e] == 0 {
			t.Errorf("no bytes were told %v of behind all", e)
		}
	}
}

// TestCutOff: bytes end within a number, or ahead of one.
func TestCutOff(t *testing.T) {
	for i, g := range rights() {
		l := pieces(parts(g))
		b, at := slices.Concat(l...), places(l)
		for number, piece := range l {
			for count := range piece {
				short := slices.Clone(b[:at[number]+count])
				checkWrong(t, fmt.Sprint("grove ", i, ", cut off at ", len(short)), short, at[number], api.ErrShort)
			}
		}
	}
	checkWrong(t, "no bytes", nil, 0, api.ErrShort)
	checkWrong(t, "an empty list", octets{}, 0, api.ErrShort)
}

// TestMoreBehind: whatever it is.
func TestMoreBehind(t *testing.T) {
	for i, g := range rights() {
		b := plainBytes(g)
		for c := range 256 {
			checkWrong(t, fmt.Sprint("grove ", i, ", and ", c), append(slices.Clone(b), byte(c)), len(b), api.ErrSyntax)
		}
		for _, more := range behinds()[4:10] {
			checkWrong(t, fmt.Sprint("grove ", i, ", and more"), slices.Concat(b, more), len(b), api.ErrSyntax)
		}
		if 2*len(b) <= full {
			checkWrong(t, fmt.Sprint("grove ", i, " twice"), slices.Concat(b, b), len(b), api.ErrSyntax)
		}
	}
}

// TestTurned: one byte is another.
func TestTurned(t *testing.T) {
	read := 0
	for _, g := range rights() {
		b := plainBytes(g)
		if len(b) > 60 {
			continue
		}
		for at := range b {
			for c := range 256 {
				turned := with(b, at, byte(c))
				checkDecode(t, "turned", turned)
				if _, f := plainDecode(turned); f == (fault{}) {
					read++
				}
			}
		}
	}
	if read < 1000 {
		t.Errorf("only %d of them are groves", read)
	}
	b := plainBytes(greatest())
	var s noise = 5
	for range 200 {
		checkDecode(t, "turned, the greatest", with(b, s.below(len(b)), byte(s.below(256))))
	}
}

// needless gives the bytes of a number, and some that it does not need.
func needless(n, more int) octets {
	b := plainNum(n)
	b[len(b)-1] += 128
	return append(append(b, bytes.Repeat(octets{128}, more-1)...), 0)
}

// tooWide are bytes of numbers of more than 64 bits.
func tooWide() []octets {
	nine := bytes.Repeat(octets{128}, 9)
	return []octets{
		append(slices.Clone(nine), 2),
		append(slices.Clone(nine), 127),
		append(slices.Clone(nine), 128, 1),
		append(slices.Clone(nine), 129, 0),
		bytes.Repeat(octets{255}, 10),
		bytes.Repeat(octets{255}, 30),
	}
}

// TestNumbersWrong: at each place a number that has more bytes than it needs, or more than 64 bits.
func TestNumbersWrong(t *testing.T) {
	for i, g := range rights() {
		l := parts(g)
		all := pieces(l)
		at := places(all)
		if len(all) > 300 {
			continue
		}
		for number, p := range l {
			name := fmt.Sprint("grove ", i, ", ", p.what, " at ", at[number])
			for _, more := range []int{1, 2, 10 - len(all[number]), 10, 20} {
				bad := needless(p.n, more)
				checkWrong(t, name+" with needless bytes", slices.Concat(with(all, number, bad)...), at[number], api.ErrSyntax)
				checkWrong(t, name+" with needless bytes, and no more", slices.Concat(with(all, number, bad)[:number+1]...), at[number], api.ErrSyntax)
			}
			for _, bad := range tooWide() {
				checkWrong(t, name+" too wide", slices.Concat(with(all, number, bad)...), at[number], api.ErrSyntax)
				checkWrong(t, name+" too wide, and no more", slices.Concat(with(all, number, bad)[:number+1]...), at[number], api.ErrSyntax)
				checkWrong(t, name+" too wide, cut off ahead of that", slices.Concat(with(all, number, bad[:9])[:number+1]...), at[number], api.ErrShort)
			}
		}
	}
}

// TestTwoWrong: of two numbers that are wrong the first one is told.
func TestTwoWrong(t *testing.T) {
	all := pieces(parts(three(api.Mean)))
	at := places(all)
	faults := []struct {
		bad  octets
		want api.Errno
	}{{octets{128, 0}, api.ErrSyntax}, {bytes.Repeat(octets{255}, 10), api.ErrSyntax}}
	for second := range all {
		for first := range second {
			for _, a := range faults {
				for _, b := range faults {
					both := with(with(all, first, a.bad), second, b.bad)
					checkWrong(t, fmt.Sprint(first, " and ", second), slices.Concat(both...), at[first], a.want)
					// The place is that of the byte, so it is further back if what is ahead has more bytes.
					wider := slices.Concat(octets{128, 1}, slices.Concat(with(both, 0, nil)...))
					if first > 0 {
						checkWrong(t, fmt.Sprint(first, " and ", second, ", wider"), wider, at[first]+1, a.want)
					}
				}
				cut := slices.Concat(with(all, first, a.bad)[:second]...)
				checkWrong(t, fmt.Sprint(first, ", and cut off at ", second), cut, at[first], a.want)
			}
		}
	}
}

// TestCounts: how many trees and nodes there are, at both ends and beyond.
func TestCounts(t *testing.T) {
	for count := 1; count <= 12; count++ {
		g := wood(8, api.Sum, ones(count), slices.Repeat([]nodes{small(7, 1, 2, 3)}, count)...)
		checkEncodes(t, fmt.Sprint(count, " trees"), g, plainBytes(g))
	}
	for count := 1; count <= 63; count += 2 {
		g := wood(8, api.Sum, ones(2), even(count), even(64-count))
		checkEncodes(t, fmt.Sprint(count, " nodes"), g, plainBytes(g))
	}
	all := pieces(parts(three(api.Sum)))
	at := places(all)
	for number, p := range parts(three(api.Sum)) {
		most := map[string]int{"trees": 12, "nodes": 63}[p.what]
		if most == 0 {
			continue
		}
		for _, n := range []int{lowest, -1 << 40, -2, -1, 0, most + 1, most + 2, 64, 127, 128, 1 << 32, 1 << 62, highest} {
			name := fmt.Sprint(p.what, " ", n)
			bad := with(all, number, plainNum(n))
			checkWrong(t, name, slices.Concat(bad...), at[number], api.ErrRange)
			checkWrong(t, name+", and no more", slices.Concat(bad[:number+1]...), at[number], api.ErrRange)
			checkWrong(t, name+", and what is wrong behind", append(slices.Concat(bad[:number+1]...), 128, 0), at[number], api.ErrRange)
		}
		// At the ends they are taken, so that there is too little then.
		for _, n := range []int{1, most} {
			start := slices.Concat(with(all, number, plainNum(n))[:number+1]...)
			checkWrong(t, fmt.Sprint(p.what, " ", n, ", and no more"), start, len(start), api.ErrShort)
		}
	}
	// As many as one says, and one beyond: 13 trees, each of which is right, and 64 nodes.
	g := wood(0, api.Sum, ones(13), slices.Repeat([]nodes{says(1)}, 13)...)
	checkWrong(t, "13 trees", plainBytes(g), 2, api.ErrRange)
	checkWrong(t, "64 nodes", plainBytes(wood(8, api.Sum, ones(1), even(64))), 4, api.ErrRange)
	checkWrong(t, "65 nodes, which have two bytes", plainBytes(wood(8, api.Sum, ones(1), even(65))), 4, api.ErrRange)
	checkWrong(t, "62 nodes", plainBytes(wood(8, api.Sum, ones(1), append(even(61), leaf(1)))), len(plainBytes(wood(8, api.Sum, ones(1), append(even(61), leaf(1))))), api.ErrClash)
}

// TestLess: it is 0 or 1, and no other number.
func TestLess(t *testing.T) {
	for _, g := range []api.Grove{three(api.Sum), wood(8, api.Vote, ones(2), even(63), chain(10))} {
		l := parts(g)
		all := pieces(l)
		at := places(all)
		for number, p := range l {
			if p.what != "Less" {
				continue
			}
			for _, n := range []int{lowest, -1000, -2, -1, 2, 3, 63, 64, 1 << 40, highest} {
				bad := with(all, number, plainNum(n))
				checkWrong(t, fmt.Sprint("Less ", n), slices.Concat(bad...), at[number], api.ErrSyntax)
				checkWrong(t, fmt.Sprint("Less ", n, ", and no more"), slices.Concat(bad[:number+1]...), at[number], api.ErrSyntax)
			}
			other := slices.Concat(with(all, number, plainNum(1-p.n))...)
			got, place, err := code.Decode(other)
			if place != 0 || err != nil || same(got, g) || !bytes.Equal(plainBytes(got), other) {
				t.Errorf("with the other Less Decode is %v, %d, %v", got, place, err)
			}
		}
	}
}

// TestWhichFirst: by hand, several wrong at once.
func TestWhichFirst(t *testing.T) {
	short, wide := octets{128}, bytes.Repeat(octets{255}, 10)
	for _, c := range []struct {
		name string
		b    octets
		at   int
		want api.Errno
	}{
		{"Features do not end", octets{128, 128}, 0, api.ErrShort},
		{"Features with a needless byte, and no more", octets{130, 0}, 0, api.ErrSyntax},
		{"Features too wide", wide, 0, api.ErrSyntax},
		{"Features alone", octets{2}, 1, api.ErrShort},
		{"Features beyond alone", octets{18}, 1, api.ErrShort},
		{"Features beyond, Way does not end", octets{18, 128}, 1, api.ErrShort},
		{"Features beyond, Way with a needless byte", octets{18, 130, 0}, 1, api.ErrSyntax},
		{"Features of two bytes, Way with a needless byte", octets{128, 1, 130, 0}, 2, api.ErrSyntax},
		{"Way none, no trees", octets{0, 0, 0}, 2, api.ErrRange},
		{"13 trees, and no more", octets{0, 2, 26}, 2, api.ErrRange},
		{"13 trees, and a Weight that does not end", octets{0, 2, 26, 128}, 2, api.ErrRange},
		{"13 trees with a needless byte", octets{0, 2, 154, 0}, 2, api.ErrSyntax},
		{"no trees with a needless byte", octets{0, 2, 128, 0}, 2, api.ErrSyntax},
		{"64 trees, of two bytes, cut off", octets{0, 2, 128}, 2, api.ErrShort},
		{"64 trees", octets{0, 2, 128, 1}, 2, api.ErrRange},
		{"one tree less than none", octets{0, 2, 1}, 2, api.ErrRange},
		{"how many trees too wide", slices.Concat(octets{0, 2}, wide), 2, api.ErrSyntax},
		{"12 trees, and no more", octets{0, 2, 24}, 3, api.ErrShort},
		{"Weight 0, no nodes", octets{0, 2, 2, 0, 0}, 4, api.ErrRange},
		{"Weight 0, 64 nodes, of two bytes, cut off", octets{0, 2, 2, 0, 128}, 4, api.ErrShort},
		{"Weight 0, 64 nodes", octets{0, 2, 2, 0, 128, 1}, 4, api.ErrRange},
		{"Weight of two bytes, no nodes", octets{0, 2, 2, 208, 15, 0}, 5, api.ErrRange},
		{"how many nodes too wide", slices.Concat(octets{0, 2, 2, 2}, wide), 4, api.ErrSyntax},
		{"63 nodes, and no more", octets{0, 2, 2, 2, 126}, 5, api.ErrShort},
		{"a leaf without a Value", octets{0, 2, 2, 2, 2, 1}, 6, api.ErrShort},
		{"a leaf whose Value does not end", octets{0, 2, 2, 2, 2, 1, 200, 200}, 6, api.ErrShort},
		{"a leaf whose Value has a needless byte", octets{0, 2, 2, 2, 2, 1, 128, 0}, 6, api.ErrSyntax},
		{"a leaf, Feature with a needless byte", octets{0, 2, 2, 2, 2, 129, 0, 0}, 5, api.ErrSyntax},
		{"a leaf where two nodes are told", octets{0, 2, 2, 2, 4, 1, 0}, 7, api.ErrShort},
		{"a leaf where two trees are told", octets{0, 2, 4, 2, 2, 1, 0}, 7, api.ErrShort},
		{"no Weight for the second tree, but how many nodes", octets{0, 2, 4, 2, 2, 1, 0, 2, 2}, 9, api.ErrShort},
		{"the second tree without nodes, Weight of the first 0", octets{0, 2, 4, 0, 2, 1, 0, 2, 0}, 8, api.ErrRange},
		{"a Feature below that of a leaf is one that asks", octets{0, 2, 2, 2, 2, 3, 0}, 7, api.ErrShort},
		{"it asks for a Feature of its own", octets{0, 2, 2, 2, 2, 3, 0, 2, 4, 0}, 10, api.ErrRange},
		{"it asks for a Feature far beyond, Less 2", octets{0, 2, 2, 2, 2, 128, 1, 0, 2, 4, 4}, 10, api.ErrSyntax},
		{"Left and Right beyond, Less -1", octets{2, 2, 2, 2, 2, 0, 0, 90, 91, 1}, 9, api.ErrSyntax},
		{"Less does not end", octets{2, 2, 2, 2, 6, 0, 0, 2, 4, 130}, 9, api.ErrShort},
		{"Less with a needless byte", octets{2, 2, 2, 2, 6, 0, 0, 2, 4, 130, 0}, 9, api.ErrSyntax},
		{"Less 2, a Value cut off behind", octets{2, 2, 2, 2, 6, 0, 0, 2, 4, 4, 1}, 9, api.ErrSyntax},
		{"Less 2 in the second tree, no nodes in the third", octets{2, 2, 6, 2, 2, 1, 0, 2, 6, 0, 0, 2, 4, 4, 1, 0, 1, 0, 2, 0}, 13, api.ErrSyntax},
		{"no nodes in the second tree, Less 2 in the third", octets{2, 2, 6, 2, 2, 1, 0, 2, 0, 2, 6, 0, 0, 2, 4, 4, 1, 0, 1, 0}, 8, api.ErrRange},
		{"Less 64, of two bytes", octets{2, 2, 2, 2, 6, 0, 0, 2, 4, 128, 1, 1, 0, 1, 0}, 9, api.ErrSyntax},
		{"Features beyond, and more", octets{18, 2, 2, 2, 2, 1, 0, 0}, 7, api.ErrSyntax},
		{"Features beyond", octets{18, 2, 2, 2, 2, 1, 0}, 7, api.ErrRange},
		{"Features below 0", octets{1, 2, 2, 2, 2, 1, 0}, 7, api.ErrRange},
		{"Way 0", octets{0, 0, 2, 2, 2, 1, 0}, 7, api.ErrRange},
		{"Way 4, and more", octets{0, 8, 2, 2, 2, 1, 0, 255}, 7, api.ErrSyntax},
		{"Weight 0", octets{0, 2, 2, 0, 2, 1, 0}, 7, api.ErrRange},
		{"Weight 1001", octets{0, 2, 2, 210, 15, 2, 1, 0}, 8, api.ErrRange},
		{"two nodes that are leaves", octets{0, 2, 2, 2, 4, 1, 0, 1, 0}, 9, api.ErrClash},
		{"two nodes that are leaves, and more", octets{0, 2, 2, 2, 4, 1, 0, 1, 0, 1, 0}, 9, api.ErrSyntax},
		{"Left is Right, Weight of the second tree 0", octets{2, 2, 4, 2, 4, 0, 0, 2, 2, 0, 1, 0, 0, 2, 1, 0}, 16, api.ErrRange},
		{"Left is Right", octets{2, 2, 4, 2, 4, 0, 0, 2, 2, 0, 1, 0, 2, 2, 1, 0}, 16, api.ErrShape},
		{"a Value beyond", octets{0, 2, 2, 2, 2, 1, 130, 137, 122}, 9, api.ErrRange},
		{"Features do not end, ahead of a grove", slices.Concat(short, octets{0, 2, 2, 2, 2, 1, 0}), 0, api.ErrSyntax},
	} {
		checkWrong(t, c.name, c.b, c.at, c.want)
		checkDecode(t, c.name, c.b)
	}
}

// TestAllOfFew: all bytes of some kinds, up to as many as a leaf has and one more.
func TestAllOfFew(t *testing.T) {
	b, read := make(octets, 0, 8), 0
	var lay func()
	lay = func() {
		checkDecode(t, "few", b)
		if _, _, err := code.Decode(b); err == nil {
			read++
		}
		if len(b) == 8 {
			return
		}
		for _, c := range []byte{0, 1, 2, 128} {
			b = append(b, c)
			lay()
			b = b[:len(b)-1]
		}
	}
	lay()
	// Features 0 or 1, Way 1, one tree, Weight 1, one node: with one byte for each a leaf says 0, -1 or 1; with two Weight is 64 or 128, or a leaf says that.
	if want := 2*3 + 2*2*3 + 2*2; read != want {
		t.Errorf("%d of them are groves, want %d", read, want)
	}
}

// spoiled gives bytes of a grove of which something is otherwise.
func (s *noise) spoiled() octets {
	l := pieces(parts(s.grove(1+s.below(4), s.pick(0, 2, 6))))
	for range 1 + s.below(2) {
		at := s.below(len(l))
		switch s.below(6) {
		case 0:
			l[at] = plainNum(s.number())
		case 1:
			l[at] = plainNum(s.pick(-2, -1, 0, 1, 2, 3, 12, 13, 63, 64))
		case 2:
			l = slices.Delete(slices.Clone(l), at, at+1)
		case 3:
			l = slices.Insert(slices.Clone(l), at, plainNum(s.pick(-1, 0, 1, 2)))
		case 4:
			l[at] = needless(s.number(), 1+s.below(3))
		case 5:
			b := slices.Concat(l...)
			l = []octets{b[:s.below(len(b)+1)], {byte(s.below(256))}}
		}
	}
	return slices.Concat(l...)
}

// TestAgainstPlain: bytes that are nearly groves.
func TestAgainstPlain(t *testing.T) {
	var s noise = 6
	seen := map[api.Errno]int{}
	for range 60000 {
		b := s.spoiled()
		checkDecode(t, "spoiled", b)
		_, f := plainDecode(b)
		seen[f.told]++
	}
	for _, e := range []api.Errno{none, api.ErrShort, api.ErrSyntax, api.ErrRange, api.ErrShape, api.ErrClash} {
		if seen[e] < 30 {
			t.Errorf("only %d come to %v", seen[e], e)
		}
	}
}

// TestAnyBytes: bytes without any order.
func TestAnyBytes(t *testing.T) {
	var s noise = 7
	for range 30000 {
		b := make(octets, s.below(40))
		for i := range b {
			b[i] = byte(s.pick(0, 1, 2, 2, 4, 6, s.below(256)))
		}
		checkDecode(t, "any", b)
	}
}

// FuzzDecode holds any bytes to what is worked out.
func FuzzDecode(f *testing.F) {
	for _, g := range rights() {
		f.Add(plainBytes(g))
	}
	f.Fuzz(func(t *testing.T, b []byte) {
		checkDecode(t, "fuzz", b)
		checkGetPlain(t, b)
	})
}

// guarded gives a list with memory behind its length, and all of that memory.
func guarded[T any](l []T, behind ...T) (list, all []T) {
	all = append(slices.Clone(l), behind...)
	return all[:len(l)], all
}

// guardedGrove gives a grove with memory behind its lists that would be wrong, and all of that memory.
func guardedGrove(g api.Grove) (list, all api.Grove) {
	list, all = g, g
	list.Weights, all.Weights = guarded(g.Weights, 0, lowest, highest)
	list.Trees, all.Trees = guarded(g.Trees, nil, says(highest))
	for i := range list.Trees {
		list.Trees[i], _ = guarded(g.Trees[i], leaf(highest), leaf(lowest))
	}
	return list, all
}

// whole gives a grove with all the memory of its trees, in memory of its own, and how long they are.
func whole(g api.Grove) (all api.Grove, long []int) {
	g.Weights, g.Trees = slices.Clone(g.Weights), slices.Clone(g.Trees)
	for i, n := range g.Trees {
		g.Trees[i] = slices.Clone(n[:cap(n)])
		long = append(long, len(n))
	}
	return g, long
}

// scribble writes into all the memory of a list, also behind its length.
func scribble[T any](l []T, x T) {
	for i := range l[:cap(l)] {
		l[:cap(l)][i] = x
	}
}

// scribbleGrove writes into all the memory of a grove.
func scribbleGrove(g api.Grove) {
	for _, n := range g.Trees {
		scribble(n, leaf(77))
	}
	scribble(g.Weights, 78)
	scribble(g.Trees, says(79))
}

// TestNumStays: Num behind bytes that have room writes nothing there, and shares no memory with them.
func TestNumStays(t *testing.T) {
	for _, ahead := range aheads() {
		for _, n := range []int{0, -1, 64, lowest, highest} {
			b, all := guarded(ahead, bytes.Repeat(octets{99}, 20)...)
			was := slices.Clone(all)
			first, second := code.Num(b, n), code.Num(b, 5)
			if !bytes.Equal(all, was) {
				t.Errorf("Num of %d wrote into what was handed in, or behind it", n)
			}
			want := slices.Concat(ahead, plainNum(n))
			if !bytes.Equal(first, want) || !bytes.Equal(second, slices.Concat(ahead, octets{10})) {
				t.Errorf("Num of %d and of 5, behind the same bytes, = %v and %v", n, first, second)
			}
			scribble(second, 88)
			scribble(all, 89)
			if !bytes.Equal(first, want) {
				t.Errorf("what Num of %d gave changed with something else", n)
			}
			copy(all, was)
			scribble(first, 90)
			if !bytes.Equal(all, was) {
				t.Errorf("what was handed in changed with what Num of %d gave", n)
			}
		}
	}
}

// TestNumOnAndOn: numbers one behind the other are read one behind the other.
func TestNumOnAndOn(t *testing.T) {
	var b octets
	l := numbers()
	for _, n := range l {
		b = code.Num(b, n)
	}
	for _, n := range l {
		got, used, err := code.Get(b)
		if got != n || err != nil {
			t.Fatalf("Get = %d, %v, want %d", got, err, n)
		}
		b = b[used:]
	}
	if len(b) != 0 {
		t.Errorf("%d bytes are left", len(b))
	}
}

// TestBytesStay: Get and Decode leave what is handed in, and do not read behind it.
func TestBytesStay(t *testing.T) {
	var s noise = 8
	list := append([]octets{nil, {128}, bytes.Repeat(octets{255}, 9), make(octets, full), make(octets, full+1)}, tooWide()...)
	for _, g := range rights() {
		b := plainBytes(g)
		list = append(list, b, b[:len(b)-1], b[:len(b)/2], append(slices.Clone(b), 128))
	}
	for range 300 {
		list = append(list, s.spoiled())
	}
	for _, c := range list {
		for _, more := range []octets{{0}, {1, 0, 1, 0}, {255, 255, 255}, bytes.Repeat(octets{2}, full)} {
			b, all := guarded(c, more...)
			was := slices.Clone(all)
			n, used, e := plainGet(c)
			checkGet(t, b, n, used, e)
			checkDecode(t, "with memory behind", b)
			if !bytes.Equal(all, was) {
				t.Fatalf("%v was written into", c)
			}
		}
	}
}

// TestGrovesStay: Encode leaves what is handed in, and does not read behind it.
func TestGrovesStay(t *testing.T) {
	list := rights()
	for _, f := range flaws() {
		list = append(list, changed(three(api.Mean), f.change))
	}
	for _, c := range list {
		g, all := guardedGrove(c)
		was, long := whole(all)
		got, err := code.Encode(g)
		if e := told(grove.Check(c)); told(err) != e || e == none && !bytes.Equal(got, plainBytes(c)) {
			t.Fatalf("Encode of %v with memory behind = %v, %v", c, got, err)
		}
		if now, longNow := whole(all); !same(now, was) || !slices.Equal(longNow, long) {
			t.Fatalf("%v was written into", c)
		}
	}
}

// TestEncodeIsFresh: changing bytes that came changes nothing of the grove nor of what comes next, nor the other way round.
func TestEncodeIsFresh(t *testing.T) {
	for _, c := range rights() {
		g, want := copied(c), plainBytes(c)
		first, err := code.Encode(g)
		if err != nil {
			t.Fatal(err)
		}
		second, err := code.Encode(g)
		if err != nil {
			t.Fatal(err)
		}
		scribble(first, 77)
		if !same(g, c) || !bytes.Equal(second, want) {
			t.Fatalf("%v, or its bytes, changed as other bytes were written into", c)
		}
		third, err := code.Encode(g)
		scribbleGrove(g)
		if !bytes.Equal(second, want) || !bytes.Equal(third, want) || err != nil {
			t.Fatalf("the bytes of %v are %v and %v, as it was written into", c, second, third)
		}
	}
}

// TestDecodeIsFresh: changing a grove that came changes nothing of the bytes nor of what comes next, nor the other way round; and no two of its lists share memory.
func TestDecodeIsFresh(t *testing.T) {
	for _, c := range rights() {
		want := plainBytes(c)
		b := slices.Clone(want)
		first, _, err := code.Decode(b)
		if err != nil {
			t.Fatal(err)
		}
		second, _, err := code.Decode(b)
		if err != nil {
			t.Fatal(err)
		}
		for i := range first.Trees {
			scribble(first.Trees[i], leaf(77))
			for j, n := range first.Trees[i+1:] {
				if !slices.Equal(n, c.Trees[i+1+j]) {
					t.Fatalf("tree %d of %v changed as tree %d was written into", i+1+j, c, i)
				}
			}
		}
		if !slices.Equal(first.Weights, c.Weights) {
			t.Fatalf("the Weights of %v changed as its trees were written into", c)
		}
		scribbleGrove(first)
		if !bytes.Equal(b, want) || !same(second, c) {
			t.Fatalf("the bytes of %v, or what was read, changed as another was written into", c)
		}
		scribble(b, 80)
		if !same(second, c) {
			t.Fatalf("%v is %v, as its bytes were written into", c, second)
		}
	}
}

// TestTellsTheSame: a grove that was written and read tells of rows what it told.
func TestTellsTheSame(t *testing.T) {
	var s noise = 9
	for range 300 {
		g := s.grove(1+s.below(12), 31)
		b, err := code.Encode(g)
		if err != nil {
			t.Fatal(err)
		}
		again, _, err := code.Decode(b)
		if err != nil {
			t.Fatal(err)
		}
		for range 10 {
			row := make([]int, g.Features)
			for i := range row {
				row[i] = s.pick(api.Nil, s.cell())
			}
			want, err := grove.Eval(g, row)
			if got, bad := grove.Eval(again, row); got != want || err != nil || bad != nil {
				t.Fatalf("of %v it tells %d, %v, want %d, %v", row, got, bad, want, err)
			}
		}
	}
}

// TestSameAgain: the same answers come whatever was asked between.
func TestSameAgain(t *testing.T) {
	ask := func(g api.Grove, b octets) string {
		out, err := code.Encode(g)
		in, at, bad := code.Decode(b)
		n, used, ill := code.Get(b)
		return fmt.Sprintln(out, told(err), in, at, told(bad), n, used, told(ill), code.Num(b, at))
	}
	g, b := three(api.Sum), plainBytes(three(api.Vote))
	first := ask(g, b)
	ask(api.Grove{}, nil)
	ask(greatest(), b[:9])
	ask(g, make(octets, full+1))
	if again := ask(g, b); again != first {
		t.Errorf("it tells %s, and %s ahead", again, first)
	}
}
