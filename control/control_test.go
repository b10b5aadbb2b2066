package control_test

import (
	"math"
	"reflect"
	"runtime"
	"slices"
	"strconv"
	"strings"
	"testing"

	"lightship/api"
	"lightship/control"
	"lightship/datagram"
)

// hand is what is to be said, of which the answers are written out.
type hand struct {
	t *testing.T
	c *control.Control
}

func newHand(t *testing.T) hand {
	t.Helper()
	return hand{t, newControl(t)}
}

// asks: each of them may be.
func (h hand) asks(l ...api.Datagram) {
	h.t.Helper()
	for _, d := range l {
		if err := h.c.Ask(d); err != api.OK {
			h.t.Errorf("Ask(%s): %d, want OK", told(d), err)
		}
	}
}

func (h hand) refuses(d api.Datagram, want api.Errno) {
	h.t.Helper()
	if err := h.c.Ask(d); err != want {
		h.t.Errorf("Ask(%s): %d, want %d", told(d), err, want)
	}
}

// says: these come out, one behind the other.
func (h hand) says(l ...api.Datagram) {
	h.t.Helper()
	for _, want := range l {
		d, is := h.c.Next()
		if d.Kind != want.Kind || d.Stream != want.Stream || d.Block != want.Block || d.Index != want.Index || d.K != want.K || d.N != want.N || d.Len != want.Len || d.Credit != want.Credit || d.Have != want.Have || d.Body != want.Body || !is {
			h.t.Errorf("Next: %s, %t, want %s, true", told(d), is, told(want))
		}
	}
}

// saysNothing: there is none, as often as it is asked.
func (h hand) saysNothing() {
	h.t.Helper()
	for range 3 {
		if d, is := h.c.Next(); d != (api.Datagram{}) || is {
			h.t.Errorf("Next: %s, %t, want none", told(d), is)
		}
		h.many(0)
	}
}

func (h hand) many(want int) {
	h.t.Helper()
	if n := h.c.Len(); n != want {
		h.t.Errorf("Len: %d, want %d", n, want)
	}
}

func (h hand) drops(stream, want int) {
	h.t.Helper()
	if n := h.c.Drop(stream); n != want {
		h.t.Errorf("Drop(%d): %d, want %d", stream, n, want)
	}
}

func (h hand) cleans(stream int, base uint32, want int) {
	h.t.Helper()
	if n := h.c.Clean(stream, base); n != want {
		h.t.Errorf("Clean(%d, %d): %d, want %d", stream, base, n, want)
	}
}

// Promise 25.1: New.

func TestNew(t *testing.T) {
	for range 3 {
		h := newHand(t)
		h.many(0)
		h.saysNothing()
		h.drops(0, 0)
		h.cleans(0, 5, 0)
		h.many(0)
		h.saysNothing()
	}
	b := newBoth(t)
	b.end()
}

// Promise 25.1: the chapter's example, and some answers written out.

func TestExample(t *testing.T) {
	h := newHand(t)
	h.asks(ack(3, 5, 10))
	h.many(1)
	h.asks(ack(3, 6, 11))
	h.many(1)
	h.says(ack(3, 6, 11))
	h.saysNothing()
}

func TestByHand(t *testing.T) {
	h := newHand(t)
	h.asks(nack(1, 5, 1), ack(1, 5, 7), fin(1, 5), rst(1, 5))
	h.many(4)
	h.asks(nack(1, 6, 2), nack(2, 5, 3), ack(2, 5, 8))
	h.many(7)
	h.refuses(data(1, 5), api.ErrArg)
	h.refuses(api.Datagram{}, api.ErrArg)
	h.refuses(fin(256, 5), api.ErrRange)
	h.many(7)
	h.asks(nack(1, 5, 9), fin(1, 4294967295), ack(2, 0, 65535))
	h.many(7)
	h.says(nack(1, 5, 9), ack(1, 5, 7))
	h.many(5)
	h.asks(ack(1, 6, 0))
	h.many(6)
	h.drops(1, 3)
	h.many(3)
	h.drops(1, 0)
	h.cleans(2, 5, 0)
	h.cleans(1, 6, 0)
	h.many(3)
	h.cleans(2, 6, 1)
	h.many(2)
	h.asks(nack(2, 5, 4), fin(1, 2))
	h.many(4)
	h.says(rst(1, 5), ack(2, 0, 65535), nack(2, 5, 4), fin(1, 2))
	h.saysNothing()
	h.asks(rst(1, 6))
	h.many(1)
	h.says(rst(1, 6))
	h.saysNothing()
}

// Promise 25.1: Ask of what may not be.

// wrong is a datagram that may not be, and its error.
type wrong struct {
	d    api.Datagram
	want api.Errno
}

// good are one of each kind of datagrams, each of which Check lets through.
func good() []api.Datagram {
	return []api.Datagram{data(1, 5), repair(1, 5), nack(1, 5, 1), ack(1, 5, 7), fin(1, 5), rst(1, 5)}
}

// noKinds are none, and what else may be wrong of them is not asked.
func noKinds() []wrong {
	var l []wrong
	for _, kind := range append(farInts(), -2, -1, 0, 7, 8, 255, 256, 259, 262) {
		for _, d := range append(good(), api.Datagram{}, nack(256, 5, 1), ack(1, 5, -1)) {
			d.Kind = kind
			l = append(l, wrong{d, api.ErrArg})
		}
	}
	return l
}

// noStreamsOf are of no stream, and what else may be wrong of them is not asked.
func noStreamsOf() []wrong {
	var l []wrong
	for _, stream := range noStreams() {
		for _, d := range append(good(), ack(1, 5, -1), ack(1, 5, 65536), api.Datagram{Kind: api.Nack}, api.Datagram{Kind: api.Fin, Credit: 1}) {
			d.Stream = stream
			l = append(l, wrong{d, api.ErrRange})
		}
	}
	return l
}

// ownFaults are wrong in the fields that a Nack and an Ack have of their own; more of an Ack is not asked then.
func ownFaults() []wrong {
	var l []wrong
	for _, credit := range append(farInts(), -2, -1, 65536, 65537) {
		if credit < 0 || credit > 65535 {
			d := ack(1, 5, credit)
			l = append(l, wrong{d, api.ErrRange})
			d.Have = have(1)
			l = append(l, wrong{d, api.ErrRange})
		}
	}
	for _, size := range []int{0, 1, 30, 31, 33, 34, 64, 256, 288, 1 << 16} {
		d := nack(1, 5, 1)
		d.Have = strings.Repeat("\x01", size)
		l = append(l, wrong{d, api.ErrForm})
	}
	return l
}

// otherFields have a field that their kind has not.
func otherFields() []wrong {
	var l []wrong
	add := func(d api.Datagram, change func(d *api.Datagram)) {
		change(&d)
		l = append(l, wrong{d, api.ErrForm})
	}
	for _, d := range good() {
		shard := d.Kind == api.Data || d.Kind == api.Repair
		for _, n := range []int{-1, 1, 2, 32, 255, 65535, math.MaxInt, math.MinInt, 1 << 32} {
			if !shard {
				add(d, func(d *api.Datagram) { d.Index = n })
				add(d, func(d *api.Datagram) { d.K = n })
				add(d, func(d *api.Datagram) { d.N = n })
				add(d, func(d *api.Datagram) { d.Len = n })
			}
			if d.Kind != api.Ack {
				add(d, func(d *api.Datagram) { d.Credit = n })
			}
		}
		for _, s := range []string{"\x00", "x", have(1), have(1) + "x"} {
			if d.Kind != api.Nack {
				add(d, func(d *api.Datagram) { d.Have = s })
			}
			if !shard {
				add(d, func(d *api.Datagram) { d.Body = s })
			}
		}
	}
	return l
}

// shardFaults are a Data's and a Repair's own.
func shardFaults() []wrong {
	var l []wrong
	add := func(want api.Errno, d api.Datagram, change func(d *api.Datagram)) {
		change(&d)
		l = append(l, wrong{d, want})
	}
	for _, d := range []api.Datagram{data(1, 5), repair(1, 5)} {
		for _, k := range []int{-1, 0, 5, 33, math.MaxInt, math.MinInt} {
			add(api.ErrRange, d, func(d *api.Datagram) { d.K = k })
		}
		for _, n := range []int{-1, 0, 1, 256, math.MaxInt, math.MinInt} {
			add(api.ErrRange, d, func(d *api.Datagram) { d.N = n })
		}
		for _, index := range []int{-1, 4, 255, math.MaxInt, math.MinInt} {
			add(api.ErrRange, d, func(d *api.Datagram) { d.Index = index })
		}
		for _, size := range []int{-1, 0, 32769, math.MaxInt, math.MinInt} {
			add(api.ErrRange, d, func(d *api.Datagram) { d.Len = size })
		}
		for _, body := range []string{"", "ab", "abcd", strings.Repeat("x", 1025)} {
			add(api.ErrLong, d, func(d *api.Datagram) { d.Body = body })
			add(api.ErrLong, d, func(d *api.Datagram) { d.Body, d.Credit = body, 1 })
		}
		add(api.ErrLong, d, func(d *api.Datagram) { d.Len, d.Body = 2050, strings.Repeat("x", 1025) })
	}
	add(api.ErrRange, data(1, 5), func(d *api.Datagram) { d.Index = 2 })
	add(api.ErrRange, data(1, 5), func(d *api.Datagram) { d.Kind = api.Repair })
	add(api.ErrRange, repair(1, 5), func(d *api.Datagram) { d.Index = 1 })
	add(api.ErrRange, repair(1, 5), func(d *api.Datagram) { d.Kind = api.Data })
	return l
}

// shards may be, but not be asked for.
func shards() []wrong {
	var l []wrong
	add := func(d api.Datagram) { l = append(l, wrong{d, api.ErrArg}) }
	for _, stream := range streams() {
		for _, block := range blocks() {
			add(data(stream, block))
			add(repair(stream, block))
		}
	}
	for _, d := range []api.Datagram{
		{Index: 0, K: 1, N: 1, Len: 1, Body: "\x00"},
		{Index: 0, K: 1, N: 255, Len: 1024, Body: strings.Repeat("x", 1024)},
		{Index: 254, K: 1, N: 255, Len: 1, Body: "a"},
		{Index: 31, K: 32, N: 255, Len: 32768, Body: strings.Repeat("\xff", 1024)},
		{Index: 32, K: 32, N: 33, Len: 1, Body: "a"},
		{Index: 254, K: 32, N: 255, Len: 32768, Body: strings.Repeat("\xff", 1024)},
	} {
		d.Kind = api.Data
		if d.Index >= d.K {
			d.Kind = api.Repair
		}
		add(d)
	}
	return l
}

// wrongs are all of these.
func wrongs() []wrong {
	return slices.Concat(noKinds(), noStreamsOf(), ownFaults(), otherFields(), shardFaults(), shards())
}

// Chapter 10 says the same of each of them: only of shards that may be it has no error.
func TestWrongsAreWrong(t *testing.T) {
	many := map[api.Errno]int{}
	for _, x := range slices.Concat(noKinds(), noStreamsOf(), ownFaults(), otherFields(), shardFaults()) {
		many[x.want]++
		if err := datagram.Check(x.d); err != x.want {
			t.Errorf("Check(%s): %d, want %d", told(x.d), err, x.want)
		}
	}
	for _, err := range []api.Errno{api.ErrArg, api.ErrRange, api.ErrLong, api.ErrForm} {
		if many[err] == 0 {
			t.Errorf("none of error %d", err)
		}
	}
	for _, x := range shards() {
		if err := datagram.Check(x.d); err != api.OK {
			t.Errorf("Check(%s): %d, want OK", told(x.d), err)
		}
	}
}

// Some of each fault, with each answer written out.
func TestAskOfWrongByHand(t *testing.T) {
	h := newHand(t)
	h.asks(fin(9, 9))
	for _, kind := range []int{-1, 0, 7, math.MaxInt, math.MinInt} {
		h.refuses(api.Datagram{Kind: kind, Stream: 1, Block: 5}, api.ErrArg)
		h.refuses(api.Datagram{Kind: kind, Stream: -1, Block: 5, Have: have(1)}, api.ErrArg)
	}
	for _, stream := range []int{-1, 256, math.MaxInt, math.MinInt} {
		h.refuses(nack(stream, 5, 1), api.ErrRange)
		h.refuses(ack(stream, 5, 1), api.ErrRange)
		h.refuses(fin(stream, 5), api.ErrRange)
		h.refuses(rst(stream, 5), api.ErrRange)
		h.refuses(data(stream, 5), api.ErrRange)
		h.refuses(repair(stream, 5), api.ErrRange)
	}
	h.refuses(ack(1, 5, -1), api.ErrRange)
	h.refuses(ack(1, 5, 65536), api.ErrRange)
	for _, size := range []int{0, 31, 33} {
		h.refuses(api.Datagram{Kind: api.Nack, Stream: 1, Block: 5, Have: strings.Repeat("\xff", size)}, api.ErrForm)
	}
	h.refuses(api.Datagram{Kind: api.Nack, Stream: 1, Have: have(1), Credit: 1}, api.ErrForm)
	h.refuses(api.Datagram{Kind: api.Ack, Stream: 1, Have: have(1)}, api.ErrForm)
	h.refuses(api.Datagram{Kind: api.Fin, Stream: 1, Body: "x"}, api.ErrForm)
	h.refuses(api.Datagram{Kind: api.Rst, Stream: 1, K: 1}, api.ErrForm)
	h.refuses(api.Datagram{Kind: api.Data, Stream: 1}, api.ErrRange)
	h.refuses(api.Datagram{Kind: api.Data, Stream: 1, K: 1, N: 1, Len: 1}, api.ErrLong)
	h.refuses(api.Datagram{Kind: api.Data, Stream: 1, K: 1, N: 1, Len: 1, Body: "x", Credit: 1}, api.ErrForm)
	h.refuses(api.Datagram{Kind: api.Data, Stream: 1, K: 1, N: 1, Len: 1, Body: "x"}, api.ErrArg)
	h.refuses(api.Datagram{Kind: api.Repair, Stream: 1, K: 1, N: 2, Index: 1, Len: 1, Body: "x"}, api.ErrArg)
	h.many(1)
	h.says(fin(9, 9))
	h.saysNothing()
}

// Each error, whatever is there: nothing has changed.
func TestAskOfWrongChangesNothing(t *testing.T) {
	for _, there := range states() {
		all := newBoth(t, there...)
		for _, x := range wrongs() {
			b := newBoth(t, there...)
			for range 2 {
				if err := b.ask(x.d); err != x.want {
					t.Fatalf("%s: %d, want %d", b.told(), err, x.want)
				}
				b.stays(there, "refused")
			}
			b.drain()
			all.ask(x.d)
		}
		all.stays(there, "refused")
		all.end()
	}
}

// What is refused takes no place either: of one whose subject is there, with one fault, and of one that is not there, which is asked for behind it without the fault.
func TestWhatIsRefusedTakesNoPlace(t *testing.T) {
	for _, kind := range kinds() {
		there := []api.Datagram{rst(7, 1), sayable(kind, 1, 5, 1), fin(7, 2)}
		faults := []api.Datagram{sayable(kind, 1, 5, 2), sayable(kind, 2, 5, 2), sayable(kind, 1, 6, 2)}
		for _, d := range faults {
			for _, change := range []func(d *api.Datagram){
				func(d *api.Datagram) { d.Index = 1 },
				func(d *api.Datagram) { d.Body = "x" },
				func(d *api.Datagram) { d.Have += "x" },
				func(d *api.Datagram) { d.Credit -= 3 },
			} {
				b := newBoth(t, there...)
				spoiled := d
				change(&spoiled)
				if err := b.ask(spoiled); err == api.OK {
					t.Fatalf("%s: OK", b.told())
				}
				b.stays(there, "refused")
				b.ask(d)
				b.end()
			}
		}
	}
}

// Promise 25.1: Ask of what may be.

// Of each kind, stream and block, whatever is there of other streams: it is the last one.
func TestAskedIsTheLastOne(t *testing.T) {
	for _, there := range [][]api.Datagram{nil, {nack(9, 7, 1)}, {rst(9, 7), ack(9, 7, 1), fin(9, 7), nack(9, 8, 1)}} {
		for _, kind := range kinds() {
			for _, stream := range streams() {
				for _, block := range blocks() {
					h := newHand(t)
					h.asks(there...)
					d := sayable(kind, stream, block, int(block%65536))
					h.asks(d)
					h.many(len(there) + 1)
					h.says(there...)
					h.says(d)
					h.saysNothing()
				}
			}
		}
	}
}

// At the edges of what a Nack and an Ack have of their own.
func TestAskAtTheEdges(t *testing.T) {
	h := newHand(t)
	l := []api.Datagram{ack(0, 0, 0), ack(1, 0, 65535), ack(2, 0, 1), ack(255, math.MaxUint32, 65534), {Kind: api.Nack, Have: strings.Repeat("\x00", 32)}, {Kind: api.Nack, Block: 1, Have: strings.Repeat("\xff", 32)}, {Kind: api.Fin}, {Kind: api.Rst}}
	h.asks(l...)
	h.many(len(l))
	h.says(l...)
	h.saysNothing()
}

// One whose place is there takes it, wherever it is: at the head, in the middle and at the end, and all fields are the new one's.
func TestTakesThePlace(t *testing.T) {
	l := several()
	for place := range l {
		h := newHand(t)
		h.asks(l...)
		want := slices.Clone(l)
		want[place] = newer(l[place])
		if want[place] == l[place] {
			t.Fatalf("%s is no other one", told(l[place]))
		}
		h.asks(want[place])
		h.many(len(l))
		h.says(want...)
		h.saysNothing()
	}
}

// Each kind's fields at the head, in the middle and at the end, written out.
func TestTakesThePlaceByHand(t *testing.T) {
	for _, x := range []struct{ old, now api.Datagram }{
		{nack(1, 5, 1), nack(1, 5, 2)},
		{nack(1, 5, 1), api.Datagram{Kind: 3, Stream: 1, Block: 5, Have: strings.Repeat("\x00", 32)}},
		{nack(1, math.MaxUint32, 1), nack(1, math.MaxUint32, 300)},
		{ack(1, 5, 100), ack(1, 6, 200)},
		{ack(1, 5, 100), ack(1, 5, 99)},
		{ack(1, 5, 100), ack(1, 4, 100)},
		{ack(1, 5, 100), ack(1, 0, 0)},
		{fin(1, 5), fin(1, 6)},
		{fin(1, 5), fin(1, 0)},
		{rst(1, 5), rst(1, math.MaxUint32)},
		{rst(1, 5), rst(1, 4)},
		{fin(1, 5), fin(1, 5)},
	} {
		for place := range 3 {
			l := slices.Insert([]api.Datagram{ack(2, 5, 100), nack(2, 5, 1)}, place, x.old)
			h := newHand(t)
			h.asks(l...)
			h.many(3)
			h.asks(x.now)
			h.many(3)
			h.asks(x.old)
			h.asks(x.now)
			h.many(3)
			l[place] = x.now
			h.says(l...)
			h.saysNothing()
		}
	}
}

// Of a place that is taken many times the last one alone is said.
func TestTakesThePlaceManyTimes(t *testing.T) {
	for _, kind := range kinds() {
		h := newHand(t)
		h.asks(rst(9, 1))
		for n := range 300 {
			block := uint32(5)
			if kind != api.Nack {
				block = uint32(n)
			}
			h.asks(sayable(kind, 1, block, n))
			h.many(2)
		}
		last := sayable(kind, 1, 299, 299)
		if kind == api.Nack {
			last.Block = 5
		}
		h.says(rst(9, 1), last)
		h.saysNothing()
	}
}

// Two of the same kind and stream: of an Ack, Fin or Rst the second one alone, whatever their Blocks, and of a Nack both, unless its Block is the same.
func TestTwoOfAStream(t *testing.T) {
	for _, stream := range streams() {
		for _, block := range blocks() {
			for _, other := range append(blocks(), block) {
				for _, kind := range kinds() {
					first, second := sayable(kind, stream, block, 1), sayable(kind, stream, other, 2)
					h := newHand(t)
					h.asks(first, second)
					if kind == api.Nack && block != other {
						h.many(2)
						h.says(first)
					}
					h.many(1)
					h.says(second)
					h.saysNothing()
				}
			}
		}
	}
}

// The same kind of different streams, and different kinds of the same stream: all of them are said.
func TestAllOfOtherStreamsAndKinds(t *testing.T) {
	var streamsOf, kindsOf, allOf []api.Datagram
	for kind := api.Nack; kind <= api.Rst; kind++ {
		kindsOf = append(kindsOf, sayable(kind, 1, 5, 1))
		streamsOf = nil
		for stream := range 256 {
			streamsOf = append(streamsOf, sayable(kind, stream, 5, 1))
		}
		allOf = append(allOf, streamsOf...)
		h := newHand(t)
		h.asks(streamsOf...)
		h.many(256)
		h.says(streamsOf...)
		h.saysNothing()
	}
	h := newHand(t)
	h.asks(kindsOf...)
	h.many(4)
	h.says(kindsOf...)
	h.saysNothing()
	h.asks(allOf...)
	h.many(1024)
	h.asks(allOf...)
	h.many(1024)
	h.says(allOf...)
	h.saysNothing()
}

// Each pair of some of them: both are there, unless kind and stream, and of Nacks block, are the same.
func TestEachPair(t *testing.T) {
	var l []api.Datagram
	for _, kind := range kinds() {
		for _, stream := range []int{0, 1, 255} {
			for _, block := range []uint32{0, 1, 5, 1 << 31, math.MaxUint32} {
				l = append(l, sayable(kind, stream, block, 1))
			}
		}
	}
	for _, first := range l {
		for _, second := range l {
			b := newBoth(t, first, second)
			many := 2
			if first.Kind == second.Kind && first.Stream == second.Stream && (first.Kind != api.Nack || first.Block == second.Block) {
				many = 1
			}
			if b.got.Len() != many {
				t.Fatalf("%s: Len %d, want %d", b.told(), b.got.Len(), many)
			}
			b.end()
		}
	}
}

// Promise 25.1: Next.

// The first one comes, and is gone: asked for anew it is the last one.
func TestNext(t *testing.T) {
	l := several()
	h := newHand(t)
	h.asks(l...)
	for range 3 {
		for i, d := range l {
			h.says(d)
			h.many(len(l) - 1)
			l[i] = newer(d)
			h.asks(l[i])
			h.many(len(l))
		}
	}
	h.says(l...)
	h.saysNothing()
	h.asks(l[3])
	h.many(1)
	h.says(l[3])
	h.saysNothing()
}

// As often as they come in and go, with each number of those that wait.
func TestNextByTurns(t *testing.T) {
	for many := range 40 {
		b := newBoth(t)
		for i := range many {
			b.ask(sayable(3+i%4, i, uint32(i), i))
		}
		for i := range 150 {
			b.next()
			b.ask(sayable(3+i%3, (many+i)%64, uint32(i), i))
		}
		b.drain()
		for i := range 5 {
			b.ask(sayable(3+i%3, i, uint32(i), i))
			b.drain()
		}
	}
}

// Promise 25.1: Drop.

// Of each stream of several that are there, as they are, and with another call ahead.
func TestDrop(t *testing.T) {
	for _, there := range states() {
		for _, stream := range append(streams(), 3) {
			b := newBoth(t, there...)
			var stay []api.Datagram
			for _, d := range there {
				if d.Stream != stream || d.Kind == api.Rst {
					stay = append(stay, d)
				}
			}
			if gone := b.drop(stream); gone != len(there)-len(stay) {
				t.Fatalf("%s: %d, want %d", b.told(), gone, len(there)-len(stay))
			}
			b.stays(stay, "dropped")
			if gone := b.drop(stream); gone != 0 {
				t.Fatalf("%s: %d, want 0", b.told(), gone)
			}
			b.end()
			c := newBoth(t, there...)
			c.next()
			c.drop(stream)
			c.drop(stream)
			c.drain()
		}
	}
}

func TestDropByHand(t *testing.T) {
	h := newHand(t)
	l := []api.Datagram{nack(1, 5, 1), rst(1, 5), ack(2, 5, 1), ack(1, 5, 1), nack(1, 6, 1), nack(2, 6, 1), fin(1, 5), rst(2, 5), fin(0, 5), nack(1, 4, 1)}
	h.asks(l...)
	h.drops(1, 5)
	h.many(5)
	h.drops(1, 0)
	h.drops(3, 0)
	h.drops(255, 0)
	h.many(5)
	h.says(rst(1, 5))
	h.drops(2, 2)
	h.many(2)
	h.asks(ack(1, 7, 1))
	h.says(rst(2, 5), fin(0, 5))
	h.drops(1, 1)
	h.saysNothing()
	h.drops(0, 0)
	h.asks(fin(0, 6), rst(0, 6))
	h.drops(0, 1)
	h.says(rst(0, 6))
	h.saysNothing()
}

// Of what was dropped a newer one is the last one, and of an Rst that stays it takes its place.
func TestAskBehindDrop(t *testing.T) {
	for _, kind := range kinds() {
		h := newHand(t)
		h.asks(sayable(kind, 1, 5, 1), ack(2, 5, 1), rst(2, 6))
		if kind == api.Rst {
			h.drops(1, 0)
			h.asks(rst(1, 7))
			h.says(rst(1, 7), ack(2, 5, 1), rst(2, 6))
		} else {
			h.drops(1, 1)
			h.asks(sayable(kind, 1, 5, 2))
			h.many(3)
			h.says(ack(2, 5, 1), rst(2, 6), sayable(kind, 1, 5, 2))
		}
		h.saysNothing()
	}
}

// Streams of which nothing is there, and those that are none.
func TestDropOfNone(t *testing.T) {
	for _, there := range states() {
		b := newBoth(t, there...)
		for _, stream := range append(noStreams(), 4, 7, 100, 126, 129, 253) {
			if gone := b.drop(stream); gone != 0 {
				t.Fatalf("%s: %d, want 0", b.told(), gone)
			}
		}
		b.stays(there, "of no stream")
		b.end()
	}
}

// Promise 25.1: Clean.

// Of each base beside each block, near and far.
func TestClean(t *testing.T) {
	for _, base := range blocks() {
		for _, far := range []uint32{0, 1, 2, 63, 64, 65, 255, 256, 1 << 16, 1 << 30, 1<<31 - 2, 1<<31 - 1, 1 << 31, 1<<31 + 1, 1<<31 + 2} {
			for _, block := range []uint32{base + far, base - far} {
				there := []api.Datagram{nack(2, block, 1), ack(1, block, 1), nack(1, block, 2), fin(1, block), nack(1, base, 3), rst(1, block), nack(1, base+1, 4)}
				b := newBoth(t, there...)
				b.clean(1, base)
				b.clean(1, base)
				b.end()
			}
		}
	}
}

// Which Blocks are less is written out: at a distance of 2^31 neither one is.
func TestCleanByHand(t *testing.T) {
	for _, x := range []struct {
		base, block uint32
		gone        int
	}{
		{5, 4, 1}, {5, 5, 0}, {5, 6, 0}, {5, 0, 1}, {5, 1000, 0},
		{0, 4294967295, 1}, {0, 0, 0}, {0, 1, 0}, {1, 0, 1}, {1, 4294967295, 1},
		{4294967295, 0, 0}, {4294967295, 4294967295, 0}, {4294967295, 4294967294, 1}, {4294967295, 1, 0},
		{2147483647, 0, 1}, {2147483648, 0, 0}, {2147483649, 0, 0},
		{0, 2147483647, 0}, {0, 2147483648, 0}, {0, 2147483649, 1},
		{2147483652, 5, 1}, {2147483653, 5, 0}, {2147483654, 5, 0},
		{5, 2147483652, 0}, {5, 2147483653, 0}, {5, 2147483654, 1},
		{4294967295, 2147483648, 1}, {4294967295, 2147483647, 0}, {4294967295, 2147483646, 0},
		{2147483648, 4294967295, 0}, {2147483647, 4294967295, 0}, {2147483646, 4294967295, 1},
		{2147483647, 2147483648, 0}, {2147483648, 2147483647, 1},
	} {
		for _, stream := range streams() {
			h := newHand(t)
			h.asks(nack(stream, x.block, 1))
			h.cleans(stream, x.base, x.gone)
			h.many(1 - x.gone)
			h.cleans(stream, x.base, 0)
			h.asks(nack(stream, x.block, 2))
			h.many(1)
			h.says(nack(stream, x.block, 2))
			h.saysNothing()
		}
	}
}

// Nacks of other streams, and what is no Nack, stay, though their Blocks are less; and so does the others' order.
func TestCleanOfSeveral(t *testing.T) {
	h := newHand(t)
	l := []api.Datagram{nack(1, 9, 1), ack(1, 3, 1), nack(1, 7, 2), nack(2, 3, 3), fin(1, 3), nack(1, 8, 4), rst(1, 3), nack(1, 4294967295, 5), nack(0, 4294967295, 6), nack(1, 10, 7), ack(2, 3, 1)}
	h.asks(l...)
	h.cleans(1, 4294967295, 0)
	h.cleans(3, 9, 0)
	h.many(11)
	h.cleans(1, 9, 3)
	h.many(8)
	h.cleans(1, 9, 0)
	h.cleans(1, 8, 0)
	h.many(8)
	h.asks(nack(1, 8, 9), nack(1, 9, 8))
	h.many(9)
	h.cleans(2, 4, 1)
	h.says(nack(1, 9, 8), ack(1, 3, 1), fin(1, 3), rst(1, 3), nack(0, 4294967295, 6), nack(1, 10, 7), ack(2, 3, 1), nack(1, 8, 9))
	h.saysNothing()
	h.cleans(1, 9, 0)
}

// Each base from ahead of the first one to behind the last one, of Nacks that go once round, in several orders.
func TestCleanOfEachBase(t *testing.T) {
	for _, first := range []uint32{0, 100, 1<<31 - 8, math.MaxUint32 - 7, math.MaxUint32} {
		for _, step := range []int{1, 3, 7, 15} {
			for base := range uint32(20) {
				b := newBoth(t)
				for i := range 16 {
					place := uint32(i * step % 16)
					b.ask(nack(1, first+place, i))
					b.ask(nack(2, first+place, i))
				}
				want := max(0, min(16, int(base)-2))
				if gone := b.clean(1, first+base-2); gone != want {
					t.Fatalf("%s: %d, want %d", b.told(), gone, want)
				}
				if gone := b.clean(1, first+base-2); gone != 0 {
					t.Fatalf("%s: %d, want 0", b.told(), gone)
				}
				b.end()
			}
		}
	}
}

// Streams of which nothing is there, and those that are none.
func TestCleanOfNone(t *testing.T) {
	for _, there := range states() {
		b := newBoth(t, there...)
		for _, stream := range append(noStreams(), 4, 7, 100, 126, 129, 253) {
			for _, base := range []uint32{0, 9, 1 << 31, math.MaxUint32} {
				if gone := b.clean(stream, base); gone != 0 {
					t.Fatalf("%s: %d, want 0", b.told(), gone)
				}
			}
		}
		b.stays(there, "of no stream")
		b.end()
	}
}

// Promise 25.1: many calls of all kinds.

// one makes one of the kinds of calls; n is seen in what is asked for.
func (b *both) one(i, n int) {
	switch i {
	case 0:
		b.next()
	case 1:
		b.ask(nack(1, 5, n))
	case 2:
		b.ask(nack(1, 6, n))
	case 3:
		b.ask(nack(2, 5, n))
	case 4:
		b.ask(ack(1, uint32(n), n))
	case 5:
		b.ask(rst(1, uint32(n)))
	case 6:
		b.ask(fin(2, uint32(n)))
	case 7:
		b.drop(1)
	case 8:
		b.drop(2)
	case 9:
		b.clean(1, 6)
	case 10:
		b.ask(data(1, 5))
	}
}

func TestEachRowOfCalls(t *testing.T) {
	const kinds, length = 11, 5
	many := 1
	for range length {
		many *= kinds
	}
	for row := range many {
		b := newBoth(t)
		left := row
		for n := range length {
			b.one(left%kinds, n+1)
			left /= kinds
		}
		b.drain()
	}
}

// From several that are there on, with each of them asked for anew at the end.
func TestEachRowOfCallsFromSeveral(t *testing.T) {
	const kinds, length = 11, 3
	for row := range kinds * kinds * kinds {
		b := newBoth(t, several()...)
		left := row
		for n := range length {
			b.one(left%kinds, n+1)
			left /= kinds
		}
		b.end()
	}
}

// mix makes many calls on a few streams and blocks, the next one by chance of a fixed seed.
func mix(t *testing.T, many, streams, blocks int, first uint32, seed uint64) {
	t.Helper()
	b, d := newBoth(t), dice(seed)
	faults := wrongs()
	comes := 8
	for range many {
		stream, block := d.below(streams), first+uint32(d.below(blocks))
		switch turn := d.below(24); {
		case turn < comes:
			b.ask(sayable(3+d.below(4), stream, block, d.below(65536)))
		case turn < 12:
			b.ask(nack(stream, block, d.below(65536)))
		case turn < 16:
			b.next()
		case turn < 18:
			b.drop(stream)
		case turn < 20:
			b.clean(stream, block)
		case turn == 20:
			b.ask(faults[d.below(len(faults))].d)
		case turn == 21:
			b.clean(stream, block+1<<31-1+uint32(d.below(3)))
		case turn == 22 && d.below(4) == 0:
			b.drain()
		default:
			comes = 1 + d.below(11)
		}
	}
	b.end()
}

func TestMixed(t *testing.T) {
	for seed := range uint64(20) {
		for _, first := range []uint32{0, 1<<31 - 2, math.MaxUint32 - 1, uint32(seed * 99991)} {
			mix(t, 400, 1, 3, first, seed+1)
			mix(t, 400, 2, 4, first, seed+50)
			mix(t, 400, 4, 2, first, seed+100)
			mix(t, 400, 256, 16, first, seed+150)
		}
	}
}

// As much as an endpoint with the greatest window may have to say, and more: it is found, taken, dropped and cleaned all the same.
func TestVeryMany(t *testing.T) {
	c := newControl(t)
	const blocks = 400
	for _, round := range []int{1, 2} {
		for stream := range 256 {
			for i := range blocks {
				if err := c.Ask(nack(stream, math.MaxUint32-uint32(100)+uint32(i), i+round)); err != api.OK {
					t.Fatal(err)
				}
			}
			c.Ask(rst(stream, uint32(round)))
		}
		if c.Len() != 256*(blocks+1) {
			t.Fatalf("Len: %d, want %d", c.Len(), 256*(blocks+1))
		}
	}
	for stream := range 256 {
		switch stream % 3 {
		case 0:
			if gone := c.Drop(stream); gone != blocks {
				t.Fatalf("Drop(%d): %d", stream, gone)
			}
		case 1:
			if gone := c.Clean(stream, 0); gone != 101 {
				t.Fatalf("Clean(%d, 0): %d", stream, gone)
			}
		}
	}
	h := hand{t, c}
	for stream := range 256 {
		for i := []int{blocks, 101, 0}[stream%3]; i < blocks; i++ {
			h.says(nack(stream, math.MaxUint32-uint32(100)+uint32(i), i+2))
		}
		h.says(rst(stream, 2))
	}
	h.saysNothing()
}

// R4 and R5: what was answered stays as it was, and hangs on what was done to the same thing alone.

func TestAnswersStay(t *testing.T) {
	c := newControl(t)
	var got, copies []api.Datagram
	for n := range 500 {
		for i, d := range several() {
			c.Ask(d)
			if i%3 == 0 {
				c.Ask(newer(d))
			}
			if i%2 == n%2 {
				d, _ := c.Next()
				got = append(got, d)
				d.Have = strings.Clone(d.Have)
				copies = append(copies, d)
				c.Ask(newer(api.Datagram{Kind: api.Fin, Stream: n % 256}))
			}
		}
		c.Drop(n % 3)
		c.Clean(255, uint32(n))
	}
	if !slices.Equal(got, copies) {
		t.Error("what was answered is another now")
	}
}

func TestTwoKnowNothingOfEachOther(t *testing.T) {
	first, second := newBoth(t), newBoth(t)
	d := dice(2)
	for n := range 300 {
		first.one(d.below(11), n)
		second.count()
		second.one(d.below(11), 1000+n)
		first.count()
		if n%20 == 0 {
			first.turn()
			second.turn()
		}
	}
	first.end()
	second.end()
	a, b := newHand(t), newHand(t)
	a.asks(several()...)
	b.saysNothing()
	b.asks(fin(1, 1))
	b.drops(2, 0)
	a.drops(1, 5)
	a.asks(fin(1, 2))
	a.many(12)
	b.many(1)
	b.says(fin(1, 1))
	b.saysNothing()
}

// R5: the same calls are answered alike, however often they are made.
func TestTheSameOnceMore(t *testing.T) {
	row := func() string {
		c, d, s := newControl(t), dice(9), ""
		for n := range 1500 {
			stream, block := d.below(6), uint32(d.below(9))
			switch d.below(8) {
			case 0, 1:
				got, is := c.Next()
				s += told(got) + strconv.FormatBool(is)
			case 2:
				s += strconv.Itoa(c.Drop(stream))
			case 3:
				s += strconv.Itoa(c.Clean(stream, block))
			default:
				s += strconv.Itoa(int(c.Ask(sayable(2+d.below(5), stream, block, n))))
			}
			s += "," + strconv.Itoa(c.Len()) + ";"
		}
		return s
	}
	if first := row(); row() != first || row() != first {
		t.Error("the same calls were answered in another way")
	}
}

// held is how many bytes of memory are in use.
func held() int {
	var m runtime.MemStats
	runtime.GC()
	runtime.ReadMemStats(&m)
	return int(m.HeapAlloc)
}

// large is a Nack whose marks are a piece of a text of that size, so that it is seen whether it is kept.
func large(stream int, block uint32, size int) api.Datagram {
	d := nack(stream, block, 1)
	d.Have = string(make([]byte, size))[:32]
	return d
}

// What is gone, or had its place taken, or was refused, is not kept: its memory is free for others.
func TestWhatIsGoneIsNotKept(t *testing.T) {
	const size, many = 1 << 20, 40
	for name, away := range map[string]func(c *control.Control){
		"Next": func(c *control.Control) {
			for range many - 1 {
				c.Next()
			}
		},
		"Drop":  func(c *control.Control) { c.Drop(1) },
		"Clean": func(c *control.Control) { c.Clean(1, many) },
		"Ask": func(c *control.Control) {
			for i := range uint32(many) {
				c.Ask(nack(1, i, 2))
			}
		},
	} {
		c := newControl(t)
		before := held()
		for i := range uint32(many) {
			c.Ask(large(1, i, size))
		}
		c.Ask(fin(2, 1))
		c.Ask(rst(1, 1))
		away(c)
		if more := held() - before; more > 8*size {
			t.Errorf("%s: %d bytes are held", name, more)
		}
		if c.Len() == 0 {
			t.Errorf("%s: none is left", name)
		}
	}
	c := newControl(t)
	before := held()
	for i := range uint32(many) {
		d := large(1, i, size)
		d.Credit = 1
		if err := c.Ask(d); err != api.ErrForm {
			t.Errorf("Ask(%s): %d, want ErrForm", told(d), err)
		}
	}
	if more := held() - before; more > 8*size || c.Len() != 0 {
		t.Errorf("%d bytes are held of none", more)
	}
}

// However many went through, no more is held than of one that is new.
func TestWhatIsHeldDoesNotGrow(t *testing.T) {
	for _, many := range []int{0, 1, 50} {
		c := newControl(t)
		for i := range many {
			c.Ask(nack(9, uint32(i), i))
		}
		before := held()
		for i := range 300000 {
			c.Ask(nack(1, uint32(i), i))
			switch {
			case i%3 == 0:
				c.Clean(1, uint32(i)+1)
			case i%3 == 1:
				c.Drop(1)
			default:
				first, _ := c.Next()
				if first.Stream == 9 {
					c.Ask(first)
					c.Clean(1, uint32(i)+1)
				}
			}
		}
		if more := held() - before; more > 1<<19 || c.Len() != many {
			t.Errorf("%d bytes are held; Len %d, want %d", more, c.Len(), many)
		}
	}
}

// R1: on nil nothing happens, and all answers are none; of Ask it is ErrNil, whatever is handed in.
func TestNil(t *testing.T) {
	h := hand{t, nil}
	for range 2 {
		for _, d := range append(several(), api.Datagram{}) {
			h.refuses(d, api.ErrNil)
		}
		for _, x := range wrongs() {
			h.refuses(x.d, api.ErrNil)
		}
		h.saysNothing()
		for _, stream := range append(streams(), noStreams()...) {
			h.drops(stream, 0)
			for _, base := range blocks() {
				h.cleans(stream, base, 0)
			}
		}
		h.many(0)
	}
	b := newBoth(t, several()...)
	h.refuses(fin(3, 3), api.ErrNil)
	h.drops(1, 0)
	b.end()
}

// The chapter lists five calls on it, and it has no others.
func TestNoOtherCalls(t *testing.T) {
	var got []string
	is := reflect.TypeFor[*control.Control]()
	for i := range is.NumMethod() {
		got = append(got, is.Method(i).Name)
	}
	if want := []string{"Ask", "Clean", "Drop", "Len", "Next"}; !slices.Equal(got, want) {
		t.Errorf("%v, want %v", got, want)
	}
}
