package endpoint_test

import (
	"testing"

	"lightship/api"
)

// Promise 30.3: each step by itself.

// 28's Deliver, and an Ack of what came.
func TestSettleDelivers(t *testing.T) {
	h := newHand(t, wide(4, 4, 4, 100))
	h.refused(opening(3, 1), api.OK)
	h.recv(block(3, 1, "bb"))
	h.works()
	// It was put, and waits for the one ahead of it.
	h.load(0, 0, 0, 2, 1, 1)
	h.sends(ack(3, 0, 4))
	h.recv(block(3, 2, "ccc"))
	h.works()
	h.sends(ack(3, 0, 4))
	h.recv(block(3, 0, "aaaa"))
	h.sends()
	h.works()
	h.sends(ack(3, 3, 4))
	h.load(0, 0, 0, 9, 0, 1)
	h.answered(reading(3, 100), api.Answer{Body: "aaaabbccc"})
	h.sends()
}

// The Ack's Credit is the Window.
func TestAckHasTheWindow(t *testing.T) {
	for _, window := range []int{1, 2, 7, 64} {
		h := newHand(t, wide(4, window, 4, 100))
		h.recv(block(3, 0, "a"))
		h.works()
		h.sends(ack(3, 1, window))
	}
}

// The end is heard of once: the state by EvFin, and an Ack that is one more.
func TestSettleEnds(t *testing.T) {
	for _, state := range []int{api.Opened, api.Local} {
		h := in(t, wide(4, 4, 4, 100), true, state)
		h.recv(block(3, 0, "abc"))
		h.recv(fin(3, 1))
		h.state(3, state)
		h.sends(ack(3, 0, 4))
		h.works()
		h.state(3, state+2)
		h.sends(ack(3, 2, 4))
		// Behind it a Fin is answered, and the state stays.
		h.recv(fin(3, 1))
		h.state(3, state+2)
		h.sends(ack(3, 2, 4))
		h.recv(ack(3, 0, 4))
		h.sends()
		h.answered(reading(3, 9), api.Answer{Body: "abc"})
		h.sends()
		h.refused(reading(3, 9), api.ErrEOF)
		h.state(3, state+2)
	}
}

// An end that comes first by the Fin itself.
func TestSettleEndsByFin(t *testing.T) {
	h := in(t, wide(4, 4, 4, 100), true, api.Opened)
	h.begin(reading(3, 2))
	h.recv(block(3, 0, "abc"))
	h.works(got(2, "ab"))
	h.drop()
	h.begin(reading(3, 9), got(3, "c"))
	h.begin(reading(3, 9))
	h.recv(fin(3, 1), failed(4, api.ErrEOF))
	h.state(3, api.Remote)
	h.sends(ack(3, 2, 4))
}

// A read that waits is answered ahead of the second Deliver, for which it makes room: what that delivers is said, and so is the end.
func TestSettleDeliversOnceMore(t *testing.T) {
	for _, ends := range []bool{false, true} {
		h := in(t, wide(4, 4, 4, 4), true, api.Opened)
		h.begin(reading(3, 3))
		h.recv(block(3, 1, "e"))
		h.works()
		h.recv(block(3, 2, "fgh"))
		h.works()
		if ends {
			h.recv(fin(3, 3))
		}
		h.drop()
		h.recv(block(3, 0, "abcd"))
		h.state(3, api.Opened)
		h.works(got(2, "abc"))
		// Of the queue's four bytes one is left, so that one block more came in.
		h.sends(ack(3, 2, 4))
		h.load(0, 0, 0, 5, 0, 1)
		h.answered(reading(3, 1), api.Answer{Body: "d"})
		if ends {
			h.state(3, api.Remote)
			h.sends(ack(3, 4, 4))
		} else {
			h.state(3, api.Opened)
			h.sends(ack(3, 3, 4))
		}
		h.answered(reading(3, 9), api.Answer{Body: "efgh"})
	}
}

// The end comes by the second Deliver, while a read is answered.
func TestSettleEndsOnceMore(t *testing.T) {
	h := in(t, wide(4, 4, 4, 4), true, api.Local)
	h.begin(reading(3, 4))
	h.recv(block(3, 1, "efgh"))
	h.works()
	h.recv(fin(3, 2))
	h.drop()
	h.recv(block(3, 0, "abcd"))
	h.works(got(3, "abcd"))
	h.state(3, api.Shut)
	h.sends(ack(3, 3, 4))
	h.answered(reading(3, 4), api.Answer{Body: "efgh"})
	h.refused(reading(3, 4), api.ErrEOF)
}

// A write that waits is answered behind Fill, and what it wrote is filled again.
func TestSettleWritesAndFills(t *testing.T) {
	h := in(t, wide(2, 2, 2, 9), true, api.Opened)
	h.answered(writing(3, "ab"), api.Answer{N: 2})
	h.answered(writing(3, "cd"), api.Answer{N: 2})
	h.answered(writing(3, "ef"), api.Answer{N: 2})
	h.begin(writing(3, "ghij"))
	h.sends(block(3, 0, "ab"), block(3, 1, "cd"))
	// Two blocks may fly: what waits to be cut flies, the write is answered, and what it wrote flies, too.
	h.recv(ack(3, 2, 2), wrote(5, 2))
	h.load(0, 0, 4, 0, 0, 1)
	h.sends(block(3, 2, "ef"), block(3, 3, "gh"))
	h.answered(writing(3, "ij"), api.Answer{N: 2})
	h.begin(writing(3, "k"))
	h.sends()
	h.recv(ack(3, 3, 2), wrote(7, 1))
	h.sends(block(3, 4, "ij"))
	h.load(0, 0, 5, 0, 0, 1)
}

// Less than a block flies only where none does.
func TestSettleFillsLess(t *testing.T) {
	h := in(t, wide(3, 4, 9, 9), true, api.Opened)
	h.answered(writing(3, "a"), api.Answer{N: 1})
	h.answered(writing(3, "b"), api.Answer{N: 1})
	h.sends(block(3, 0, "a"))
	h.recv(ack(3, 1, 4))
	h.sends(block(3, 1, "b"))
	h.answered(writing(3, "cdefg"), api.Answer{N: 5})
	h.sends(block(3, 2, "cde"))
	h.answered(writing(3, "hi"), api.Answer{N: 2})
	h.sends(block(3, 3, "fgh"))
	h.recv(ack(3, 3, 4))
	h.sends()
	h.recv(ack(3, 4, 4))
	h.sends(block(3, 4, "i"))
}

// The edge of an Ack, not the window alone, lets blocks fly.
func TestSettleFillsUpToTheEdge(t *testing.T) {
	h := in(t, wide(1, 4, 9, 9), true, api.Opened)
	h.answered(writing(3, "abcdef"), api.Answer{N: 6})
	h.sends(block(3, 0, "a"), block(3, 1, "b"), block(3, 2, "c"), block(3, 3, "d"))
	h.recv(ack(3, 4, 0))
	h.sends()
	h.recv(ack(3, 4, 1))
	h.sends(block(3, 4, "e"))
	h.recv(ack(3, 4, 2))
	h.sends(block(3, 5, "f"))
}

// A Fin is said once, with its number, when all is cut.
func TestSettleSaysFinOnce(t *testing.T) {
	h := in(t, wide(2, 1, 9, 9), true, api.Opened)
	h.answered(writing(3, "abcde"), api.Answer{N: 5})
	h.begin(closing(3))
	h.sends(block(3, 0, "ab"))
	h.recv(ack(3, 1, 1))
	h.sends(block(3, 1, "cd"))
	h.recv(ack(3, 2, 1))
	h.load(0, 0, 1, 0, 1, 1)
	h.sends(fin(3, 3), block(3, 2, "e"))
	for _, d := range []api.Datagram{ack(3, 2, 1), nack(3, 2, 0), ack(3, 3, 1), block(3, 0, "x"), ack(3, 3, 1)} {
		h.recv(d)
		h.sends()
	}
	h.works()
	h.sends(ack(3, 1, 1))
	h.begin(reading(3, 1), got(4, "x"))
	h.sends()
	h.recv(ack(3, 4, 1), fine(3))
	h.sends()
}

// A close is answered when the end and all blocks came: not ahead of that.
func TestSettleClosesWhenFinished(t *testing.T) {
	for blocks := range 5 {
		h := in(t, wide(2, 4, 8, 9), true, api.Opened)
		for range blocks {
			h.answered(writing(3, "ab"), api.Answer{N: 2})
		}
		h.begin(closing(3))
		id := h.calls
		for next := range uint32(blocks + 1) {
			h.recv(ack(3, next, 4))
		}
		h.recv(ack(3, uint32(blocks+2), 4))
		h.pending(api.Wait{ID: id, Call: closing(3)})
		h.recv(ack(3, uint32(blocks+1), 4), fine(id))
		h.pending()
	}
}

// All steps together: one datagram by which bytes come, the end, a read's answer, and more; and one by which a write, a Fin and a close go on.
func TestSettleAllTogether(t *testing.T) {
	h := in(t, wide(4, 2, 4, 4), true, api.Opened)
	h.answered(writing(3, "abcd"), api.Answer{N: 4})
	h.answered(writing(3, "efgh"), api.Answer{N: 4})
	h.answered(writing(3, "ijkl"), api.Answer{N: 4})
	h.begin(writing(3, "mn"))
	h.begin(reading(3, 3))
	h.recv(block(3, 1, "BBBB"))
	h.works()
	h.recv(fin(3, 2))
	h.recv(block(3, 0, "AAAA"))
	h.works(got(6, "AAA"))
	h.state(3, api.Opened)
	h.sends(ack(3, 1, 2), block(3, 0, "abcd"), block(3, 1, "efgh"))
	h.answered(reading(3, 9), api.Answer{Body: "A"})
	h.state(3, api.Remote)
	h.recv(ack(3, 1, 2), wrote(5, 2))
	h.begin(closing(3))
	h.state(3, api.Shut)
	h.answered(reading(3, 9), api.Answer{Body: "BBBB"})
	h.refused(reading(3, 9), api.ErrEOF)
	h.sends(ack(3, 3, 2), block(3, 2, "ijkl"))
	h.recv(ack(3, 3, 2))
	h.sends(fin(3, 4), block(3, 3, "mn"))
	h.recv(ack(3, 4, 2))
	h.recv(ack(3, 5, 2), fine(8))
	h.load(0, 0, 0, 0, 0, 1)
}

// Of a broken stream nothing of all that: what comes lets no block fly, no byte be read, and nothing be said.
func TestBrokenIsNotSettled(t *testing.T) {
	for _, here := range []bool{false, true} {
		h := in(t, wide(2, 1, 8, 2), true, api.Opened)
		h.answered(writing(3, "abcdef"), api.Answer{N: 6})
		h.recv(block(3, 0, "x"))
		h.recv(fin(3, 1))
		h.drop()
		if here {
			h.begin(aborting(3), fine(3))
			h.sends(rst(3))
		} else {
			h.recv(rst(3))
			h.sends()
		}
		load := h.e.Load()
		h.recv(ack(3, 1, 9))
		h.sends()
		if h.e.Load() != load {
			t.Errorf("Load %v, want %v", h.e.Load(), load)
		}
		// The job that waited is done: its bytes are put, and stay there.
		h.works()
		h.state(3, api.Broken)
		h.load(0, 0, 6, 1, 1, 1)
		h.sends(ack(3, 0, 1))
		h.timer(100, 0)
		h.sends()
	}
}

// At times that may not be no block is cut, and nothing else is other than it would be; behind what changes nothing it is not settled either.
func TestSettleAtTimesThatMayNotBe(t *testing.T) {
	for _, now := range []int{-1, -1 << 50, api.MaxTime + 1, 1 << 62} {
		h := in(t, wide(2, 4, 8, 9), true, api.Opened)
		h.now = now
		h.answered(writing(3, "abcd"), api.Answer{N: 4})
		h.begin(reading(3, 1))
		h.recv(block(3, 0, "x"))
		h.works(got(3, "x"))
		h.sends(ack(3, 1, 4))
		h.begin(closing(3))
		h.sends()
		h.load(0, 0, 4, 0, 0, 1)
		h.now = api.MaxTime
		h.refused(closing(3), api.ErrClosed)
		h.refused(reading(3, 0), api.ErrArg)
		h.recv(ack(4, 0, 4))
		h.sends()
		h.recv(ack(3, 0, 4))
		h.sends(fin(3, 2), block(3, 0, "ab"), block(3, 1, "cd"))
	}
	h := in(t, wide(2, 4, 8, 9), true, api.Opened)
	h.now = -1
	h.answered(writing(3, "ab"), api.Answer{N: 2})
	h.now = 0
	h.answered(writing(3, ""), api.Answer{})
	h.sends()
	h.answered(writing(3, "c"), api.Answer{N: 1})
	h.sends(block(3, 0, "ab"))
}

// Each row of steps that may come in any order, by which streams are settled, against the plain one.
func TestSettleInAllOrders(t *testing.T) {
	c := wide(2, 2, 3, 2)
	steps := []func(b *both){
		func(b *both) { b.recv(block(3, 0, "ab")) },
		func(b *both) { b.recv(block(3, 1, "cd")) },
		func(b *both) { b.recv(fin(3, 2)) },
		func(b *both) { b.work() },
		func(b *both) { b.work() },
		func(b *both) { b.read(3, 3) },
		func(b *both) { b.read(3, 1) },
		func(b *both) { b.write(3, "ABCDEFG") },
	}
	orders(len(steps), func(order []int) {
		b := newBoth(t, c)
		b.open(3, 1)
		for _, i := range order {
			steps[i](b)
		}
		b.end()
	})
}

// The other way: writes, Acks and a close.
func TestSettleSendsInAllOrders(t *testing.T) {
	c := wide(2, 2, 3, 2)
	steps := []func(b *both){
		func(b *both) { b.write(3, "ABCDE") },
		func(b *both) { b.write(3, "FGH") },
		func(b *both) { b.write(3, "IJK") },
		func(b *both) { b.recv(ack(3, 1, 2)) },
		func(b *both) { b.recv(ack(3, 2, 2)) },
		func(b *both) { b.recv(ack(3, 3, 1)) },
		func(b *both) { b.recv(fin(3, 0)) },
		func(b *both) { b.close(3) },
	}
	orders(len(steps), func(order []int) {
		b := newBoth(t, c)
		b.open(3, 1)
		for _, i := range order {
			steps[i](b)
		}
		b.recv(ack(3, 4, 2), ack(3, 5, 2), ack(3, 6, 2))
		b.end()
	})
}

// orders gives all orders of 0 to n - 1.
func orders(n int, give func(order []int)) {
	order := make([]int, 0, n)
	used := make([]bool, n)
	var next func()
	next = func() {
		if len(order) == n {
			give(order)
			return
		}
		for i := range n {
			if !used[i] {
				used[i] = true
				order = append(order, i)
				next()
				order = order[:len(order)-1]
				used[i] = false
			}
		}
	}
	next()
}
