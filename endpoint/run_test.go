package endpoint_test

import (
	"math"
	"slices"
	"testing"

	"lightship/api"
	"lightship/config"
)

// Promise 30.5: Work.

func TestWorkByHand(t *testing.T) {
	h := in(t, plainMade(), true, api.Opened)
	h.idle()
	h.recvAll(shards(t, 3, 0, "abcd", 4, 2)[:3]...)
	h.idle()
	h.recv(shards(t, 3, 0, "abcd", 4, 2)[3])
	h.load(1, 1, 0, 0, 0, 1)
	h.works()
	h.idle()
	h.load(0, 0, 0, 4, 1, 1)
	h.counts(api.Counts{Taken: 4, Decoded: 1})
	h.sends(ack(3, 1, 4))
	h.answered(reading(3, 9), api.Answer{Body: "abcd"})
}

// A job that tells no text is Bad: nothing is said, and the block may come anew, of another N and Len, too.
func TestWorkOfNoText(t *testing.T) {
	h := in(t, plainMade(), true, api.Opened)
	h.begin(reading(3, 9))
	// A byte behind its length is not 0.
	h.recvAll(shard(3, 0, 0, 2, 3, 3, "ab"), shard(3, 0, 1, 2, 3, 3, "cX"))
	h.load(1, 1, 0, 0, 0, 1)
	h.works()
	h.idle()
	h.load(0, 0, 0, 0, 0, 1)
	h.counts(api.Counts{Taken: 2, Bad: 1})
	h.sends()
	h.state(3, api.Opened)
	h.recvAll(shard(3, 0, 0, 2, 4, 4, "ab"), shard(3, 0, 1, 2, 4, 4, "cX"))
	h.works(got(2, "abcX"))
	h.counts(api.Counts{Taken: 4, Bad: 1, Decoded: 1})
	h.sends(ack(3, 1, 4))
}

// Jobs that tell none stand between those that do.
func TestWorkOfSomeTexts(t *testing.T) {
	h := newHand(t, plainMade())
	for stream := range 6 {
		h.recv(shard(stream, 0, 0, 2, 2, 3, "ab"))
	}
	for _, stream := range []int{4, 0, 5, 2, 1, 3} {
		body := "c\x00"
		if stream%2 == 1 {
			body = "cX"
		}
		h.recv(shard(stream, 0, 1, 2, 2, 3, body))
	}
	for i, stream := range []int{4, 0, 5, 2, 1, 3} {
		h.works()
		if stream%2 == 1 {
			h.sends()
		} else {
			h.sends(ack(stream, 1, 4))
		}
		if load := h.e.Load(); load[0] != 5-i || load[1] != 5-i {
			t.Errorf("Load %v behind %d", load, i+1)
		}
	}
	h.idle()
	h.counts(api.Counts{Sent: 3, Taken: 12, Decoded: 3, Bad: 3})
}

// An Ack is said, also where nothing comes out.
func TestWorkSaysAck(t *testing.T) {
	h := in(t, plainMade(), true, api.Opened)
	h.recv(block(3, 2, "c"))
	h.works()
	h.sends(ack(3, 0, 4))
	h.recv(block(3, 1, "b"))
	h.works()
	h.sends(ack(3, 0, 4))
	h.recv(block(3, 0, "a"))
	h.works()
	h.sends(ack(3, 3, 4))
}

// Promise 30.5: Send.

// The chapter's example.
func TestExample(t *testing.T) {
	h := newHand(t, config.Plain())
	h.refused(opening(3, 1), api.OK)
	h.answered(writing(3, "ab"), api.Answer{N: 2})
	h.sends(shard(3, 0, 0, 2, 4, 2, "a"), shard(3, 0, 1, 2, 4, 2, "b"), shard(3, 0, 2, 2, 4, 2, "k"), shard(3, 0, 3, 2, 4, 2, "\xe5"))
	h.counts(api.Counts{Sent: 4})
}

// The bytes themselves.
func TestExampleAsBytes(t *testing.T) {
	h := newHand(t, config.Plain())
	h.refused(opening(3, 1), api.OK)
	h.answered(writing(3, "ab"), api.Answer{N: 2})
	h.begin(closing(3))
	for i, want := range []string{"LS\x05\x03\x00\x00\x00\x01", "LS\x01\x03\x00\x00\x00\x00\x00\x02\x04\x00\x01a", "LS\x01\x03\x00\x00\x00\x00\x01\x02\x04\x00\x01b", "LS\x02\x03\x00\x00\x00\x00\x02\x02\x04\x00\x01k", "LS\x02\x03\x00\x00\x00\x00\x03\x02\x04\x00\x01\xe5"} {
		if raw, some := h.e.Send(0); raw != summed(want) || !some {
			t.Errorf("Send at place %d: %q, %t, want %q", i, raw, some, summed(want))
		}
		h.counts(api.Counts{Sent: i + 1})
	}
	h.sends()
	h.counts(api.Counts{Sent: 5})
}

// What is to be said goes ahead of data, in the order in which it came up.
func TestSendSaysFirst(t *testing.T) {
	h := newHand(t, turns())
	for stream := range 3 {
		h.refused(opening(stream, 1), api.OK)
		h.answered(writing(stream, "ab"), api.Answer{N: 2})
	}
	one := func(want api.Datagram) {
		t.Helper()
		if raw, some := h.e.Send(0); !some || raw != bytesOf(t, want) {
			t.Errorf("Send: %s, want %s", rawTold(raw), rawTold(bytesOf(t, want)))
		}
	}
	one(block(0, 0, "a"))
	h.begin(closing(2))
	one(fin(2, 2))
	one(block(1, 0, "a"))
	h.recv(fin(1, 0))
	h.begin(aborting(0), fine(8))
	h.recv(block(2, 0, "x"))
	h.works()
	one(ack(1, 1, 64))
	h.recv(fin(1, 0))
	one(rst(0))
	one(ack(2, 1, 64))
	h.sends(ack(1, 1, 64), block(2, 0, "a"), block(0, 1, "b"), block(1, 1, "b"), block(2, 1, "b"))
	h.counts(api.Counts{Sent: 11, Taken: 3, Decoded: 1})
}

// Shards whose block came meanwhile are passed over, be they few or many, of one stream or several; they count as none.
func TestSendPassesOver(t *testing.T) {
	h := newHand(t, turns())
	for _, stream := range []int{1, 2, 3} {
		h.refused(opening(stream, 1), api.OK)
		h.answered(writing(stream, "abcd"), api.Answer{N: 4})
	}
	h.recvAll(ack(1, 3, 64), ack(2, 4, 64))
	h.sends(block(3, 0, "a"), block(3, 1, "b"), block(3, 2, "c"), block(1, 3, "d"), block(3, 3, "d"))
	h.counts(api.Counts{Sent: 5, Taken: 2})
	h.answered(writing(2, "ef"), api.Answer{N: 2})
	h.recv(ack(2, 6, 64))
	h.sends()
	h.answered(writing(2, "gh"), api.Answer{N: 2})
	h.recv(ack(2, 7, 64))
	h.sends(block(2, 7, "h"))
	h.counts(api.Counts{Sent: 6, Taken: 4})
}

// Streams of several weights, and quanta from one to many datagrams: what was sent, by the weight, parts by no more than the quantum and twice the longest datagram.
func TestSendByWeights(t *testing.T) {
	for _, quantum := range []int{1, 17, 18, 19, 50, 400} {
		c := turns()
		c.Quantum = quantum
		h := newHand(t, c)
		weights := []int{1, 2, 5}
		for stream, weight := range weights {
			h.refused(opening(stream, weight), api.OK)
			h.answered(writing(stream, letters(64, 1)), api.Answer{N: 64})
		}
		var bytes, left [3]int
		left = [3]int{64, 64, 64}
		for {
			raw, some := h.e.Send(0)
			if !some {
				break
			}
			stream := read(t, raw).Stream
			bytes[stream] += len(raw)
			left[stream]--
			for one := range weights {
				for other := range one {
					far := float64(bytes[one])/float64(weights[one]) - float64(bytes[other])/float64(weights[other])
					if left[one] > 0 && left[other] > 0 && math.Abs(far) > float64(quantum+2*18) {
						t.Fatalf("quantum %d: sent %v", quantum, bytes)
					}
				}
			}
		}
		if left != [3]int{} {
			t.Errorf("quantum %d: %v were not sent", quantum, left)
		}
	}
}

// Send is not asked the time.
func TestSendAtAnyTime(t *testing.T) {
	for _, now := range append(farInts(), -1, 0, 1) {
		h := in(t, plainMade(), true, api.Opened)
		h.answered(writing(3, "ab"), api.Answer{N: 2})
		h.now = now
		h.sends(shards(t, 3, 0, "ab", 4, 2)...)
	}
}

// Promise 30.5: Timer.

// Of each stream at Timeout and more since it was done last, 0 at first, whenever the stream was made.
func TestTimerTimes(t *testing.T) {
	for _, timeout := range []int{3, 4, 8, 1 << 20} {
		c := plainMade()
		c.Timeout = timeout
		h := newHand(t, c)
		h.refused(opening(3, 1), api.OK)
		h.timer(0, 0)
		h.timer(timeout-1, 0)
		h.timer(timeout, 1)
		h.timer(timeout, 0)
		h.timer(2*timeout-1, 0)
		h.timer(2*timeout+1, 1)
		h.timer(3*timeout, 0)
		// Times that go back are behind none.
		for _, now := range append(farInts(), 0, timeout, 2*timeout) {
			if now < 3*timeout {
				h.timer(now, 0)
			}
		}
		// A stream that is made later was done at 0, too.
		h.refused(opening(4, 1), api.OK)
		h.timer(3*timeout, 1)
		h.timer(3*timeout+1, 1)
		h.timer(4*timeout, 1)
		h.timer(4*timeout+1, 1)
		h.timer(4*timeout+2, 0)
		h.timer(api.MaxTime, 2)
		h.timer(api.MaxTime+timeout-1, 0)
		h.timer(api.MaxTime+timeout, 2)
		h.timer(1<<62, 2)
		h.timer(1<<62-1, 0)
		h.timer(1<<62, 0)
		h.timer(math.MinInt, 0)
	}
}

// With a Timeout of 1 it is done at each time, once.
func TestTimerOfEachTime(t *testing.T) {
	h := in(t, least(1, 1), true, api.Opened)
	h.timer(0, 0)
	for now := 1; now < 9; now++ {
		h.timer(now, 1)
		h.timer(now, 0)
		h.timer(now-1, 0)
	}
}

// Ahead of Timeout nothing is done, whatever the time.
func TestTimerBelowTimeout(t *testing.T) {
	for _, now := range append(farInts(), -9, -1, 0, 1, 7) {
		if now >= 8 {
			continue
		}
		h := in(t, plainMade(), true, api.Opened)
		h.answered(writing(3, "ab"), api.Answer{N: 2})
		h.drop()
		h.timer(now, 0)
		h.sends()
		h.timer(8, 1)
	}
}

// All that it does of a stream, in that order: a Fin, Nacks, data anew.
func TestTimerByHand(t *testing.T) {
	c := wide(4, 4, 16, 16)
	c.K, c.Size, c.Repair = 2, 2, 1
	h := newHand(t, c)
	h.refused(opening(3, 1), api.OK)
	h.answered(writing(3, "abcdefg"), api.Answer{N: 7})
	h.begin(closing(3))
	h.recvAll(shard(3, 2, 1, 3, 9, 4, "cd"), shard(3, 2, 8, 3, 9, 4, "zz"), shard(3, 1, 200, 32, 255, 4, "y"))
	h.load(2, 0, 7, 0, 1, 1)
	h.drop()
	h.counts(api.Counts{Sent: 7, Taken: 3})
	h.timer(7, 0)
	h.sends()
	h.timer(8, 1)
	h.counts(api.Counts{Sent: 7, Taken: 3, Resent: 4})
	h.load(2, 0, 7, 0, 4, 1)
	want := []api.Datagram{fin(3, 2), nack(3, 0), nack(3, 1, 200), nack(3, 2, 1, 8)}
	want = append(want, shards(t, 3, 0, "abcd", 2, 1)[:2]...)
	want = append(want, shards(t, 3, 1, "efg", 2, 1)[:2]...)
	h.sends(want...)
	h.timer(15, 0)
	h.sends()
	// A block that came is not sent anew; what waits to be sent is not sent twice.
	h.recv(ack(3, 1, 4))
	h.timer(16, 1)
	h.timer(24, 1)
	h.sends(append([]api.Datagram{fin(3, 2), nack(3, 0), nack(3, 1, 200), nack(3, 2, 1, 8)}, shards(t, 3, 1, "efg", 2, 1)[:2]...)...)
	h.counts(api.Counts{Sent: 21, Taken: 4, Resent: 6})
	// Behind the end there is no Fin.
	h.recv(ack(3, 3, 4), fine(3))
	h.timer(32, 1)
	h.sends(nack(3, 0), nack(3, 1, 200), nack(3, 2, 1, 8))
}

// Blocks count as sent when they are cut, and when they were sent anew, each by itself.
func TestTimerSendsAnewByTimes(t *testing.T) {
	h := in(t, wide(1, 8, 8, 8), true, api.Opened)
	h.now = 5
	h.answered(writing(3, "a"), api.Answer{N: 1})
	h.drop()
	h.now = 9
	h.answered(writing(3, "b"), api.Answer{N: 1})
	h.drop()
	h.timer(12, 1)
	h.sends()
	h.timer(20, 1)
	h.sends(block(3, 0, "a"), block(3, 1, "b"))
	h.now = 25
	h.answered(writing(3, "c"), api.Answer{N: 1})
	h.drop()
	h.timer(28, 1)
	h.sends(block(3, 0, "a"), block(3, 1, "b"))
	h.timer(36, 1)
	h.sends(block(3, 0, "a"), block(3, 1, "b"), block(3, 2, "c"))
	h.counts(api.Counts{Sent: 10, Resent: 7})
}

// Streams by rising numbers, in whatever order they were made; those that are broken are not done.
func TestTimerOfSeveralStreams(t *testing.T) {
	h := newHand(t, wide(1, 8, 8, 8))
	for _, stream := range []int{200, 7, 0, 255, 31, 30} {
		h.refused(opening(stream, 1), api.OK)
		h.begin(closing(stream))
	}
	h.recv(block(90, 1, "x"))
	h.recv(fin(2, 3))
	h.begin(aborting(30), failed(12, api.ErrReset), fine(13))
	h.recv(rst(7), failed(4, api.ErrReset))
	h.recv(rst(2))
	h.drop()
	h.timer(8, 5)
	h.sends(fin(0, 0), fin(31, 0), nack(90, 0), nack(90, 1, 0), fin(200, 0), fin(255, 0))
	h.recv(rst(200), failed(2, api.ErrReset))
	h.timer(16, 4)
	h.sends(fin(0, 0), fin(31, 0), nack(90, 0), nack(90, 1, 0), fin(255, 0))
}

// Each stream has a time of its own.
func TestTimerOfEachStream(t *testing.T) {
	h := newHand(t, plainMade())
	h.refused(opening(9, 1), api.OK)
	h.begin(closing(9))
	h.drop()
	h.timer(10, 1)
	h.sends(fin(9, 0))
	h.refused(opening(4, 1), api.OK)
	h.begin(closing(4))
	h.drop()
	h.timer(11, 1)
	h.sends(fin(4, 0))
	h.timer(18, 1)
	h.sends(fin(9, 0))
	h.timer(19, 1)
	h.sends(fin(4, 0))
}

// A stream is done in each state that is not Broken.
func TestTimerInEachState(t *testing.T) {
	for _, state := range []int{api.Opened, api.Local, api.Remote, api.Shut, api.Broken} {
		h := in(t, plainMade(), true, state)
		want := 1
		if state == api.Broken {
			want = 0
		}
		h.timer(8, want)
		if state == api.Local || state == api.Shut {
			h.sends(fin(3, 0))
		} else {
			h.sends()
		}
	}
}

// Nacks of blocks that came meanwhile are not said any more; those that are to be said are said as they are now.
func TestTimerCleans(t *testing.T) {
	h := newHand(t, wide(4, 8, 4, 8))
	h.recvAll(shard(3, 3, 0, 2, 2, 2, "x"), shard(4, 0, 0, 2, 2, 2, "x"))
	h.timer(8, 2)
	h.load(2, 0, 0, 0, 5, 2)
	h.recvAll(block(3, 0, "a"), block(3, 1, "b"), shard(3, 2, 1, 2, 2, 2, "y"))
	h.works()
	h.works()
	// The Ack is behind the Nacks: these had their places ahead.
	h.load(3, 0, 0, 2, 6, 2)
	h.timer(15, 0)
	h.load(3, 0, 0, 2, 6, 2)
	h.timer(16, 2)
	h.load(3, 0, 0, 2, 4, 2)
	h.sends(nack(3, 2, 1), nack(3, 3, 0), nack(4, 0, 0), ack(3, 2, 8))
}

// Behind the end all Nacks are cleaned.
func TestTimerCleansBehindTheEnd(t *testing.T) {
	h := newHand(t, wide(4, 8, 4, 8))
	h.recvAll(shard(3, 1, 0, 2, 2, 2, "x"))
	h.timer(8, 1)
	h.recvAll(block(3, 0, "a"), shard(3, 1, 1, 2, 2, 2, "y"), fin(3, 2))
	h.works()
	h.works()
	h.state(3, api.Remote)
	h.load(0, 0, 0, 3, 3, 1)
	h.timer(16, 1)
	h.sends(ack(3, 3, 8))
}

// A block of which there are enough shards lacks until it is done, with all their marks.
func TestTimerOfBlocksThatAreReady(t *testing.T) {
	h := newHand(t, plainMade())
	h.recvAll(shards(t, 3, 0, "abcdefgh", 4, 2)[2:]...)
	h.timer(8, 1)
	h.sends(nack(3, 0, 2, 3, 4, 5))
	h.works()
	h.drop()
	h.timer(16, 1)
	h.sends()
}

// Each Index has its mark.
func TestTimerMarks(t *testing.T) {
	for index := range 255 {
		h := newHand(t, plainMade())
		h.recv(shard(3, 0, index, 32, 255, 32, "x"))
		h.timer(8, 1)
		h.sends(nack(3, 0, index))
	}
	h := newHand(t, plainMade())
	var came []int
	for index := 254; index > 0; index -= 9 {
		h.recv(shard(3, 0, index, 32, 255, 32, "x"))
		came = append(came, index)
	}
	h.timer(8, 1)
	h.sends(nack(3, 0, came...))
}

// Promise 30.5: State, Pending, Counts, Load.

func TestStateOfNoStream(t *testing.T) {
	h := newHand(t, plainMade())
	for stream := range 256 {
		h.refused(opening(stream, 1), api.OK)
	}
	for stream := range 256 {
		h.state(stream, api.Opened)
	}
	for _, stream := range noStreams() {
		h.state(stream, api.Idle)
	}
	h.load(0, 0, 0, 0, 0, 256)
}

// By rising streams, then kinds; what is done with the list changes nothing.
func TestPending(t *testing.T) {
	h := newHand(t, least(1, 1))
	var want []api.Wait
	for _, stream := range []int{255, 0, 17, 3} {
		h.refused(opening(stream, 1), api.OK)
		h.answered(writing(stream, "a"), api.Answer{N: 1})
		h.answered(writing(stream, "b"), api.Answer{N: 1})
		h.begin(reading(stream, stream+1))
		want = append(want, api.Wait{ID: h.calls, Call: reading(stream, stream+1)})
		h.begin(writing(stream, letters(stream+1, 4)))
		want = append(want, api.Wait{ID: h.calls, Call: writing(stream, letters(stream+1, 4))})
	}
	slices.SortFunc(want, func(a, b api.Wait) int {
		return (a.Call.Stream-b.Call.Stream)*10 + a.Call.Kind - b.Call.Kind
	})
	h.pending(want...)
	l := h.e.Pending()
	clear(l)
	h.pending(want...)
	l = append(h.e.Pending()[:2], api.Wait{})
	l[0].ID = 99
	h.pending(want...)
}

// Each of the nine by itself.
func TestCounts(t *testing.T) {
	for _, row := range []struct {
		do   func(h *hand)
		want api.Counts
	}{
		{func(h *hand) { h.raw("x", api.ErrCut) }, api.Counts{Bad: 1}},
		{func(h *hand) { h.recv(ack(9, 0, 0)) }, api.Counts{Taken: 1}},
		{func(h *hand) { h.recv(block(3, 4, "x")) }, api.Counts{Taken: 1, Beyond: 1}},
		{func(h *hand) {
			h.recv(shard(3, 0, 0, 2, 2, 2, "x"))
			h.recv(shard(3, 0, 0, 2, 2, 2, "x"))
		}, api.Counts{Taken: 2, Twice: 1}},
		{func(h *hand) {
			h.recv(block(3, 0, "x"))
			h.works()
		}, api.Counts{Taken: 1, Decoded: 1}},
		{func(h *hand) {
			h.recv(block(3, 0, "x"))
			h.works()
			h.recv(block(3, 0, "x"))
		}, api.Counts{Taken: 2, Decoded: 1, Old: 1}},
		{func(h *hand) {
			h.recv(shard(3, 0, 0, 2, 2, 2, "x"))
			h.recv(shard(3, 1, 0, 2, 2, 2, "x"))
		}, api.Counts{Taken: 2, Full: 1}},
		{func(h *hand) {
			h.answered(writing(3, "a"), api.Answer{N: 1})
			h.drop()
		}, api.Counts{Sent: 3}},
		{func(h *hand) {
			h.answered(writing(3, "ab"), api.Answer{N: 2})
			h.drop()
			h.timer(8, 1)
		}, api.Counts{Sent: 4, Resent: 2}},
		{func(h *hand) {
			h.answered(writing(3, "ab"), api.Answer{N: 2})
			h.drop()
			h.recv(nack(3, 0, 1))
			h.drop()
		}, api.Counts{Sent: 5, Taken: 1, Resent: 1}},
	} {
		c := plainMade()
		c.Table = 1
		h := in(t, c, true, api.Opened)
		row.do(h)
		h.counts(row.want)
	}
}

// Each of the six by itself, the most of several streams.
func TestLoad(t *testing.T) {
	h := newHand(t, wide(4, 8, 9, 6))
	h.load(0, 0, 0, 0, 0, 0)
	h.recv(fin(200, 3))
	h.load(0, 0, 0, 0, 1, 1)
	for i, stream := range []int{5, 250, 6} {
		h.refused(opening(stream, 1), api.OK)
		h.load(0, 0, min(1, i)*7, 0, 1, i+2)
		h.answered(writing(stream, letters([]int{7, 3, 6}[i], 1)), api.Answer{N: []int{7, 3, 6}[i]})
		h.load(0, 0, 7, 0, 1, i+2)
	}
	h.recv(ack(5, 1, 8))
	h.load(0, 0, 6, 0, 1, 4)
	h.recvAll(shard(6, 0, 0, 2, 2, 2, "x"), shard(200, 0, 0, 2, 2, 4, "xy"))
	h.load(2, 0, 6, 0, 1, 4)
	h.recv(shard(200, 0, 1, 2, 2, 4, "zu"))
	h.load(2, 1, 6, 0, 1, 4)
	h.recv(block(250, 1, "abc"))
	h.load(3, 2, 6, 0, 1, 4)
	h.works()
	h.load(2, 1, 6, 4, 1, 4)
	h.works()
	h.load(1, 0, 6, 4, 2, 4)
	h.recv(block(250, 0, "cd"))
	h.works()
	h.load(1, 0, 6, 5, 2, 4)
	// Bytes that wait to be read, and those of blocks that wait for room.
	h.recv(block(250, 2, "efg"))
	h.works()
	h.load(1, 0, 6, 8, 2, 4)
	h.answered(reading(250, 2), api.Answer{Body: "cd"})
	h.load(1, 0, 6, 6, 2, 4)
	h.sendSome(2)
	h.load(1, 0, 6, 6, 0, 4)
}

// sendSome sends so many, whatever they are.
func (h *hand) sendSome(many int) {
	for range many {
		h.e.Send(h.now)
	}
}
