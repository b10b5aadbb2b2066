package endpoint_test

import (
	"math"
	"slices"
	"testing"

	"lightship/api"
	"lightship/config"
	"lightship/endpoint"
)

// Promise 30.1: New.

// setting is one of a Config's fields: the least and the greatest that it may be beside K 4 and Size 16, and where it stands.
type setting struct {
	least, most int
	of          func(c *api.Config) *int
}

func settings() []setting {
	return []setting{
		{1, 32, func(c *api.Config) *int { return &c.K }},
		{0, 251, func(c *api.Config) *int { return &c.Repair }},
		{1, 1024, func(c *api.Config) *int { return &c.Size }},
		{1, 64, func(c *api.Config) *int { return &c.Window }},
		{64, 1048576, func(c *api.Config) *int { return &c.Buffer }},
		{64, 1048576, func(c *api.Config) *int { return &c.Queue }},
		{1, 65536, func(c *api.Config) *int { return &c.Quantum }},
		{1, 65536, func(c *api.Config) *int { return &c.Table }},
		{1, 4096, func(c *api.Config) *int { return &c.Work }},
		{1, 64, func(c *api.Config) *int { return &c.Workers }},
		{1, 1048576, func(c *api.Config) *int { return &c.Timeout }},
	}
}

func TestNewOfWrongSettings(t *testing.T) {
	wrong := []api.Config{{}}
	for _, s := range settings() {
		for _, n := range append(farInts(), s.least-1, s.most+1) {
			c := plainMade()
			*s.of(&c) = n
			wrong = append(wrong, c)
		}
	}
	for _, c := range wrong {
		want := config.Check(c)
		if want == api.OK {
			continue
		}
		if e, err := endpoint.New(c); e != nil || err != want || err != api.ErrRange {
			t.Errorf("New of %s: %v, %d, want nil, %d", configTold(c), e, err, want)
		}
	}
}

func TestNewIsEmpty(t *testing.T) {
	made := several()
	for _, s := range settings() {
		for _, n := range []int{s.least, s.least + 1, s.most - 1, s.most} {
			c := plainMade()
			*s.of(&c) = n
			c.Buffer, c.Queue = max(c.Buffer, c.K*c.Size), max(c.Queue, c.K*c.Size)
			made = append(made, c)
		}
	}
	for _, c := range made {
		h := newHand(t, c)
		h.counts(api.Counts{})
		h.stopped(false)
		h.empty()
		h.counts(api.Counts{})
		h.stopped(false)
	}
}

// Each setting is one of those by which a stream goes, or of which nothing is seen: whatever it is, two ends talk.
func TestNewAtTheEdgesOfSettings(t *testing.T) {
	for _, s := range settings() {
		for _, n := range []int{s.least, s.most} {
			c := plainMade()
			*s.of(&c) = n
			c.Buffer, c.Queue = max(c.Buffer, c.K*c.Size), max(c.Queue, c.K*c.Size)
			newPair(t, c, all).talk(talk{stream: 7, text: letters(3*c.K*c.Size/2+5, 1), piece: 100, part: 33})
		}
	}
}

// Promise 30.1: streams.

func TestOpenMakesAStream(t *testing.T) {
	for stream := range 256 {
		for _, weight := range []int{1, 2, 255} {
			h := newHand(t, plainMade())
			h.begin(opening(stream, weight), fine(1))
			for other := -1; other < 257; other++ {
				if other != stream {
					h.state(other, api.Idle)
				}
			}
			h.state(stream, api.Opened)
			h.load(0, 0, 0, 0, 0, 1)
			h.pending()
			h.sends()
			h.counts(api.Counts{})
			h.answered(writing(stream, "ab"), api.Answer{N: 2})
		}
	}
}

// By what comes a stream is made that is not own: none but an open may be called of it.
func TestDatagramMakesAStream(t *testing.T) {
	for stream := range 256 {
		for _, d := range []api.Datagram{
			block(stream, 0, "x"),
			shard(stream, 0, 1, 2, 4, 2, "b"),
			shard(stream, 0, 3, 2, 4, 2, "b"),
			// What is beyond, or bad, makes one, too.
			block(stream, 4, "x"),
			block(stream, 0, letters(65, 0)),
			fin(stream, 1),
			fin(stream, 5),
		} {
			h := newHand(t, plainMade())
			h.recv(d)
			for other := -1; other < 257; other++ {
				if other != stream {
					h.state(other, api.Idle)
				}
			}
			h.state(stream, api.Opened)
			if load := h.e.Load(); load[5] != 1 {
				t.Errorf("%s: Load %v, want one stream", kindTold(d), load)
			}
			for _, c := range []api.Call{writing(stream, "a"), writing(stream, ""), reading(stream, 1), reading(stream, 0), closing(stream), aborting(stream)} {
				h.refused(c, api.ErrNone)
			}
			h.state(stream, api.Opened)
			h.pending()
			h.refused(opening(stream, 1), api.OK)
			h.refused(opening(stream, 1), api.ErrTwice)
		}
	}
}

// One that comes to its end by what makes it is made, and ends.
func TestFinMakesAStreamThatEnds(t *testing.T) {
	h := newHand(t, plainMade())
	h.recv(fin(9, 0))
	h.state(9, api.Remote)
	h.sends(ack(9, 1, 4))
	h.refused(reading(9, 1), api.ErrNone)
	h.refused(opening(9, 255), api.OK)
	h.state(9, api.Remote)
	h.refused(reading(9, 1), api.ErrEOF)
}

func TestOthersMakeNoStream(t *testing.T) {
	for _, stream := range []int{0, 1, 7, 254, 255} {
		for _, d := range []api.Datagram{ack(stream, 0, 4), ack(stream, 1, 4), nack(stream, 0), nack(stream, 5, 1, 2), rst(stream)} {
			h := newHand(t, plainMade())
			for many := range 3 {
				h.recv(d)
				h.counts(api.Counts{Taken: many + 1})
			}
			h.empty()
			h.counts(api.Counts{Taken: 3})
			h.refused(reading(stream, 1), api.ErrNone)
			h.refused(opening(stream, 1), api.OK)
			h.sends()
		}
	}
}

// What came ahead of the open is read behind it.
func TestDatagramThenOpen(t *testing.T) {
	h := newHand(t, plainMade())
	h.recv(block(7, 0, "hello"))
	h.works()
	h.load(0, 0, 0, 5, 1, 1)
	h.refused(reading(7, 9), api.ErrNone)
	h.recv(fin(7, 1))
	h.state(7, api.Remote)
	h.refused(opening(7, 2), api.OK)
	h.state(7, api.Remote)
	h.load(0, 0, 0, 5, 1, 1)
	h.answered(reading(7, 9), api.Answer{Body: "hello"})
	h.refused(reading(7, 9), api.ErrEOF)
	h.refused(opening(7, 2), api.ErrTwice)
}

// order is of which streams the datagrams are that are sent.
func (h *hand) order() []int {
	h.t.Helper()
	var l []int
	for raw, some := h.e.Send(h.now); some; raw, some = h.e.Send(h.now) {
		l = append(l, read(h.t, raw).Stream)
	}
	return l
}

// turns are settings by which each byte is a block, and a datagram of 18 bytes, and a turn is worth one datagram by the weight.
func turns() api.Config {
	return api.Config{K: 1, Size: 1, Window: 64, Buffer: 64, Queue: 64, Quantum: 18, Table: 64, Work: 64, Workers: 1, Timeout: 9}
}

func (h *hand) wantOrder(want ...int) {
	h.t.Helper()
	if l := h.order(); !slices.Equal(l, want) {
		h.t.Errorf("sent of streams %v, want %v", l, want)
	}
}

// The chapter's ninth example of the whole: weights 1 and 3.
func TestWeights(t *testing.T) {
	h := newHand(t, turns())
	h.refused(opening(1, 1), api.OK)
	h.refused(opening(2, 3), api.OK)
	h.answered(writing(1, letters(4, 0)), api.Answer{N: 4})
	h.answered(writing(2, letters(9, 0)), api.Answer{N: 9})
	h.wantOrder(1, 2, 2, 2, 1, 2, 2, 2, 1, 2, 2, 2, 1)
}

// One that came by a datagram has the weight of the open then.
func TestWeightOfOneThatCame(t *testing.T) {
	h := newHand(t, turns())
	h.recv(block(2, 0, "x"))
	h.refused(opening(1, 1), api.OK)
	h.refused(opening(2, 2), api.OK)
	h.recv(fin(3, 9))
	h.refused(opening(3, 255), api.OK)
	h.drop()
	for _, stream := range []int{2, 1, 3} {
		h.answered(writing(stream, letters(5, 0)), api.Answer{N: 5})
	}
	h.wantOrder(2, 2, 1, 3, 3, 3, 3, 3, 2, 2, 1, 2, 1, 1, 1)
	// A second open that is refused changes none.
	h.refused(opening(1, 9), api.ErrTwice)
	h.refused(opening(2, 9), api.ErrTwice)
	for _, stream := range []int{1, 2} {
		h.answered(writing(stream, letters(5, 0)), api.Answer{N: 5})
	}
	h.wantOrder(1, 2, 2, 1, 2, 2, 1, 2, 1, 1)
}

// Promise 30.2: numbers, and Take.

func TestNumbers(t *testing.T) {
	e := newEnd(t, plainMade())
	calls := []api.Call{opening(1, 1), opening(1, 1), {}, {Kind: 9}, writing(1, "a"), reading(1, 1), reading(1, 1), reading(2, 1), opening(-1, 1), opening(5, 0), closing(1), closing(1), opening(4, 9), aborting(4), stopping(), stopping(), opening(8, 1), {Kind: -1}}
	for i, c := range calls {
		if id := e.Begin(c, 0); id != i+1 {
			t.Errorf("%s: number %d, want %d", callTold(c), id, i+1)
		}
	}
	// Calls 6 and 11 waited until the stop.
	want := []api.Done{fine(1), failed(2, api.ErrTwice), failed(3, api.ErrArg), failed(4, api.ErrArg), wrote(5, 1), failed(7, api.ErrBusy), failed(8, api.ErrNone), failed(9, api.ErrRange), failed(10, api.ErrRange), failed(12, api.ErrClosed), fine(13), fine(14), failed(6, api.ErrClosed), failed(11, api.ErrClosed), fine(15), failed(16, api.ErrClosed), failed(17, api.ErrClosed), failed(18, api.ErrClosed)}
	for i, d := range want {
		if taken, some := e.Take(); taken != d || !some {
			t.Errorf("Take at place %d: %v, %t, want %v", i, taken, some, d)
		}
	}
	for range 3 {
		if taken, some := e.Take(); taken != (api.Done{}) || some {
			t.Errorf("Take behind all: %v, %t", taken, some)
		}
	}
	if id := e.Begin(opening(1, 1), 0); id != len(calls)+1 {
		t.Errorf("number %d, want %d", id, len(calls)+1)
	}
}

// Answers wait as long as they are not taken, in their order, however many.
func TestTakeMuchLater(t *testing.T) {
	e := newEnd(t, plainMade())
	for id := 1; id <= 5000; id++ {
		e.Begin(api.Call{Kind: 1 + id%5, Stream: 9 + id%3, N: id % 4, Body: "x"}, 0)
		if id%7 == 0 {
			e.Recv("", 0)
		}
	}
	waits := e.Pending()
	last := 0
	for d, some := e.Take(); some; d, some = e.Take() {
		if slices.ContainsFunc(waits, func(w api.Wait) bool { return w.ID == d.ID }) {
			t.Fatalf("call %d waits, and was answered", d.ID)
		}
		last++
	}
	if last+len(waits) != 5000 {
		t.Errorf("%d answered, %d wait, want 5000 together", last, len(waits))
	}
}

// Promise 30.2: of all calls.

// noKinds are ints that are no kind of calls.
func noKinds() []int { return append(farInts(), -7, -2, -1, 0, 7, 8, 9, 255, 256, 257, 262) }

// noStreams are ints that are no stream.
func noStreams() []int {
	return append(farInts(), -256, -2, -1, 256, 257, 511, 512, 65535, 65536)
}

func TestWrongKinds(t *testing.T) {
	b := newBoth(t, plainMade())
	b.open(0, 1)
	b.read(0, 5)
	for _, kind := range noKinds() {
		for _, stream := range append([]int{0, 1, 255}, noStreams()...) {
			b.begin(api.Call{Kind: kind, Stream: stream, N: 1, Body: "x"})
			if last := b.done[len(b.done)-1]; last.Answer != (api.Answer{Err: api.ErrArg}) {
				t.Fatalf("kind %d, stream %d: %v, want ErrArg", kind, stream, last)
			}
		}
	}
	b.end()
}

func TestWrongStreams(t *testing.T) {
	b := newBoth(t, plainMade())
	b.open(0, 1)
	b.open(255, 1)
	b.recv(block(1, 0, "x"))
	for _, stream := range noStreams() {
		for kind := api.CallOpen; kind <= api.CallAbort; kind++ {
			for _, n := range []int{1, 0, -1, 256} {
				b.begin(api.Call{Kind: kind, Stream: stream, N: n, Body: "x"})
				if last := b.done[len(b.done)-1]; last.Answer != (api.Answer{Err: api.ErrRange}) {
					t.Fatalf("kind %d, stream %d: %v, want ErrRange", kind, stream, last)
				}
			}
		}
	}
	b.end()
}

func TestEdgesOfStreams(t *testing.T) {
	for _, stream := range []int{0, 255} {
		h := newHand(t, plainMade())
		h.refused(opening(stream, 1), api.OK)
		h.answered(writing(stream, "ab"), api.Answer{N: 2})
		h.begin(reading(stream, 1))
		h.begin(closing(stream))
		h.begin(aborting(stream), failed(3, api.ErrReset), failed(4, api.ErrReset), fine(5))
	}
}

// A stop is asked no stream.
func TestStopOfAnyStream(t *testing.T) {
	for _, stream := range append([]int{0, 7, 255}, noStreams()...) {
		h := newHand(t, plainMade())
		h.stopped(false)
		h.begin(api.Call{Kind: api.CallStop, Stream: stream, N: -1, Body: "x"}, fine(1))
		h.stopped(true)
	}
}

// All that wait are answered ahead of the stop, by rising streams, then kinds, in whatever order they came.
func TestStopAnswersAll(t *testing.T) {
	c := least(1, 1)
	waits := []api.Call{reading(200, 1), writing(3, "late"), closing(90), reading(3, 2), reading(90, 7), writing(200, "x"), reading(0, 1), closing(255)}
	// The writes and the close of 3 and 200 wait where there is no room: a byte flies, and one waits to be cut.
	h := newHand(t, c)
	for _, stream := range []int{90, 3, 255, 200, 0, 12} {
		h.refused(opening(stream, 1), api.OK)
	}
	for _, stream := range []int{3, 200} {
		h.answered(writing(stream, "a"), api.Answer{N: 1})
		h.answered(writing(stream, "b"), api.Answer{N: 1})
	}
	first := h.calls + 1
	for _, w := range waits {
		h.begin(w)
	}
	h.pending(api.Wait{ID: first + 6, Call: waits[6]}, api.Wait{ID: first + 1, Call: waits[1]}, api.Wait{ID: first + 3, Call: waits[3]}, api.Wait{ID: first + 4, Call: waits[4]}, api.Wait{ID: first + 2, Call: waits[2]}, api.Wait{ID: first + 5, Call: waits[5]}, api.Wait{ID: first, Call: waits[0]}, api.Wait{ID: first + 7, Call: waits[7]})
	var want []api.Done
	for _, place := range []int{6, 1, 3, 4, 2, 5, 0, 7} {
		want = append(want, failed(first+place, api.ErrClosed))
	}
	h.stopped(false)
	h.begin(stopping(), append(want, fine(first+8))...)
	h.stopped(true)
	h.pending()
}

// Behind a stop all is ErrClosed, whatever it is, for ever; nothing is answered that was.
func TestBehindStop(t *testing.T) {
	h := newHand(t, plainMade())
	h.refused(opening(1, 1), api.OK)
	h.answered(writing(1, "ab"), api.Answer{N: 2})
	h.begin(reading(1, 1))
	h.begin(stopping(), failed(3, api.ErrClosed), fine(4))
	for range 3 {
		for kind := -1; kind < 9; kind++ {
			for _, stream := range []int{0, 1, 255, -1, 256} {
				for _, n := range []int{-1, 0, 1, 256} {
					h.refused(api.Call{Kind: kind, Stream: stream, N: n}, api.ErrClosed)
					h.refused(api.Call{Kind: kind, Stream: stream, N: n, Body: "x"}, api.ErrClosed)
				}
			}
		}
		h.stopped(true)
		h.pending()
		h.state(1, api.Opened)
		h.state(0, api.Idle)
		h.now++
	}
	for _, kind := range noKinds() {
		h.refused(api.Call{Kind: kind, Stream: 1}, api.ErrClosed)
	}
	// What was written is sent still, and again.
	h.sends(shards(t, 1, 0, "ab", 4, 2)...)
	h.timer(9, 1)
	h.sends(shards(t, 1, 0, "ab", 4, 2)[:2]...)
}

// What waited as work when it was stopped is done still, and nothing is answered by it.
func TestWorkBehindStop(t *testing.T) {
	h := newHand(t, plainMade())
	h.refused(opening(1, 1), api.OK)
	h.begin(reading(1, 1))
	h.recv(block(1, 0, "abc"))
	h.begin(stopping(), failed(2, api.ErrClosed), fine(3))
	h.works()
	h.idle()
	h.counts(api.Counts{Taken: 1, Decoded: 1})
	h.load(0, 0, 0, 3, 1, 1)
	h.sends(ack(1, 1, 4))
}

// Promise 30.2: CallOpen.

func TestOpenWeights(t *testing.T) {
	wrong := append(farInts(), -255, -1, 0, 256, 257, 511, 512, 65537)
	for _, n := range wrong {
		h := newHand(t, plainMade())
		h.refused(opening(3, n), api.ErrRange)
		h.empty()
		// It is asked ahead of all that there is.
		h.refused(opening(3, 1), api.OK)
		h.refused(opening(3, n), api.ErrRange)
		h.recv(block(4, 0, "x"))
		h.refused(opening(4, n), api.ErrRange)
		h.refused(reading(4, 1), api.ErrNone)
		h.refused(opening(4, 255), api.OK)
		h.begin(reading(4, 1))
	}
	for n := 1; n < 256; n++ {
		h := newHand(t, plainMade())
		h.refused(opening(3, n), api.OK)
		h.refused(opening(3, n), api.ErrTwice)
		h.state(3, api.Opened)
	}
}

func TestOpenInEachState(t *testing.T) {
	for _, state := range []int{api.Opened, api.Local, api.Remote, api.Shut, api.Broken} {
		h := in(t, plainMade(), true, state)
		for _, weight := range []int{1, 2, 255} {
			h.refused(opening(3, weight), api.ErrTwice)
		}
		h.refused(opening(3, 0), api.ErrRange)
		h.state(3, state)
	}
	for _, state := range []int{api.Opened, api.Remote, api.Broken} {
		for _, weight := range []int{1, 2, 255} {
			h := in(t, plainMade(), false, state)
			h.refused(opening(3, weight), api.OK)
			h.state(3, state)
			h.refused(opening(3, weight), api.ErrTwice)
			h.state(3, state)
			h.load(h.e.Load()[0], 0, 0, 0, 0, 1)
			h.sends()
		}
	}
	// It is own then: what may be called hangs on its state alone.
	h := in(t, plainMade(), false, api.Broken)
	h.refused(writing(3, "a"), api.ErrNone)
	h.refused(opening(3, 1), api.OK)
	h.refused(writing(3, "a"), api.ErrReset)
	h = in(t, plainMade(), false, api.Remote)
	h.refused(opening(3, 1), api.OK)
	h.answered(writing(3, "a"), api.Answer{N: 1})
	h.refused(reading(3, 1), api.ErrEOF)
	h.begin(closing(3))
	h.state(3, api.Shut)
}

// Promise 30.2: the others.

func TestCallsOfNoStream(t *testing.T) {
	h := newHand(t, plainMade())
	h.refused(opening(2, 1), api.OK)
	for _, stream := range []int{0, 1, 3, 255} {
		for kind := api.CallWrite; kind <= api.CallAbort; kind++ {
			for _, n := range []int{-1, 0, 1} {
				h.refused(api.Call{Kind: kind, Stream: stream, N: n}, api.ErrNone)
				h.refused(api.Call{Kind: kind, Stream: stream, N: n, Body: "x"}, api.ErrNone)
			}
		}
		h.state(stream, api.Idle)
	}
	h.load(0, 0, 0, 0, 0, 1)
}

// Each kind in each state: the state's error is asked ahead of all else of the call.
func TestCallsInEachState(t *testing.T) {
	// What is answered, by states from Opened to Broken; waits is that it waits.
	const waits = api.Errno(-1)
	for _, row := range []struct {
		c    api.Call
		want [5]api.Errno
		then [5]int
	}{
		{writing(3, ""), [5]api.Errno{api.OK, api.ErrClosed, api.OK, api.ErrClosed, api.ErrReset}, [5]int{1, 2, 3, 4, 5}},
		{reading(3, 1), [5]api.Errno{waits, waits, api.ErrEOF, api.ErrEOF, api.ErrReset}, [5]int{1, 2, 3, 4, 5}},
		{reading(3, 0), [5]api.Errno{api.ErrArg, api.ErrArg, api.ErrArg, api.ErrArg, api.ErrReset}, [5]int{1, 2, 3, 4, 5}},
		{reading(3, -1), [5]api.Errno{api.ErrArg, api.ErrArg, api.ErrArg, api.ErrArg, api.ErrReset}, [5]int{1, 2, 3, 4, 5}},
		{closing(3), [5]api.Errno{waits, api.ErrClosed, waits, api.ErrClosed, api.ErrReset}, [5]int{2, 2, 4, 4, 5}},
	} {
		for i, want := range row.want {
			h := in(t, plainMade(), true, api.Opened+i)
			switch want {
			case waits:
				h.begin(row.c)
				h.pendingHas(row.c)
			default:
				h.refused(row.c, want)
			}
			h.state(3, row.then[i])
		}
	}
	for i, want := range []api.Answer{{N: 1}, {Err: api.ErrClosed}, {N: 1}, {Err: api.ErrClosed}, {Err: api.ErrReset}} {
		h := in(t, plainMade(), true, api.Opened+i)
		h.answered(writing(3, "a"), want)
		h.state(3, api.Opened+i)
	}
	// An abort answers the close that waits.
	for i, want := range [][]api.Done{{fine(2)}, {failed(2, api.ErrReset), fine(3)}, {fine(2)}, {failed(3, api.ErrClosed)}, {failed(2, api.ErrReset)}} {
		h := in(t, plainMade(), true, api.Opened+i)
		h.begin(aborting(3), want...)
		h.state(3, []int{5, 5, 5, 4, 5}[i])
	}
}

// pendingHas: that call waits.
func (h *hand) pendingHas(c api.Call) {
	h.t.Helper()
	if !slices.ContainsFunc(h.e.Pending(), func(w api.Wait) bool { return w.Call == c && w.ID == h.calls }) {
		h.t.Errorf("%s does not wait", callTold(c))
	}
}

// Promise 30.2: CallWrite.

// wide are settings of blocks of one shard of size bytes.
func wide(size, window, buffer, queue int) api.Config {
	return api.Config{K: 1, Size: size, Window: window, Buffer: buffer, Queue: queue, Quantum: 64, Table: 64, Work: 64, Workers: 1, Timeout: 8}
}

func TestWriteByHand(t *testing.T) {
	h := newHand(t, wide(2, 1, 5, 9))
	h.refused(opening(3, 1), api.OK)
	h.answered(writing(3, "abc"), api.Answer{N: 3})
	h.load(0, 0, 3, 0, 0, 1)
	// A block flies, a byte waits to be cut, and there is room for four.
	h.answered(writing(3, "defgh"), api.Answer{N: 4})
	h.load(0, 0, 7, 0, 0, 1)
	h.answered(writing(3, ""), api.Answer{})
	h.begin(writing(3, "hij"))
	h.pending(api.Wait{ID: 5, Call: writing(3, "hij")})
	h.refused(writing(3, "x"), api.ErrBusy)
	h.refused(writing(3, letters(900, 1)), api.ErrBusy)
	h.answered(writing(3, ""), api.Answer{})
	h.load(0, 0, 7, 0, 0, 1)
	h.sends(shard(3, 0, 0, 1, 1, 2, "ab"))
	// There is room for two behind the block that is cut then: the rest is not written.
	h.recv(ack(3, 1, 1), wrote(5, 2))
	h.pending()
	h.load(0, 0, 7, 0, 0, 1)
	h.sends(shard(3, 1, 0, 1, 1, 2, "cd"))
	h.begin(writing(3, "k"))
	h.recv(ack(3, 2, 1), wrote(9, 1))
	h.load(0, 0, 6, 0, 0, 1)
	h.answered(writing(3, "l"), api.Answer{N: 1})
	h.begin(writing(3, "m"))
	h.sends(shard(3, 2, 0, 1, 1, 2, "ef"))
	h.recv(ack(3, 3, 1), wrote(11, 1))
	h.sends(shard(3, 3, 0, 1, 1, 2, "gh"))
	h.recv(ack(3, 4, 1))
	h.sends(shard(3, 4, 0, 1, 1, 2, "ik"))
	h.recv(ack(3, 5, 1))
	h.sends(shard(3, 5, 0, 1, 1, 2, "lm"))
	h.load(0, 0, 2, 0, 0, 1)
}

// Bodies about as great as the room, at each room that there may be, and several one behind the other.
func TestWriteAboutTheRoom(t *testing.T) {
	for _, c := range []api.Config{wide(1, 1, 1, 1), wide(2, 1, 5, 9), wide(3, 2, 7, 9), least(2, 3), plainMade()} {
		for first := range c.Buffer + 3 {
			for _, far := range []int{-2, -1, 0, 1, 2, 50} {
				b := newBoth(t, c)
				b.open(3, 1)
				b.write(3, letters(first, 1))
				room := b.want.stream(3).out.Room()
				b.write(3, letters(max(0, room+far), 2))
				b.write(3, "more")
				b.write(3, "")
				b.write(3, "and more")
				for next := uint32(1); next < 6; next++ {
					b.recv(ack(3, next, c.Window))
				}
				b.close(3)
				b.end()
			}
		}
	}
}

// The room of one stream is not that of another one.
func TestWriteOfSeveralStreams(t *testing.T) {
	h := newHand(t, least(1, 1))
	for _, stream := range []int{4, 5} {
		h.refused(opening(stream, 1), api.OK)
		h.answered(writing(stream, "a"), api.Answer{N: 1})
		h.answered(writing(stream, "b"), api.Answer{N: 1})
	}
	h.begin(writing(4, "c"))
	h.begin(writing(5, "c"))
	h.refused(writing(4, "d"), api.ErrBusy)
	h.recv(ack(5, 1, 1), wrote(8, 1))
	h.recv(ack(4, 1, 1), wrote(7, 1))
}

// Promise 30.2: CallRead.

func TestReadByHand(t *testing.T) {
	h := newHand(t, wide(5, 4, 5, 20))
	h.refused(opening(3, 1), api.OK)
	h.begin(reading(3, 4))
	h.pending(api.Wait{ID: 2, Call: reading(3, 4)})
	// ErrArg is asked ahead of ErrBusy.
	h.refused(reading(3, 0), api.ErrArg)
	h.refused(reading(3, 1), api.ErrBusy)
	h.refused(reading(3, 4), api.ErrBusy)
	h.recv(block(3, 0, "hello"))
	h.works(got(2, "hell"))
	h.pending()
	h.answered(reading(3, 4), api.Answer{Body: "o"})
	h.begin(reading(3, 1))
	h.recv(block(3, 1, "world"))
	h.works(got(7, "w"))
	h.answered(reading(3, 1), api.Answer{Body: "o"})
	h.answered(reading(3, math.MaxInt), api.Answer{Body: "rld"})
	h.begin(reading(3, math.MaxInt))
	h.recv(fin(3, 2), failed(10, api.ErrEOF))
	h.refused(reading(3, 1), api.ErrEOF)
	h.refused(reading(3, 0), api.ErrArg)
	h.refused(reading(3, 1), api.ErrEOF)
}

func TestReadOfNoBytes(t *testing.T) {
	h := newHand(t, plainMade())
	h.refused(opening(3, 1), api.OK)
	for range 3 {
		for _, n := range append(farInts(), -1, 0) {
			if n < 1 {
				h.refused(reading(3, n), api.ErrArg)
			}
		}
		h.recv(block(3, 0, "x"))
		h.e.Work(0)
	}
	h.answered(reading(3, 1), api.Answer{Body: "x"})
}

// What was read is gone, and each byte is read once, whatever the pieces are.
func TestReadInPieces(t *testing.T) {
	for piece := 1; piece < 30; piece++ {
		h := newHand(t, wide(9, 4, 9, 36))
		h.refused(opening(0, 1), api.OK)
		for i := range 3 {
			h.recv(block(0, uint32(i), letters(9, i)))
			h.works()
		}
		text := letters(9, 0) + letters(9, 1) + letters(9, 2)
		for at := 0; at < 27; at += piece {
			h.answered(reading(0, piece), api.Answer{Body: text[at:min(at+piece, 27)]})
		}
		h.begin(reading(0, piece))
	}
}

// What is read lets what waits for room come in, and that is said.
func TestReadMakesRoom(t *testing.T) {
	h := newHand(t, wide(4, 4, 4, 6))
	h.refused(opening(3, 1), api.OK)
	for i, text := range []string{"abcd", "efgh", "ij"} {
		h.recv(block(3, uint32(i), text))
		h.works()
	}
	h.load(0, 0, 0, 10, 1, 1)
	h.sends(ack(3, 1, 4))
	h.answered(reading(3, 1), api.Answer{Body: "a"})
	h.sends()
	h.answered(reading(3, 1), api.Answer{Body: "b"})
	h.sends(ack(3, 2, 4))
	h.load(0, 0, 0, 8, 0, 1)
	h.answered(reading(3, 9), api.Answer{Body: "cdefgh"})
	h.sends(ack(3, 3, 4))
	h.answered(reading(3, 9), api.Answer{Body: "ij"})
	h.sends()
}

// A read of no more than is there does not say what was said.
func TestReadSaysNothingElse(t *testing.T) {
	h := newHand(t, plainMade())
	h.refused(opening(3, 1), api.OK)
	h.begin(reading(3, 5))
	h.sends()
	h.load(0, 0, 0, 0, 0, 1)
	h.counts(api.Counts{})
}

// Promise 30.2: CallClose.

func TestCloseByHand(t *testing.T) {
	h := newHand(t, wide(2, 1, 2, 9))
	h.refused(opening(3, 1), api.OK)
	h.answered(writing(3, "ab"), api.Answer{N: 2})
	h.answered(writing(3, "cd"), api.Answer{N: 2})
	h.begin(writing(3, "ef"))
	h.begin(reading(3, 1))
	// The write that waits is answered ahead of all else; the read waits on.
	h.begin(closing(3), failed(4, api.ErrClosed))
	h.state(3, api.Local)
	h.pending(api.Wait{ID: 5, Call: reading(3, 1)}, api.Wait{ID: 6, Call: closing(3)})
	h.refused(closing(3), api.ErrClosed)
	h.refused(writing(3, "x"), api.ErrClosed)
	h.refused(writing(3, ""), api.ErrClosed)
	// Two blocks, of which one flies: where it ends is said when all is cut.
	h.sends(block(3, 0, "ab"))
	h.recv(ack(3, 1, 1))
	h.sends(fin(3, 2), block(3, 1, "cd"))
	h.load(0, 0, 2, 0, 0, 1)
	h.recv(ack(3, 2, 1))
	h.sends()
	h.load(0, 0, 0, 0, 0, 1)
	h.pending(api.Wait{ID: 5, Call: reading(3, 1)}, api.Wait{ID: 6, Call: closing(3)})
	// One that goes too far is none.
	h.recv(ack(3, 4, 1))
	h.recv(ack(3, 3, 1), fine(6))
	h.pending(api.Wait{ID: 5, Call: reading(3, 1)})
	h.recv(ack(3, 3, 1))
	h.state(3, api.Local)
	h.refused(closing(3), api.ErrClosed)
	h.sends()
}

// Of nothing that was written the end is said at once, also of less than a block behind one that flies.
func TestCloseSaysTheEnd(t *testing.T) {
	h := newHand(t, wide(4, 4, 16, 9))
	h.refused(opening(0, 1), api.OK)
	h.begin(closing(0))
	h.sends(fin(0, 0))
	h.recv(ack(0, 0, 4))
	h.recv(ack(0, 1, 4), fine(2))
	h.refused(opening(1, 1), api.OK)
	h.answered(writing(1, "abcdef"), api.Answer{N: 6})
	h.sends(block(1, 0, "abcd"))
	h.begin(closing(1))
	h.sends(fin(1, 2), block(1, 1, "ef"))
	h.recv(ack(1, 3, 4), fine(5))
	h.load(0, 0, 0, 0, 0, 2)
}

func TestCloseOfRemote(t *testing.T) {
	h := in(t, plainMade(), true, api.Remote)
	h.answered(writing(3, "ab"), api.Answer{N: 2})
	h.begin(closing(3))
	h.state(3, api.Shut)
	h.refused(closing(3), api.ErrClosed)
	h.sends(append([]api.Datagram{fin(3, 1)}, shards(t, 3, 0, "ab", 4, 2)...)...)
	h.recv(ack(3, 2, 4), fine(3))
	h.state(3, api.Shut)
}

// Promise 30.2: CallAbort.

// What was to be said of the stream is not said, and a Rst is; entries are gone, calls answered; another stream is as it was.
func TestAbortByHand(t *testing.T) {
	h := newHand(t, wide(2, 1, 2, 9))
	for _, stream := range []int{3, 4} {
		h.refused(opening(stream, 1), api.OK)
		h.answered(writing(stream, "ab"), api.Answer{N: 2})
		h.answered(writing(stream, "cd"), api.Answer{N: 2})
		h.begin(writing(stream, "ef"))
		h.begin(reading(stream, 1))
		h.recvAll(shard(stream, 0, 0, 2, 3, 2, "x"), fin(stream, 1))
	}
	h.load(2, 0, 4, 0, 2, 2)
	h.timer(8, 2)
	h.load(2, 0, 4, 0, 4, 2)
	h.begin(aborting(3), failed(4, api.ErrReset), failed(5, api.ErrReset), fine(11))
	h.state(3, api.Broken)
	h.state(4, api.Opened)
	h.load(1, 0, 4, 0, 3, 2)
	h.pending(api.Wait{ID: 9, Call: writing(4, "ef")}, api.Wait{ID: 10, Call: reading(4, 1)})
	for _, c := range []api.Call{writing(3, "x"), writing(3, ""), reading(3, 1), reading(3, 0), closing(3), aborting(3)} {
		h.refused(c, api.ErrReset)
	}
	h.refused(opening(3, 1), api.ErrTwice)
	// What flies was handed over to be sent ahead, and is not taken back.
	h.sends(ack(4, 0, 1), nack(4, 0, 0), rst(3), block(3, 0, "ab"), block(4, 0, "ab"))
	// The other one goes on.
	h.recv(ack(4, 1, 1), wrote(9, 2))
	h.sends(block(4, 1, "cd"))
}

// All three that wait are answered, by rising kinds; a Fin is not said any more.
func TestAbortAnswersAll(t *testing.T) {
	h := newHand(t, wide(2, 1, 2, 9))
	h.refused(opening(3, 1), api.OK)
	h.begin(reading(3, 1))
	h.begin(closing(3))
	h.load(0, 0, 0, 0, 1, 1)
	h.begin(aborting(3), failed(2, api.ErrReset), failed(3, api.ErrReset), fine(4))
	h.load(0, 0, 0, 0, 1, 1)
	h.sends(rst(3))
	h.pending()
	h.timer(100, 0)
	h.sends()
}

// One Rst is said, though others were to be.
func TestAbortOfSeveral(t *testing.T) {
	h := newHand(t, plainMade())
	for _, stream := range []int{9, 2, 5} {
		h.refused(opening(stream, 1), api.OK)
		h.begin(closing(stream))
	}
	h.begin(aborting(5), failed(6, api.ErrReset), fine(7))
	h.begin(aborting(9), failed(2, api.ErrReset), fine(8))
	h.sends(fin(2, 0), rst(5), rst(9))
}

// What waits as work of a stream that is aborted is done, and is not read.
func TestWorkOfAborted(t *testing.T) {
	h := newHand(t, plainMade())
	h.refused(opening(3, 1), api.OK)
	h.recvAll(block(3, 0, "abc"), shard(3, 1, 0, 2, 2, 2, "x"))
	h.load(2, 1, 0, 0, 0, 1)
	h.begin(aborting(3), fine(2))
	h.load(0, 1, 0, 0, 1, 1)
	h.works()
	h.idle()
	h.counts(api.Counts{Taken: 2, Decoded: 1})
	h.refused(reading(3, 1), api.ErrReset)
	h.state(3, api.Broken)
	h.sends(rst(3), ack(3, 0, 4))
}
