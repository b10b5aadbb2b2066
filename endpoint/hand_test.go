package endpoint_test

import (
	"slices"
	"strconv"
	"testing"

	"lightship/api"
	"lightship/datagram"
	"lightship/endpoint"
)

// hand is an endpoint of which the answers are written out.
type hand struct {
	t     *testing.T
	e     *endpoint.End
	calls int
	now   int
}

func newHand(t *testing.T, c api.Config) *hand {
	t.Helper()
	return &hand{t: t, e: newEnd(t, c)}
}

// Calls.

func opening(stream, weight int) api.Call {
	return api.Call{Kind: 1, Stream: stream, N: weight}
}

func writing(stream int, body string) api.Call {
	return api.Call{Kind: 2, Stream: stream, Body: body}
}

func reading(stream, n int) api.Call { return api.Call{Kind: 3, Stream: stream, N: n} }

func closing(stream int) api.Call { return api.Call{Kind: 4, Stream: stream} }

func aborting(stream int) api.Call { return api.Call{Kind: 5, Stream: stream} }

func stopping() api.Call { return api.Call{Kind: 6} }

// Answers.

func failed(id int, err api.Errno) api.Done {
	return api.Done{ID: id, Answer: api.Answer{Err: err}}
}

func fine(id int) api.Done { return failed(id, api.OK) }

func wrote(id, n int) api.Done { return api.Done{ID: id, Answer: api.Answer{N: n}} }

func got(id int, body string) api.Done {
	return api.Done{ID: id, Answer: api.Answer{Body: body}}
}

// answers: these are taken, in that order, and no others.
func (h *hand) answers(want ...api.Done) {
	h.t.Helper()
	var l []api.Done
	for d, some := h.e.Take(); some; d, some = h.e.Take() {
		l = append(l, d)
	}
	if !slices.Equal(l, want) {
		h.t.Errorf("answers %v, want %v", l, want)
	}
	if d, some := h.e.Take(); some || d != (api.Done{}) {
		h.t.Errorf("Take behind the last answer: %v, %t", d, some)
	}
}

// begin: the call has the next number, and these are the answers then.
func (h *hand) begin(c api.Call, want ...api.Done) {
	h.t.Helper()
	h.calls++
	if id := h.e.Begin(c, h.now); id != h.calls {
		h.t.Errorf("%s: number %d, want %d", callTold(c), id, h.calls)
	}
	h.answers(want...)
}

// answered: the call is answered that, at once.
func (h *hand) answered(c api.Call, a api.Answer) {
	h.t.Helper()
	h.begin(c, api.Done{ID: h.calls + 1, Answer: a})
}

// refused: the call is answered that error (or OK), at once.
func (h *hand) refused(c api.Call, err api.Errno) {
	h.t.Helper()
	h.answered(c, api.Answer{Err: err})
}

// raw takes bytes, and these are the answers then.
func (h *hand) raw(raw string, err api.Errno, want ...api.Done) {
	h.t.Helper()
	if told := h.e.Recv(raw, h.now); told != err {
		h.t.Errorf("Recv(%s): %d, want %d", rawTold(raw), told, err)
	}
	h.answers(want...)
}

// recv takes a datagram, and these are the answers then.
func (h *hand) recv(d api.Datagram, want ...api.Done) {
	h.t.Helper()
	h.raw(bytesOf(h.t, d), api.OK, want...)
}

// recvAll takes datagrams, by which nothing is answered.
func (h *hand) recvAll(l ...api.Datagram) {
	h.t.Helper()
	for _, d := range l {
		h.recv(d)
	}
}

// sends: these datagrams are sent, in that order, and no others.
func (h *hand) sends(want ...api.Datagram) {
	h.t.Helper()
	for i, d := range want {
		raw, some := h.e.Send(h.now)
		if raw != bytesOf(h.t, d) || !some {
			h.t.Errorf("Send at place %d: %s, %t, want %s", i, rawTold(raw), some, rawTold(bytesOf(h.t, d)))
		}
	}
	for range 2 {
		if raw, some := h.e.Send(h.now); some || raw != "" {
			h.t.Errorf("Send behind %d: %s, %t, want none", len(want), rawTold(raw), some)
		}
	}
}

// drop sends all, whatever it is.
func (h *hand) drop() {
	for _, some := h.e.Send(h.now); some; _, some = h.e.Send(h.now) {
	}
}

// works: a job waited, and was done, and these are the answers then.
func (h *hand) works(want ...api.Done) {
	h.t.Helper()
	if !h.e.Work(h.now) {
		h.t.Error("Work: false, want true")
	}
	h.answers(want...)
}

// idle: no job waits.
func (h *hand) idle() {
	h.t.Helper()
	if h.e.Work(h.now) {
		h.t.Error("Work: true, want false")
	}
	h.answers()
}

// timer: so many streams are done at that time.
func (h *hand) timer(now, want int) {
	h.t.Helper()
	h.now = now
	if many := h.e.Timer(now); many != want {
		h.t.Errorf("Timer(%d): %d, want %d", now, many, want)
	}
	h.answers()
}

func (h *hand) state(stream, want int) {
	h.t.Helper()
	if state := h.e.State(stream); state != want {
		h.t.Errorf("State(%d): %d, want %d", stream, state, want)
	}
}

// pending: these wait, in that order.
func (h *hand) pending(want ...api.Wait) {
	h.t.Helper()
	if l := h.e.Pending(); !slices.Equal(l, want) {
		h.t.Errorf("Pending: %v, want %v", l, want)
	}
}

func (h *hand) counts(want api.Counts) {
	h.t.Helper()
	if counts := h.e.Counts(); counts != want {
		h.t.Errorf("Counts: %+v, want %+v", counts, want)
	}
}

func (h *hand) load(want ...int) {
	h.t.Helper()
	if load := h.e.Load(); !slices.Equal(load[:], want) {
		h.t.Errorf("Load: %v, want %v", load, want)
	}
}

func (h *hand) stopped(want bool) {
	h.t.Helper()
	if stopped := h.e.Stopped(); stopped != want {
		h.t.Errorf("Stopped: %t, want %t", stopped, want)
	}
}

// empty: there is no stream, and nothing waits.
func (h *hand) empty() {
	h.t.Helper()
	for range 2 {
		for stream := -2; stream < 259; stream++ {
			h.state(stream, api.Idle)
		}
		for _, stream := range farInts() {
			h.state(stream, api.Idle)
		}
		h.pending()
		h.answers()
		h.sends()
		h.idle()
		h.timer(0, 0)
		h.timer(1<<30, 0)
		h.load(0, 0, 0, 0, 0, 0)
	}
}

// in is an endpoint whose stream 3 is in that state, opened here or not; nothing is to be sent any more.
func in(t *testing.T, c api.Config, own bool, state int) *hand {
	t.Helper()
	h := newHand(t, c)
	if own {
		h.refused(opening(3, 1), api.OK)
	} else {
		h.recv(shard(3, 0, 0, 2, 2, 2, "x"))
	}
	if own && (state == api.Local || state == api.Shut) {
		h.begin(closing(3))
	}
	if state == api.Remote || state == api.Shut {
		h.recv(fin(3, 0))
	}
	if state == api.Broken {
		h.recv(rst(3))
	}
	h.drop()
	h.state(3, state)
	return h
}

// kindTold is a datagram's kind, as it is told.
func kindTold(d api.Datagram) string { return "kind " + strconv.Itoa(d.Kind) }

// read is the datagram of these bytes.
func read(t *testing.T, raw string) api.Datagram {
	d, err := datagram.Read(raw)
	if err != api.OK {
		t.Helper()
		t.Fatalf("Read(%s): %d", short(raw), err)
	}
	return d
}
