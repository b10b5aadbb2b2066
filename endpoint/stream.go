package endpoint

import (
	"lightship/api"
	"lightship/fsm"
	"lightship/inbound"
	"lightship/outbound"
)

// stream is one of an endpoint's streams.
type stream struct {
	id    int
	out   *outbound.Out
	in    *inbound.In
	state int
	// own: was it opened here?
	own bool
	// ended: did its state hear of the other side's end?
	ended bool
	// finSaid: was it to be said already where this side ends?
	finSaid bool
	// timed is when Timer did it last.
	timed int
	// shapes are those of the blocks that are gathered, by their numbers.
	shapes map[uint32]shape
}

// shape is what all shards of a block have alike, and the table does not ask.
type shape struct{ n, size int }

// begin makes a stream; there is none of that number.
func (e *End) begin(id, weight int, own bool) *stream {
	// Neither has an error of settings that Check lets through, and of a number that may be.
	out, _ := outbound.New(e.made, id)
	in, _ := inbound.New(e.made, id)
	s := &stream{id: id, out: out, in: in, state: api.Idle, own: own, shapes: map[uint32]shape{}}
	s.move(api.EvOpen)
	e.streams[id] = s
	e.turns.Add(id, weight)
	return s
}

// move: the stream's state is that by the event; it stays, where chapter 24 has an error.
func (s *stream) move(event int) {
	if next, err := fsm.Next(s.state, event); err == api.OK {
		s.state = next
	}
}

// forget: no block of the stream is gathered any more.
func (e *End) forget(s *stream) {
	e.gathered.Drop(s.id)
	clear(s.shapes)
}
