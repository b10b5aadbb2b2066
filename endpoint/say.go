package endpoint

import (
	"lightship/api"
	"lightship/bits"
)

// None of what is asked here has an error: it is of a stream, and of the kinds that are said.

// sayAck: the other side is to hear how far the stream's blocks came.
func (e *End) sayAck(s *stream) {
	next, window := s.in.Ack()
	e.says.Ask(api.Datagram{Kind: api.Ack, Stream: s.id, Block: next, Credit: window})
}

// sayNack: the other side is to hear which shards of the block came.
func (e *End) sayNack(s *stream, block uint32) {
	shards, _ := e.gathered.Get(api.Key{Stream: s.id, Block: block})
	var came []int
	for _, x := range shards {
		came = append(came, x.Index)
	}
	e.says.Ask(api.Datagram{Kind: api.Nack, Stream: s.id, Block: block, Have: bits.Of(came)})
}

// sayFin: the other side is to hear behind which block the stream ends.
func (e *End) sayFin(s *stream) {
	next, _ := s.out.Fin()
	e.says.Ask(api.Datagram{Kind: api.Fin, Stream: s.id, Block: next})
}

// sayRst: the other side is to hear that the stream is broken.
func (e *End) sayRst(s *stream) {
	e.says.Ask(api.Datagram{Kind: api.Rst, Stream: s.id})
}
