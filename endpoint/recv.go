package endpoint

import (
	"lightship/api"
	"lightship/config"
	"lightship/datagram"
)

// Recv takes a datagram; chapter 10's Read's error; ErrClosed, if it was stopped.
func (e *End) Recv(raw string, now int) api.Errno {
	if e == nil {
		return api.ErrNil
	}
	d, err := datagram.Read(raw)
	switch {
	case err != api.OK:
		e.counts.Bad++
		return err
	case e.stopped:
		return api.ErrClosed
	}
	e.counts.Taken++
	s := e.streamOf(d)
	switch {
	case s == nil:
	case s.state == api.Broken:
		e.answerBroken(s, d)
	default:
		e.take(s, d)
		e.settle(s, now)
	}
	return api.OK
}

// streamOf is the datagram's stream, which the other side may have begun by it; nil, if there is none.
func (e *End) streamOf(d api.Datagram) *stream {
	s := e.streams[d.Stream]
	if s != nil {
		return s
	}
	switch d.Kind {
	case api.Data, api.Repair, api.Fin:
		return e.begin(d.Stream, 1, false)
	}
	return nil
}

// answerBroken: who still speaks of a broken stream is to hear that it is.
func (e *End) answerBroken(s *stream, d api.Datagram) {
	switch d.Kind {
	case api.Data, api.Repair, api.Fin, api.Nack:
		e.sayRst(s)
	}
}

// take takes a datagram of a stream that is not broken.
func (e *End) take(s *stream, d api.Datagram) {
	switch d.Kind {
	case api.Rst:
		e.reset(s)
	case api.Ack:
		s.out.Ack(d.Block, d.Credit)
	case api.Nack:
		e.resend(s.out.Nack(d.Block, d.Have))
	case api.Fin:
		if err := s.in.Fin(d.Block); err == api.OK || s.in.Ended() {
			e.sayAck(s)
		}
	default:
		e.takeShard(s, d)
	}
}

// reset: the other side broke the stream. One that is shut stays so.
func (e *End) reset(s *stream) {
	s.move(api.EvRst)
	e.tellAll(e.waiting.Drop(s.id), api.ErrReset)
	e.forget(s)
	e.says.Drop(s.id)
}

// takeShard takes a shard of a block, if that is wanted.
func (e *End) takeShard(s *stream, d api.Datagram) {
	switch s.in.Saw(d.Block) {
	case 0:
		e.counts.Old++
		e.sayAck(s)
	case 1:
		e.counts.Beyond++
	case 2:
		e.counts.Twice++
	case 3:
		e.gather(s, d)
	}
}

// gather: the shard is put to the others of its block, which is decoded once there are enough.
func (e *End) gather(s *stream, d api.Datagram) {
	has := shape{n: d.N, size: d.Len}
	others, some := s.shapes[d.Block]
	if d.Len > config.Block(e.made) || some && others != has {
		e.counts.Bad++
		return
	}
	k := api.Key{Stream: s.id, Block: d.Block}
	switch e.gathered.Put(k, d.K, api.Shard{Index: d.Index, Body: d.Body}) {
	case 0:
		s.shapes[d.Block] = has
	case 1:
		e.counts.Twice++
	case 2:
		e.counts.Full++
	case 3:
		s.shapes[d.Block] = has
		shards, _ := e.gathered.Get(k)
		e.queue(api.Job{Key: k, K: d.K, N: d.N, Len: d.Len, Shards: shards})
	default:
		e.counts.Bad++
	}
}

// queue: the job waits to be done, behind all others.
func (e *End) queue(j api.Job) {
	// As long as some wait for room there is none, so that none comes ahead of them.
	if e.work.Push(j) != api.OK {
		e.late = append(e.late, j)
	}
}
