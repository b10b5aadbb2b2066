package endpoint

import (
	"lightship/api"
	"lightship/datagram"
	"lightship/decode"
)

// Work does the first job that waits; whether there was one.
func (e *End) Work(now int) bool {
	if e == nil {
		return false
	}
	j, some := e.work.Pop()
	if !some {
		return false
	}
	e.makeUp()
	s := e.streams[j.Key.Stream]
	e.gathered.Take(j.Key)
	delete(s.shapes, j.Key.Block)
	result := decode.Do(j)
	if result.Err != api.OK {
		e.counts.Bad++
		return true
	}
	s.in.Put(j.Key.Block, result.Body)
	e.counts.Decoded++
	e.sayAck(s)
	e.settle(s, now)
	return true
}

// makeUp: the first job that came too late for the room there was has room now.
func (e *End) makeUp() {
	if len(e.late) == 0 {
		return
	}
	e.work.Push(e.late[0])
	// Its place stays in memory as long as those behind it, and would keep its shards there.
	e.late[0] = api.Job{}
	e.late = e.late[1:]
}

// Send are the bytes of the next datagram that is to be sent, and whether there is one.
func (e *End) Send(now int) (string, bool) {
	if e == nil {
		return "", false
	}
	d, some := e.says.Next()
	if !some {
		d, some = e.nextShard()
	}
	if !some {
		return "", false
	}
	// It has no error: whoever made the datagram saw to it that it may be.
	raw, _ := datagram.Put(d)
	e.counts.Sent++
	return raw, true
}

// nextShard is the next shard of the stream whose turn it is, and whether there is one.
func (e *End) nextShard() (api.Datagram, bool) {
search:
	for {
		item, some := e.turns.Next()
		if !some {
			return api.Datagram{}, false
		}
		d, flies := e.streams[item.ID].out.Pop()
		if !flies {
			// The other side has its block: it had its turn, and is sent no more.
			continue search
		}
		return d, true
	}
}

// Timer says and sends anew what the other side did not answer, of all streams of which Timeout has passed: how many these were.
func (e *End) Timer(now int) int {
	if e == nil {
		return 0
	}
	many := 0
	for _, s := range e.streams {
		if s != nil && s.state != api.Broken && s.isDue(now, e.made.Timeout) {
			s.timed = now
			e.tick(s, now)
			many++
		}
	}
	return many
}

// isDue: have wait or more passed since Timer did it last?
func (s *stream) isDue(now, wait int) bool {
	// What lies ahead of it is asked first: else a now far below 0 would go round.
	return now > s.timed && now-s.timed >= wait
}

// tick says and sends anew what the other side did not answer.
func (e *End) tick(s *stream, now int) {
	e.resend(s.out.Tick(now))
	if _, is := s.out.Fin(); is {
		e.sayFin(s)
	}
	next, _ := s.in.Ack()
	e.says.Clean(s.id, next)
	for _, block := range s.in.Lacks() {
		e.sayNack(s, block)
	}
}
