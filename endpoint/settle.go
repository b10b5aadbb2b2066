package endpoint

import "lightship/api"

// settle does all that the stream lets be done; it is asked behind whatever changes the stream.
func (e *End) settle(s *stream, now int) {
	if s.state == api.Broken {
		return
	}
	e.deliver(s)
	e.answerRead(s)
	// What was read made room.
	e.deliver(s)
	// What is cut into blocks makes room for a write, of which more may be cut.
	for range 2 {
		e.answerWrite(s)
		e.push(s.out.Fill(now))
	}
	if _, is := s.out.Fin(); is && !s.finSaid {
		s.finSaid = true
		e.sayFin(s)
	}
	if s.out.Finished() {
		e.answerClose(s)
	}
}

// deliver: the blocks that are next wait to be read, and the other side is to hear how far they came.
func (e *End) deliver(s *stream) {
	if s.in.Deliver() > 0 {
		e.sayAck(s)
	}
	if s.in.Ended() && !s.ended {
		s.ended = true
		s.move(api.EvFin)
		e.sayAck(s)
	}
}

// answerRead: a read that waits is answered, if bytes wait, or the end was read.
func (e *End) answerRead(s *stream) {
	w, waits := e.waiting.Get(s.id, api.CallRead)
	if !waits {
		return
	}
	body, err := s.in.Read(w.Call.N)
	if body == "" && err == api.OK {
		return
	}
	e.waiting.Take(s.id, api.CallRead)
	e.answer(w, api.Answer{Body: body, Err: err})
}

// answerWrite: a write that waits is answered, if there is room.
func (e *End) answerWrite(s *stream) {
	if s.out.Room() == 0 {
		return
	}
	if w, waited := e.waiting.Take(s.id, api.CallWrite); waited {
		e.answer(w, api.Answer{N: s.out.Write(w.Call.Body)})
	}
}

// answerClose: a close that waits is answered.
func (e *End) answerClose(s *stream) {
	if w, waited := e.waiting.Take(s.id, api.CallClose); waited {
		e.tell(w, api.OK)
	}
}

// push: these are sent when it is the turn of their stream.
func (e *End) push(items []api.Item) {
	for _, x := range items {
		e.turns.Push(x)
	}
}

// resend is push of what is sent anew.
func (e *End) resend(items []api.Item) {
	e.counts.Resent += len(items)
	e.push(items)
}
