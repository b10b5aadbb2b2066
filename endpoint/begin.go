package endpoint

import (
	"lightship/api"
	"lightship/calls"
	"lightship/fsm"
)

// Begin is the number of the call, which is answered at once, or waits.
func (e *End) Begin(c api.Call, now int) int {
	if e == nil {
		return 0
	}
	e.begun++
	w := api.Wait{ID: e.begun, Call: c}
	switch {
	case e.stopped:
		e.tell(w, api.ErrClosed)
	case c.Kind < api.CallOpen || c.Kind > api.CallStop:
		e.tell(w, api.ErrArg)
	case c.Kind == api.CallStop:
		e.stop(w)
	case !isStream(c.Stream):
		e.tell(w, api.ErrRange)
	case c.Kind == api.CallOpen:
		e.tell(w, e.open(c.Stream, c.N))
	default:
		e.beginOf(e.streams[c.Stream], w, now)
	}
	return w.ID
}

// Take is the first answer that was not taken, and whether there is one.
func (e *End) Take() (api.Done, bool) {
	if e == nil || len(e.answered) == 0 {
		return api.Done{}, false
	}
	first := e.answered[0]
	// Its place stays in memory as long as those behind it, and would keep its bytes there.
	e.answered[0] = api.Done{}
	e.answered = e.answered[1:]
	return first, true
}

// answer: the call is answered.
func (e *End) answer(w api.Wait, a api.Answer) {
	e.answered = append(e.answered, api.Done{ID: w.ID, Answer: a})
}

// tell: the call is answered that error, or OK, and nothing beside it.
func (e *End) tell(w api.Wait, err api.Errno) {
	e.answer(w, api.Answer{Err: err})
}

// tellAll: these calls are answered that error.
func (e *End) tellAll(l []api.Wait, err api.Errno) {
	for _, w := range l {
		e.tell(w, err)
	}
}

// stop: no call waits any more, and none will.
func (e *End) stop(w api.Wait) {
	e.stopped = true
	e.tellAll(e.waiting.All(), api.ErrClosed)
	e.waiting = calls.New()
	e.tell(w, api.OK)
}

// open is what an open of that stream is answered.
func (e *End) open(id, weight int) api.Errno {
	if weight < 1 || weight > api.MaxWeight {
		return api.ErrRange
	}
	s := e.streams[id]
	switch {
	case s == nil:
		e.begin(id, weight, true)
	case s.own:
		return api.ErrTwice
	default:
		s.own = true
		e.turns.Remove(id)
		e.turns.Add(id, weight)
	}
	return api.OK
}

// beginOf does a call of that stream, if there is one; what waits is answered when the stream is settled, be it at once.
func (e *End) beginOf(s *stream, w api.Wait, now int) {
	if err := refusal(s, w.Call); err != api.OK {
		e.tell(w, err)
		return
	}
	switch w.Call.Kind {
	case api.CallClose:
		e.close(s, w)
	case api.CallAbort:
		e.abort(s, w)
	default:
		if !e.await(w) {
			return
		}
	}
	e.settle(s, now)
}

// refusal is why a call of that stream is none that may be, or OK.
func refusal(s *stream, c api.Call) api.Errno {
	if s == nil || !s.own {
		return api.ErrNone
	}
	err := fsm.May(s.state, c.Kind)
	if err == api.OK && c.Kind == api.CallRead && c.N < 1 {
		return api.ErrArg
	}
	return err
}

// await: does the write, or the read, wait? If not, it is answered.
func (e *End) await(w api.Wait) bool {
	if w.Call.Kind == api.CallWrite && w.Call.Body == "" {
		e.answer(w, api.Answer{})
		return false
	}
	err := e.waiting.Ask(w)
	if err != api.OK {
		e.tell(w, err)
	}
	return err == api.OK
}

// close: the stream is written no more, and the close waits until the other side has all of it.
func (e *End) close(s *stream, w api.Wait) {
	s.move(api.EvClose)
	s.out.Close()
	if write, waited := e.waiting.Take(s.id, api.CallWrite); waited {
		e.tell(write, api.ErrClosed)
	}
	// There is no other one: a stream that was closed is closed no more.
	e.waiting.Ask(w)
}

// abort: the stream is broken, and that alone is said of it.
func (e *End) abort(s *stream, w api.Wait) {
	s.move(api.EvAbort)
	e.says.Drop(s.id)
	e.sayRst(s)
	e.forget(s)
	e.tellAll(e.waiting.Drop(s.id), api.ErrReset)
	e.tell(w, api.OK)
}
