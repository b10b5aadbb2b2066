package endpoint_test

import (
	"cmp"
	"slices"

	"lightship/api"
	"lightship/config"
	"lightship/datagram"
	"lightship/decode"
	"lightship/drr"
	"lightship/inbound"
	"lightship/outbound"
)

// plainStream is a stream by the chapter's words.
type plainStream struct {
	number         int
	out            *outbound.Out
	in             *inbound.In
	state          int
	own            bool
	ended, finSaid bool
	lastTimer      int
}

// plainEntry is a block of which shards came.
type plainEntry struct {
	key        api.Key
	k, n, size int
	shards     []api.Shard
}

// plain is an endpoint by the chapter's words, against which the others are held: of layers 18, 19, 24, 25 and 29 it has lists of its own.
type plain struct {
	c       api.Config
	streams []*plainStream
	turns   *drr.Sched
	entries []plainEntry
	jobs    []api.Job
	say     []api.Datagram
	waits   []api.Wait
	answers []api.Done
	calls   int
	counts  api.Counts
	stopped bool
}

func newPlain(c api.Config) *plain {
	turns, _ := drr.New(c.Quantum)
	return &plain{c: c, turns: turns}
}

// stream is the one of that number, or nil.
func (p *plain) stream(number int) *plainStream {
	for _, s := range p.streams {
		if s.number == number {
			return s
		}
	}
	return nil
}

// make makes a stream; they stand by rising numbers.
func (p *plain) make(number, weight int, own bool) *plainStream {
	out, _ := outbound.New(p.c, number)
	in, _ := inbound.New(p.c, number)
	s := &plainStream{number: number, out: out, in: in, state: api.Opened, own: own}
	p.streams = append(p.streams, s)
	slices.SortFunc(p.streams, func(a, b *plainStream) int { return cmp.Compare(a.number, b.number) })
	p.turns.Add(number, weight)
	return s
}

// Calls.

func (p *plain) answer(id int, a api.Answer) {
	p.answers = append(p.answers, api.Done{ID: id, Answer: a})
}

// waiting is the place of the call of that stream and kind that waits, or -1.
func (p *plain) waiting(stream, kind int) int {
	return slices.IndexFunc(p.waits, func(w api.Wait) bool { return w.Call.Stream == stream && w.Call.Kind == kind })
}

// takeWait takes it out of those that wait.
func (p *plain) takeWait(stream, kind int) (api.Wait, bool) {
	i := p.waiting(stream, kind)
	if i < 0 {
		return api.Wait{}, false
	}
	w := p.waits[i]
	p.waits = slices.Delete(p.waits, i, i+1)
	return w, true
}

// answerAll answers all of the stream that wait, by rising kinds.
func (p *plain) answerAll(stream int, err api.Errno) {
	for _, kind := range []int{api.CallWrite, api.CallRead, api.CallClose} {
		if w, is := p.takeWait(stream, kind); is {
			p.answer(w.ID, api.Answer{Err: err})
		}
	}
}

func (p *plain) begin(c api.Call, now int) int {
	p.calls++
	id := p.calls
	fail := func(err api.Errno) int {
		p.answer(id, api.Answer{Err: err})
		return id
	}
	if p.stopped {
		return fail(api.ErrClosed)
	}
	if c.Kind < api.CallOpen || c.Kind > api.CallStop {
		return fail(api.ErrArg)
	}
	if c.Kind == api.CallStop {
		p.stopped = true
		for stream := range 256 {
			p.answerAll(stream, api.ErrClosed)
		}
		return fail(api.OK)
	}
	if c.Stream < 0 || c.Stream > 255 {
		return fail(api.ErrRange)
	}
	s := p.stream(c.Stream)
	if c.Kind == api.CallOpen {
		if c.N < 1 || c.N > 255 {
			return fail(api.ErrRange)
		}
		if s == nil {
			p.make(c.Stream, c.N, true)
			return fail(api.OK)
		}
		if s.own {
			return fail(api.ErrTwice)
		}
		s.own = true
		p.turns.Remove(c.Stream)
		p.turns.Add(c.Stream, c.N)
		return fail(api.OK)
	}
	if s == nil || !s.own {
		return fail(api.ErrNone)
	}
	if s.state == api.Broken {
		return fail(api.ErrReset)
	}
	if (c.Kind == api.CallWrite || c.Kind == api.CallClose) && (s.state == api.Local || s.state == api.Shut) {
		return fail(api.ErrClosed)
	}
	if c.Kind == api.CallAbort && s.state == api.Shut {
		return fail(api.ErrClosed)
	}
	switch c.Kind {
	case api.CallWrite:
		p.write(s, id, c, now)
	case api.CallRead:
		p.read(s, id, c, now)
	case api.CallClose:
		if s.state == api.Opened {
			s.state = api.Local
		} else {
			s.state = api.Shut
		}
		s.out.Close()
		if w, is := p.takeWait(c.Stream, api.CallWrite); is {
			p.answer(w.ID, api.Answer{Err: api.ErrClosed})
		}
		p.waits = append(p.waits, api.Wait{ID: id, Call: c})
		p.settle(s, now)
	case api.CallAbort:
		s.state = api.Broken
		p.unsay(c.Stream)
		p.ask(api.Datagram{Kind: api.Rst, Stream: c.Stream})
		p.dropEntries(c.Stream)
		p.answerAll(c.Stream, api.ErrReset)
		p.answer(id, api.Answer{})
	}
	return id
}

func (p *plain) write(s *plainStream, id int, c api.Call, now int) {
	if c.Body == "" {
		p.answer(id, api.Answer{})
		return
	}
	if p.waiting(c.Stream, c.Kind) >= 0 {
		p.answer(id, api.Answer{Err: api.ErrBusy})
		return
	}
	if s.out.Room() > 0 {
		p.answer(id, api.Answer{N: s.out.Write(c.Body)})
	} else {
		p.waits = append(p.waits, api.Wait{ID: id, Call: c})
	}
	p.settle(s, now)
}

func (p *plain) read(s *plainStream, id int, c api.Call, now int) {
	if c.N < 1 {
		p.answer(id, api.Answer{Err: api.ErrArg})
		return
	}
	if p.waiting(c.Stream, c.Kind) >= 0 {
		p.answer(id, api.Answer{Err: api.ErrBusy})
		return
	}
	if body, err := s.in.Read(c.N); body != "" || err != api.OK {
		p.answer(id, api.Answer{Body: body, Err: err})
	} else {
		p.waits = append(p.waits, api.Wait{ID: id, Call: c})
	}
	p.settle(s, now)
}

func (p *plain) take() (api.Done, bool) {
	if len(p.answers) == 0 {
		return api.Done{}, false
	}
	first := p.answers[0]
	p.answers = p.answers[1:]
	return first, true
}

// What is to be said.

func (p *plain) ask(d api.Datagram) {
	for i, there := range p.say {
		if there.Kind == d.Kind && there.Stream == d.Stream && (d.Kind != api.Nack || there.Block == d.Block) {
			p.say[i] = d
			return
		}
	}
	p.say = append(p.say, d)
}

func (p *plain) ack(s *plainStream) {
	next, credit := s.in.Ack()
	p.ask(api.Datagram{Kind: api.Ack, Stream: s.number, Block: next, Credit: credit})
}

func (p *plain) unsay(stream int) {
	p.say = slices.DeleteFunc(p.say, func(d api.Datagram) bool { return d.Stream == stream && d.Kind != api.Rst })
}

// less: is b ahead of a, by less than half of all numbers?
func less(a, b uint32) bool { return a != b && b-a < 1<<31 }

// A stream is settled.

func (p *plain) settle(s *plainStream, now int) {
	if s.state == api.Broken {
		return
	}
	p.deliver(s)
	if i := p.waiting(s.number, api.CallRead); i >= 0 {
		if body, err := s.in.Read(p.waits[i].Call.N); body != "" || err != api.OK {
			w, _ := p.takeWait(s.number, api.CallRead)
			p.answer(w.ID, api.Answer{Body: body, Err: err})
		}
	}
	p.deliver(s)
	p.writeAndFill(s, now)
	p.writeAndFill(s, now)
	if block, is := s.out.Fin(); is && !s.finSaid {
		s.finSaid = true
		p.ask(api.Datagram{Kind: api.Fin, Stream: s.number, Block: block})
	}
	if s.out.Finished() {
		if w, is := p.takeWait(s.number, api.CallClose); is {
			p.answer(w.ID, api.Answer{})
		}
	}
}

func (p *plain) deliver(s *plainStream) {
	if s.in.Deliver() > 0 {
		p.ack(s)
	}
	if s.in.Ended() && !s.ended {
		s.ended = true
		if s.state == api.Opened {
			s.state = api.Remote
		} else {
			s.state = api.Shut
		}
		p.ack(s)
	}
}

func (p *plain) writeAndFill(s *plainStream, now int) {
	if p.waiting(s.number, api.CallWrite) >= 0 && s.out.Room() > 0 {
		w, _ := p.takeWait(s.number, api.CallWrite)
		p.answer(w.ID, api.Answer{N: s.out.Write(w.Call.Body)})
	}
	p.push(s.out.Fill(now))
}

func (p *plain) push(items []api.Item) {
	for _, x := range items {
		p.turns.Push(x)
	}
}

// What comes.

func (p *plain) recv(raw string, now int) api.Errno {
	d, err := datagram.Read(raw)
	if err != api.OK {
		p.counts.Bad++
		return err
	}
	if p.stopped {
		return api.ErrClosed
	}
	p.counts.Taken++
	makes := d.Kind == api.Data || d.Kind == api.Repair || d.Kind == api.Fin
	s := p.stream(d.Stream)
	if s == nil && !makes {
		return api.OK
	}
	if s == nil {
		s = p.make(d.Stream, 1, false)
	}
	if s.state == api.Broken {
		if makes || d.Kind == api.Nack {
			p.ask(api.Datagram{Kind: api.Rst, Stream: d.Stream})
		}
		return api.OK
	}
	switch d.Kind {
	case api.Rst:
		if s.state != api.Shut {
			s.state = api.Broken
		}
		p.answerAll(d.Stream, api.ErrReset)
		p.dropEntries(d.Stream)
		p.unsay(d.Stream)
	case api.Ack:
		s.out.Ack(d.Block, d.Credit)
	case api.Nack:
		items := s.out.Nack(d.Block, d.Have)
		p.counts.Resent += len(items)
		p.push(items)
	case api.Fin:
		if s.in.Fin(d.Block) == api.OK || s.in.Ended() {
			p.ack(s)
		}
	default:
		switch s.in.Saw(d.Block) {
		case 0:
			p.counts.Old++
			p.ack(s)
		case 1:
			p.counts.Beyond++
		case 2:
			p.counts.Twice++
		case 3:
			p.shard(d)
		}
	}
	p.settle(s, now)
	return api.OK
}

// entry is the place of the block's entry, or -1.
func (p *plain) entry(key api.Key) int {
	return slices.IndexFunc(p.entries, func(e plainEntry) bool { return e.key == key })
}

func (p *plain) dropEntries(stream int) {
	p.entries = slices.DeleteFunc(p.entries, func(e plainEntry) bool { return e.key.Stream == stream })
}

// shard is a shard of a block that is wanted.
func (p *plain) shard(d api.Datagram) {
	key := api.Key{Stream: d.Stream, Block: d.Block}
	i := p.entry(key)
	if d.Len > p.c.K*p.c.Size || i >= 0 && (p.entries[i].n != d.N || p.entries[i].size != d.Len) {
		p.counts.Bad++
		return
	}
	if i < 0 {
		if len(p.entries) == p.c.Table {
			p.counts.Full++
			return
		}
		i = len(p.entries)
		p.entries = append(p.entries, plainEntry{key: key, k: d.K, n: d.N, size: d.Len})
	} else if len(p.entries[i].shards) == p.entries[i].k {
		p.counts.Twice++
		return
	}
	e := &p.entries[i]
	// Shards of the same K and Len are of the same length.
	if e.k != d.K {
		p.counts.Bad++
		return
	}
	for _, x := range e.shards {
		if x.Index == d.Index {
			if x.Body == d.Body {
				p.counts.Twice++
			} else {
				p.counts.Bad++
			}
			return
		}
	}
	e.shards = append(e.shards, api.Shard{Index: d.Index, Body: d.Body})
	slices.SortFunc(e.shards, func(a, b api.Shard) int { return cmp.Compare(a.Index, b.Index) })
	if len(e.shards) == e.k {
		p.jobs = append(p.jobs, api.Job{Key: key, K: e.k, N: e.n, Len: e.size, Shards: slices.Clone(e.shards)})
	}
}

// What is done and sent.

func (p *plain) work(now int) bool {
	if len(p.jobs) == 0 {
		return false
	}
	job := p.jobs[0]
	p.jobs = p.jobs[1:]
	if i := p.entry(job.Key); i >= 0 {
		p.entries = slices.Delete(p.entries, i, i+1)
	}
	result := decode.Do(job)
	if result.Err != api.OK {
		p.counts.Bad++
		return true
	}
	s := p.stream(job.Key.Stream)
	s.in.Put(job.Key.Block, result.Body)
	p.counts.Decoded++
	p.ack(s)
	p.settle(s, now)
	return true
}

func (p *plain) send() (string, bool) {
	if len(p.say) > 0 {
		raw, _ := datagram.Put(p.say[0])
		p.say = p.say[1:]
		p.counts.Sent++
		return raw, true
	}
	for {
		x, some := p.turns.Next()
		if !some {
			return "", false
		}
		if d, is := p.stream(x.ID).out.Pop(); is {
			raw, _ := datagram.Put(d)
			p.counts.Sent++
			return raw, true
		}
	}
}

func (p *plain) timer(now int) int {
	many := 0
	for _, s := range p.streams {
		// In floats a time far below 0 does not go round; near the Timeout they are exact.
		if s.state == api.Broken || float64(now)-float64(s.lastTimer) < float64(p.c.Timeout) {
			continue
		}
		many++
		s.lastTimer = now
		items := s.out.Tick(now)
		p.counts.Resent += len(items)
		p.push(items)
		if block, is := s.out.Fin(); is {
			p.ask(api.Datagram{Kind: api.Fin, Stream: s.number, Block: block})
		}
		next, _ := s.in.Ack()
		p.say = slices.DeleteFunc(p.say, func(d api.Datagram) bool {
			return d.Kind == api.Nack && d.Stream == s.number && less(d.Block, next)
		})
		for _, block := range s.in.Lacks() {
			p.ask(api.Datagram{Kind: api.Nack, Stream: s.number, Block: block, Have: p.marks(api.Key{Stream: s.number, Block: block})})
		}
	}
	return many
}

// marks are 32 bytes that mark which shards of the block are there.
func (p *plain) marks(key api.Key) string {
	have := make([]byte, 32)
	if i := p.entry(key); i >= 0 {
		for _, x := range p.entries[i].shards {
			have[x.Index/8] += 1 << (x.Index % 8)
		}
	}
	return string(have)
}

// What is asked.

func (p *plain) state(number int) int {
	if s := p.stream(number); s != nil {
		return s.state
	}
	return api.Idle
}

func (p *plain) pending() []api.Wait {
	l := slices.Clone(p.waits)
	slices.SortFunc(l, func(a, b api.Wait) int {
		return (a.Call.Stream-b.Call.Stream)*10 + a.Call.Kind - b.Call.Kind
	})
	return l
}

func (p *plain) load() [6]int {
	l := [6]int{0: len(p.entries), 1: len(p.jobs), 4: len(p.say), 5: len(p.streams)}
	for _, s := range p.streams {
		l[2] = max(l[2], s.out.Held())
		l[3] = max(l[3], s.in.Held())
	}
	return l
}

// block is how many bytes a block has at most.
func (p *plain) block() int { return config.Block(p.c) }
