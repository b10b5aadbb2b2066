package endpoint_test

import (
	"runtime"
	"slices"
	"strconv"
	"strings"
	"testing"

	"lightship/api"
	"lightship/endpoint"
)

// Two endpoints, of which each takes what the other one sends.

// sizes are how many bytes are written of settings: none, one, about a block, about all that is held, and more.
func sizes(c api.Config) []int {
	block := c.K * c.Size
	return []int{0, 1, 2, block - 1, block, block + 1, 2*block + 1, c.Window * block, c.Buffer, c.Buffer + 1, c.Buffer + c.Window*block + 3, 5*c.Buffer + 2*c.Queue + 1}
}

// Nothing is lost: all is read, in no more rounds than chapter 36 says.
func TestTalk(t *testing.T) {
	for _, c := range several() {
		for _, size := range sizes(c) {
			if size < 0 {
				continue
			}
			for _, piece := range []int{1, 3, c.K * c.Size, 2*c.Buffer + 1} {
				if size > 400*piece {
					continue
				}
				p := newPair(t, c, all)
				took := p.talk(talk{stream: 7, text: letters(size, 1), piece: piece, part: 1 + piece%7 + size/300})
				block := c.K * c.Size
				if bound := (4 + (size+block-1)/block) * (c.Timeout + 1); took > bound {
					t.Errorf("%s, %s: %d rounds, want %d at most", configTold(c), bytesTold(size), took, bound)
				}
				for _, side := range p.sides {
					if counts := side.got.Counts(); counts.Bad != 0 || counts.Beyond != 0 {
						t.Errorf("%s, %s: %+v", configTold(c), bytesTold(size), counts)
					}
				}
			}
		}
	}
}

// several talks: of several streams, both ways, of several weights and pieces.
func talks(c api.Config, seed int) []talk {
	d := dice(seed)
	var l []talk
	for _, stream := range []int{0, 3, 255, 77}[:1+d.below(4)] {
		for side := range 2 {
			if d.below(4) > 0 || side == 0 {
				size := d.below(3*c.Buffer + 4*c.K*c.Size)
				l = append(l, talk{side: side, stream: stream, weight: 1 + d.below(3), text: letters(min(size, 3000), d.below(99)), piece: 1 + size/(1+d.below(20)), part: 1 + size/(1+d.below(20))})
			}
		}
	}
	return l
}

func TestTalkOnSeveralStreams(t *testing.T) {
	for _, c := range several() {
		for seed := range 12 {
			newPair(t, c, all).talk(talks(c, seed)...)
		}
	}
}

// Datagrams are dropped, doubled, turned and swapped, by each rule alone and all together, and time goes on until they come again.
func TestTalkWhereDatagramsAreLost(t *testing.T) {
	for _, c := range several() {
		for seed := range 6 {
			for _, r := range []rule{
				lossy(seed, 30, 0, 0, 0),
				lossy(seed, 70, 0, 0, 0),
				lossy(seed, 0, 50, 0, 0),
				lossy(seed, 0, 0, 30, 0),
				lossy(seed, 0, 0, 0, 50),
				lossy(seed, 15, 15, 10, 25),
				bursts(5 + seed),
			} {
				p := newPair(t, c, r)
				p.talk(talks(c, seed)...)
				for i, side := range p.sides {
					if got := side.got.Counts(); got.Taken > 3*p.sides[1-i].got.Counts().Sent {
						t.Errorf("%+v", got)
					}
				}
			}
		}
	}
}

// The chapter's second example of the whole: one shard of each block is lost, and nothing is sent anew.
func TestTalkWhereOneShardOfEachBlockIsLost(t *testing.T) {
	for index := range 6 {
		c := plainMade()
		drop := func(_ int, raw string) []string {
			if d := read(t, raw); (d.Kind == api.Data || d.Kind == api.Repair) && d.Index == index {
				return nil
			}
			return []string{raw}
		}
		p := newPair(t, c, drop)
		p.talk(talk{stream: 1, text: letters(640, 1), piece: 640, part: 64})
		if counts := p.sides[0].got.Counts(); counts.Resent != 0 {
			t.Errorf("index %d: Resent %d, want 0", index, counts.Resent)
		}
	}
}

// The third one: all shards of a block are lost, and a Timer sends its data anew.
func TestTalkWhereABlockIsLost(t *testing.T) {
	dropped := 0
	drop := func(_ int, raw string) []string {
		if d := read(t, raw); d.Kind <= api.Repair && d.Block == 1 && dropped < 6 {
			dropped++
			return nil
		}
		return []string{raw}
	}
	p := newPair(t, plainMade(), drop)
	p.talk(talk{stream: 1, text: letters(256, 1), piece: 256, part: 256})
	if counts := p.sides[0].got.Counts(); counts.Resent < 4 {
		t.Errorf("Resent %d, want 4 at least", counts.Resent)
	}
}

// The sixth one: nobody reads, and a write waits once Buffer and Window are full.
func TestTalkWhereNobodyReads(t *testing.T) {
	c := plainMade()
	p := newPair(t, c, all)
	for _, side := range p.sides {
		side.open(1, 1)
	}
	written := 0
	for len(p.sides[0].got.Pending()) == 0 {
		p.sides[0].write(1, letters(50, 1))
		for _, d := range p.sides[0].done[p.seen[0]:] {
			written += d.Answer.N
		}
		p.seen[0] = len(p.sides[0].done)
		for range 30 {
			p.round()
		}
		if written > 5000 {
			t.Fatal("all is written")
		}
	}
	// One side holds its Buffer and a Window of blocks, the other one its Queue and a Window.
	if most := c.Buffer + c.Window*64 + c.Queue + c.Window*64; written > most || written < c.Buffer+c.Queue {
		t.Errorf("%d bytes were written, want %d to %d", written, c.Buffer+c.Queue, most)
	}
	for i, side := range p.sides {
		if load := side.got.Load(); load[2] > c.Buffer+c.Window*64 || load[3] > c.Queue+c.Window*64 || i == 1 && load[3] < c.Queue {
			t.Errorf("Load %v", load)
		}
	}
}

// The seventh one: a stream is aborted, and reads on the other side are answered ErrReset.
func TestTalkWhereAStreamIsAborted(t *testing.T) {
	p := newPair(t, plainMade(), all)
	for _, side := range p.sides {
		side.open(1, 1)
		side.open(2, 1)
		side.read(1, 5)
		side.read(2, 5)
	}
	p.sides[0].abort(1)
	p.carry(0)
	if l := p.sides[1].got.Pending(); len(l) != 1 || l[0].Call.Stream != 2 {
		t.Errorf("%v wait, want the read of stream 2", l)
	}
	p.sides[1].write(2, "ab")
	p.carry(1)
	for i, side := range p.sides {
		if state := side.got.State(1); state != api.Broken {
			t.Errorf("side %d: State %d, want Broken", i, state)
		}
		if state := side.got.State(2); state != api.Opened {
			t.Errorf("side %d: State %d, want Opened", i, state)
		}
	}
}

// While a side is lossy its load stays within what chapter 37 says there may be.
func TestTalkStaysWithin(t *testing.T) {
	for _, c := range several() {
		block := c.K * c.Size
		most := [6]int{c.Table, c.Work + 256*c.Window, c.Buffer + c.Window*block, c.Queue + c.Window*block, 256 * (c.Window + 3), 256}
		p := newPair(t, c, nil)
		lose := lossy(9, 20, 20, 10, 20)
		p.rule = func(from int, raw string) []string {
			for _, side := range p.sides {
				for place, n := range side.got.Load() {
					if n < 0 || n > most[place] {
						t.Fatalf("%s: Load %v, want %v at most", side.told(), side.got.Load(), most)
					}
				}
			}
			return lose(from, raw)
		}
		p.talk(talks(c, 3)...)
	}
}

// The same is done by the same, byte for byte, each time.
func TestTalkIsTheSameEachTime(t *testing.T) {
	for _, c := range several() {
		var first *pair
		for range 4 {
			p := newPair(t, c, lossy(5, 10, 10, 10, 10))
			p.talk(talks(c, 7)...)
			if first == nil {
				first = p
				continue
			}
			if !slices.Equal(p.sent, first.sent) || !slices.Equal(p.sides[0].done, first.sides[0].done) || !slices.Equal(p.sides[1].done, first.sides[1].done) {
				t.Fatalf("%s: what was sent or answered is not the same", configTold(c))
			}
		}
	}
}

// Rows of acts, in every order.

// acts are acts of each kind, of two streams.
func acts() []func(b *both) {
	return []func(b *both){
		func(b *both) { b.open(1, 2) },
		func(b *both) { b.write(1, "abc") },
		func(b *both) { b.read(1, 2) },
		func(b *both) { b.close(1) },
		func(b *both) { b.abort(1) },
		func(b *both) { b.stop() },
		func(b *both) { b.recv(block(1, 0, "A")) },
		func(b *both) { b.recv(shard(1, 1, 1, 1, 2, 2, "BB")) },
		func(b *both) { b.recv(fin(1, 1)) },
		func(b *both) { b.recv(ack(1, 1, 1)) },
		func(b *both) { b.recv(nack(1, 0)) },
		func(b *both) { b.recv(rst(1)) },
		func(b *both) { b.send() },
		func(b *both) { b.work() },
		func(b *both) { b.timer(b.now + 2) },
		func(b *both) { b.open(0, 1) },
		func(b *both) { b.recv(block(0, 0, "C")) },
	}
}

func TestAllRowsOfActs(t *testing.T) {
	c := api.Config{K: 1, Repair: 1, Size: 2, Window: 2, Buffer: 2, Queue: 2, Quantum: 18, Table: 2, Work: 1, Workers: 1, Timeout: 2}
	do := acts()
	row := make([]int, 4)
	for done := false; !done; {
		for _, opened := range []bool{false, true} {
			b := newBoth(t, c)
			if opened {
				b.open(1, 1)
				b.write(1, "a")
			}
			for _, i := range row {
				do[i](b)
			}
			b.end()
		}
		done = true
		for place := range row {
			row[place]++
			if row[place] < len(do) {
				done = false
				break
			}
			row[place] = 0
		}
	}
}

// Behind each state each act, and one more.
func TestActsInEachState(t *testing.T) {
	c := api.Config{K: 2, Repair: 1, Size: 1, Window: 2, Buffer: 4, Queue: 3, Quantum: 18, Table: 2, Work: 1, Workers: 1, Timeout: 2}
	states := []func(b *both){
		func(b *both) {},
		func(b *both) { b.open(1, 1) },
		func(b *both) { b.open(1, 1); b.close(1) },
		func(b *both) { b.open(1, 1); b.recv(fin(1, 0)) },
		func(b *both) { b.open(1, 1); b.recv(fin(1, 0)); b.close(1) },
		func(b *both) { b.open(1, 1); b.write(1, "abcdefgh"); b.read(1, 1); b.write(1, "ijkl"); b.write(1, "m") },
		func(b *both) { b.open(1, 1); b.write(1, "abcd"); b.close(1); b.recv(block(1, 1, "BB"), fin(1, 2)) },
		func(b *both) { b.open(1, 1); b.write(1, "ab"); b.close(1); b.recv(ack(1, 2, 2)) },
		func(b *both) { b.open(1, 1); b.recv(block(1, 0, "AA")); b.recv(block(1, 1, "BB")); b.work(); b.work() },
		func(b *both) { b.recv(block(1, 0, "AA"), block(1, 1, "BB"), block(0, 0, "x")) },
		func(b *both) { b.recv(shard(1, 0, 1, 2, 3, 2, "A"), fin(1, 2)) },
		func(b *both) { b.recv(rst(1), fin(1, 1), rst(1)) },
		func(b *both) { b.open(1, 1); b.write(1, "abcd"); b.abort(1) },
		func(b *both) { b.open(1, 1); b.write(1, "abcd"); b.stop() },
	}
	do := acts()
	for _, state := range states {
		for first := range do {
			for second := range do {
				b := newBoth(t, c)
				state(b)
				do[first](b)
				do[second](b)
				b.end()
			}
		}
	}
}

// What is handed out, and what is handed in.

// Answers that wait to be taken do not change by what is done behind them.
func TestAnswersStay(t *testing.T) {
	for seed := range 30 {
		m := newMixed(t, several()[seed%8], seed, true, 1, 2)
		m.lazy = true
		for range 200 {
			m.act()
		}
		m.lazy = false
		m.both.end()
	}
}

// Two that were made apart know nothing of each other.
func TestTwoKnowNothingOfEachOther(t *testing.T) {
	one, other := newHand(t, plainMade()), newHand(t, plainMade())
	m := newMixed(t, plainMade(), 4, true, 1, 2, 3)
	for range 300 {
		m.act()
	}
	one.refused(opening(1, 1), api.OK)
	one.answered(writing(1, "ab"), api.Answer{N: 2})
	one.begin(reading(1, 1))
	one.recv(block(2, 0, "x"))
	one.raw("", api.ErrCut)
	other.empty()
	other.counts(api.Counts{})
	other.stopped(false)
	other.begin(stopping(), fine(1))
	one.stopped(false)
	one.pending(api.Wait{ID: 3, Call: reading(1, 1)})
	one.works()
	one.sends(append([]api.Datagram{ack(2, 1, 4)}, shards(t, 1, 0, "ab", 4, 2)...)...)
}

// What is kept does not grow by what comes and goes.
func TestMemory(t *testing.T) {
	c := wide(1024, 4, 4096, 4096)
	c.K, c.Size = 4, 256
	one, other := newEnd(t, c), newEnd(t, c)
	for _, e := range []*endpoint.End{one, other} {
		e.Begin(opening(1, 1), 0)
	}
	text := strings.Repeat("0123456789abcdef", 64)
	carry := func(times int) {
		for range times {
			one.Begin(writing(1, text), 0)
			other.Begin(reading(1, 1024), 0)
			for range 2 {
				for raw, some := one.Send(0); some; raw, some = one.Send(0) {
					other.Recv(raw, 0)
				}
				for other.Work(0) {
				}
				for raw, some := other.Send(0); some; raw, some = other.Send(0) {
					one.Recv(raw, 0)
				}
			}
			for _, e := range []*endpoint.End{one, other} {
				for d, some := e.Take(); some; d, some = e.Take() {
					if d.Answer.Err != api.OK {
						t.Fatalf("%s", doneTold(d))
					}
				}
			}
		}
	}
	carry(100)
	before := heap()
	carry(3000)
	if after := heap(); after > before+1<<20 {
		t.Errorf("%d bytes more are kept behind 3 MB of text", after-before)
	}
	if counts := other.Counts(); counts.Decoded != 3100 {
		t.Errorf("%+v", counts)
	}
	runtime.KeepAlive([]*endpoint.End{one, other})
}

// heap is how many bytes are in use.
func heap() uint64 {
	var m runtime.MemStats
	runtime.GC()
	runtime.GC()
	runtime.ReadMemStats(&m)
	return m.HeapAlloc
}

// Of nil.

func TestNil(t *testing.T) {
	var e *endpoint.End
	for range 2 {
		for _, c := range []api.Call{{}, opening(1, 1), writing(1, "x"), reading(1, 1), closing(1), aborting(1), stopping()} {
			if id := e.Begin(c, 5); id != 0 {
				t.Errorf("%s: number %d, want 0", callTold(c), id)
			}
		}
		if d, some := e.Take(); d != (api.Done{}) || some {
			t.Errorf("Take: %v, %t", d, some)
		}
		for _, raw := range append(wrongRaws(t), bytesOf(t, block(1, 0, "x")), bytesOf(t, ack(1, 0, 0))) {
			if err := e.Recv(raw, 5); err != api.ErrNil {
				t.Errorf("Recv(%s): %d, want ErrNil", rawTold(raw), err)
			}
		}
		if raw, some := e.Send(5); raw != "" || some {
			t.Errorf("Send: %s, %t", rawTold(raw), some)
		}
		if e.Work(5) || e.Timer(50) != 0 || e.Stopped() {
			t.Error("Work, Timer, Stopped: want false, 0, false")
		}
		for _, stream := range append(noStreams(), 0, 1, 255) {
			if state := e.State(stream); state != api.Idle {
				t.Errorf("State(%s): %d, want Idle", strconv.Itoa(stream), state)
			}
		}
		if l := e.Pending(); len(l) != 0 {
			t.Errorf("Pending: %v", l)
		}
		if e.Counts() != (api.Counts{}) || e.Load() != [6]int{} {
			t.Errorf("Counts %+v, Load %v", e.Counts(), e.Load())
		}
	}
}
