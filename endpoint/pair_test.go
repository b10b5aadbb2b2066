package endpoint_test

import (
	"slices"
	"strconv"
	"testing"

	"lightship/api"
)

// rule is what comes in place of a datagram that one side sent.
type rule func(from int, raw string) []string

// all: nothing is lost.
func all(_ int, raw string) []string { return []string{raw} }

// talk is a text that is written on a stream of one side, and read on the other one.
type talk struct {
	side, stream, weight int
	text                 string
	// piece is how many bytes are written at once, and part how many are read.
	piece, part int
}

// speaker is how far a talk came.
type speaker struct {
	talk
	rest string
	read string
	// write and reads are the calls that wait, or 0; closes is the close, once it began.
	write, reads, closes int
	closed, readToEnd    bool
}

// pair are two endpoints, and what lies between.
type pair struct {
	t     *testing.T
	sides [2]*both
	rule  rule
	// seen is how many of each side's answers were gone through.
	seen     [2]int
	speakers []*speaker
	// sent is all that was sent, in its order.
	sent []string
}

func newPair(t *testing.T, c api.Config, r rule) *pair {
	t.Helper()
	return &pair{t: t, sides: [2]*both{newBoth(t, c), newBoth(t, c)}, rule: r}
}

// talk has all of these be written and read, from the beginning to the end; how long it took.
func (p *pair) talk(l ...talk) int {
	p.t.Helper()
	for _, one := range l {
		p.speakers = append(p.speakers, &speaker{talk: one, rest: one.text})
		for _, side := range p.sides {
			if side.want.stream(one.stream) == nil {
				side.open(one.stream, max(1, one.weight))
			}
		}
	}
	start := p.sides[0].now
	for !p.over() {
		p.round()
		if took := p.sides[0].now - start; took > 100000 {
			p.t.Fatalf("%s: it does not come to an end", p.sides[0].told())
		}
	}
	took := p.sides[0].now - start
	p.checkTalks()
	return took
}

// over: was all read, and is all closed?
func (p *pair) over() bool {
	return !slices.ContainsFunc(p.speakers, func(s *speaker) bool { return !s.closed || !s.readToEnd })
}

// round lets both sides do all that they can, and then time goes on.
func (p *pair) round() {
	for _, side := range p.sides {
		side.timer(side.now)
	}
	for p.speak() || p.carry(0) || p.carry(1) {
	}
	for _, side := range p.sides {
		side.now++
	}
}

// carry does all that one side can do; whether that was something.
func (p *pair) carry(from int) bool {
	something := false
	for raw, some := p.sides[from].send(); some; raw, some = p.sides[from].send() {
		something = true
		p.sent = append(p.sent, raw)
		for _, comes := range p.rule(from, raw) {
			p.sides[1-from].raw(comes)
		}
	}
	for p.sides[1-from].work() {
		something = true
	}
	return something
}

// speak begins all calls that may begin; whether there was one.
func (p *pair) speak() bool {
	something := p.hear()
	for _, s := range p.speakers {
		writer, reader := p.sides[s.side], p.sides[1-s.side]
		if s.write == 0 && s.closes == 0 {
			something = true
			c := api.Call{Kind: api.CallWrite, Stream: s.stream, Body: s.rest[:min(s.piece, len(s.rest))]}
			if s.rest == "" {
				c = api.Call{Kind: api.CallClose, Stream: s.stream}
			}
			id := writer.begin(c)
			if s.rest == "" {
				s.closes = id
			} else {
				s.write = id
			}
		}
		if s.reads == 0 && !s.readToEnd {
			something = true
			s.reads = reader.begin(api.Call{Kind: api.CallRead, Stream: s.stream, N: s.part})
		}
		p.hear()
	}
	return something
}

// hear goes through what was answered; whether there was something.
func (p *pair) hear() bool {
	something := false
	for side, b := range p.sides {
		for ; p.seen[side] < len(b.done); p.seen[side]++ {
			p.heard(side, b.done[p.seen[side]])
			something = true
		}
	}
	return something
}

func (p *pair) heard(side int, d api.Done) {
	for _, s := range p.speakers {
		if s.side == side && d.ID == s.write {
			s.rest = s.rest[d.Answer.N:]
			s.write = 0
			if d.Answer.N < 1 || d.Answer.Err != api.OK {
				p.t.Fatalf("%s; a write: %s", p.sides[side].told(), doneTold(d))
			}
		}
		if s.side == side && d.ID == s.closes {
			s.closed = true
			if d.Answer != (api.Answer{}) {
				p.t.Fatalf("%s; a close: %s", p.sides[side].told(), doneTold(d))
			}
		}
		if s.side != side && d.ID == s.reads {
			s.reads = 0
			s.read += d.Answer.Body
			s.readToEnd = d.Answer.Err == api.ErrEOF
			if (d.Answer.Body == "") != s.readToEnd || len(d.Answer.Body) > s.part || d.Answer.N != 0 {
				p.t.Fatalf("%s; a read: %s", p.sides[side].told(), doneTold(d))
			}
		}
	}
}

// checkTalks: all was read as it was written, and no call waits.
func (p *pair) checkTalks() {
	p.t.Helper()
	for _, s := range p.speakers {
		if s.read != s.text {
			p.t.Errorf("%s; read of stream %d: %s, want %s", p.sides[1-s.side].told(), s.stream, short(s.read), short(s.text))
		}
		bothWays := slices.ContainsFunc(p.speakers, func(o *speaker) bool { return o.stream == s.stream && o.side != s.side })
		want := [2]int{api.Local, api.Remote}
		if bothWays {
			want = [2]int{api.Shut, api.Shut}
		}
		for i, side := range []int{s.side, 1 - s.side} {
			if state := p.sides[side].got.State(s.stream); state != want[i] {
				p.t.Errorf("%s; State of stream %d: %d, want %d", p.sides[side].told(), s.stream, state, want[i])
			}
		}
	}
	for _, side := range p.sides {
		if l := side.got.Pending(); len(l) != 0 {
			p.t.Errorf("%s; %d calls wait", side.told(), len(l))
		}
		if load := side.got.Load(); load[1] != 0 || load[2] != 0 || load[3] != 0 {
			p.t.Errorf("%s; Load %v: something is held", side.told(), load)
		}
	}
}

// lossy drops, doubles, turns and swaps datagrams, of a hundred as many as these, by dice of that seed.
func lossy(seed, drop, double, turn, swap int) rule {
	d := dice(seed)
	// Those that are held come behind the next one of the same side.
	var held [2][]string
	return func(from int, raw string) []string {
		var l []string
		switch n := d.below(100); {
		case n < drop:
			return nil
		case n < drop+double:
			l = []string{raw, raw}
		case n < drop+double+turn:
			l = []string{turned(raw, d.below(8*len(raw)))}
		case n < drop+double+turn+swap:
			held[from] = append(held[from], raw)
			return nil
		default:
			l = []string{raw}
		}
		l = append(l, held[from]...)
		held[from] = nil
		return l
	}
}

// bursts drops rows of datagrams, each some longer than the one ahead, and lets rows between them through.
func bursts(longest int) rule {
	i, size := 0, 1
	return func(_ int, raw string) []string {
		i++
		if i > 3*size {
			i, size = 1, 1+size%longest
		}
		if i <= size {
			return nil
		}
		return []string{raw}
	}
}

// turned are the bytes with one bit turned.
func turned(raw string, bit int) string {
	bytes := []byte(raw)
	bytes[bit/8] ^= 1 << (bit % 8)
	return string(bytes)
}

// bytesTold is how many bytes a talk has, as it is told.
func bytesTold(n int) string { return strconv.Itoa(n) + " bytes" }
