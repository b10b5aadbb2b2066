package endpoint_test

import (
	"math"
	"testing"

	"lightship/api"
)

// mixed does acts of all kinds by turns to an endpoint, and to the plain one.
type mixed struct {
	*both
	dice *dice
	// streams are those that most acts are about.
	streams []int
	// breaks: is a stream broken, or the endpoint stopped, now and then?
	breaks bool
	made   map[api.Key][]api.Datagram
}

func newMixed(t *testing.T, c api.Config, seed int, breaks bool, streams ...int) *mixed {
	t.Helper()
	d := dice(seed)
	return &mixed{both: newBoth(t, c), dice: &d, streams: streams, breaks: breaks, made: map[api.Key][]api.Datagram{}}
}

func (m *mixed) stream() int { return m.dice.one(m.streams...) }

// ends is how many blocks come of a stream, before its end comes.
func ends(stream int) uint32 { return uint32(2 + stream*7%23) }

// shardsOf are a block's shards; which text it has hangs on its number alone.
func (m *mixed) shardsOf(key api.Key) []api.Datagram {
	if m.made[key] == nil {
		size := 1 + (int(key.Block)*5+key.Stream)%m.want.block()
		m.made[key] = shards(m.t, key.Stream, key.Block, letters(size, int(key.Block)), m.want.c.K, m.want.c.Repair)
	}
	return m.made[key]
}

// near is a block's number from two behind the next one on that comes to two behind the window.
func (m *mixed) near(stream int) uint32 {
	next := uint32(0)
	if s := m.want.stream(stream); s != nil {
		next, _ = s.in.Ack()
	}
	if m.dice.below(3) > 0 {
		return next + uint32(m.dice.below(2))
	}
	return next + uint32(m.dice.below(m.want.c.Window+5)) - 2
}

// shard is a shard of some block near the next one; now and then it is not like the others of its block.
func (m *mixed) shard() {
	stream := m.stream()
	number := m.near(stream)
	if number >= ends(stream) && m.dice.below(4) > 0 {
		number = ends(stream) - 1
	}
	l := m.shardsOf(api.Key{Stream: stream, Block: number})
	d := l[m.dice.below(len(l))]
	switch m.dice.below(40) {
	case 0:
		d.N = min(255, d.N+1+m.dice.below(3))
	case 1:
		d.Body = string(byte(m.dice.below(256))) + d.Body[1:]
		if len(d.Body) != (d.Len+d.K-1)/d.K {
			return
		}
	case 2:
		d = block(stream, number, letters(1+m.dice.below(m.want.block()+2), 3))
		if d.Len > 1024 {
			return
		}
	case 3:
		d = shard(stream, number, 1, 2, 3, 2, "x")
	}
	m.recv(d)
}

// ack is an Ack near what is flying.
func (m *mixed) ack() {
	stream, next := m.stream(), uint32(0)
	if s := m.want.stream(stream); s != nil {
		next, _ = s.out.Fin()
	}
	next += uint32(m.dice.one(-2, -1, -1, 0, 0, 0, 0, 1, 1, 2))
	m.recv(ack(stream, next, m.dice.below(m.want.c.Window+3)))
}

func (m *mixed) nack() {
	stream, next := m.stream(), uint32(0)
	if s := m.want.stream(stream); s != nil {
		next, _ = s.out.Fin()
	}
	var came []int
	for i := range m.want.c.K + m.want.c.Repair {
		if m.dice.below(3) == 0 {
			came = append(came, i)
		}
	}
	m.recv(nack(stream, next-1-uint32(m.dice.below(3)), came...))
}

func (m *mixed) fin() {
	stream := m.stream()
	number := ends(stream)
	if m.dice.below(8) == 0 {
		number = m.near(stream)
	}
	m.recv(fin(stream, number))
}

// odd is a call that may be none, or bytes that are no datagram.
func (m *mixed) odd() {
	far := farInts()
	switch m.dice.below(4) {
	case 0:
		m.begin(api.Call{Kind: m.dice.one(-1, 0, 7, 8, far[m.dice.below(len(far))]), Stream: m.dice.one(-1, 0, 1, 256), N: 1})
	case 1:
		m.begin(api.Call{Kind: 1 + m.dice.below(5), Stream: m.dice.one(-1, 256, 300, far[m.dice.below(len(far))]), N: 1, Body: "x"})
	case 2:
		m.begin(api.Call{Kind: m.dice.one(api.CallOpen, api.CallRead), Stream: m.stream(), N: m.dice.one(-1, 0, 256, math.MaxInt, math.MinInt)})
	case 3:
		raw := []byte(bytesOf(m.t, m.shardsOf(api.Key{Stream: m.stream()})[0]))
		raw[m.dice.below(len(raw))] ^= 1 << m.dice.below(8)
		m.raw(string(raw[:len(raw)-m.dice.one(0, 0, 0, 1, 9)]))
	}
}

// breakOff breaks a stream, or stops.
func (m *mixed) breakOff() {
	switch m.dice.below(7) {
	case 0, 1, 2:
		m.abort(m.stream())
	case 3, 4, 5:
		m.recv(rst(m.stream()))
	case 6:
		m.stop()
	}
}

// time goes on, mostly; now and then it goes back, or is none that may be.
func (m *mixed) time() {
	switch m.dice.below(30) {
	case 0:
		m.now -= m.dice.below(2 * m.want.c.Timeout)
	case 1:
		was := m.now
		m.timer(m.dice.one(-1, 0, api.MaxTime, api.MaxTime+1, 1<<50, -1<<50))
		m.write(m.stream(), "odd")
		m.now = was
	default:
		m.now += m.dice.below(m.want.c.Timeout + 1)
	}
	m.timer(m.now)
}

func (m *mixed) act() {
	if m.breaks && m.dice.below(150) == 0 {
		m.breakOff()
		return
	}
	switch n := m.dice.below(100); {
	case n < 5:
		m.open(m.stream(), m.dice.one(1, 1, 2, 3, 255))
	case n < 18:
		m.write(m.stream(), letters(m.dice.below(m.want.c.Buffer+m.want.c.Buffer/2), m.dice.below(100)))
	case n < 32:
		m.read(m.stream(), 1+m.dice.below(m.want.c.Queue+3))
	case n < 33:
		m.close(m.stream())
	case n < 35:
		m.odd()
	case n < 62:
		m.shard()
	case n < 70:
		m.ack()
	case n < 74:
		m.nack()
	case n < 76:
		m.fin()
	case n < 89:
		m.send()
	case n < 97:
		m.work()
	default:
		m.time()
	}
}

// Acts of all kinds by turns: each answer, and what is told behind each.

func TestMixed(t *testing.T) {
	for _, c := range several() {
		for seed := range 60 {
			m := newMixed(t, c, seed, seed%2 == 0, [][]int{{3}, {0, 255}, {1, 2, 3}, {0, 1, 4, 9, 200, 255}}[seed%4]...)
			m.lazy = seed%5 == 0
			for range 400 {
				m.act()
			}
			m.both.end()
		}
	}
}

// The same of many streams.
func TestMixedOfManyStreams(t *testing.T) {
	var many []int
	for stream := range 256 {
		many = append(many, stream*37%256)
	}
	for i, c := range several() {
		m := newMixed(t, c, 1000+i, false, many[:[]int{40, 256}[i%2]]...)
		for _, stream := range m.streams {
			if stream%3 > 0 {
				m.open(stream, 1+stream%255)
			}
		}
		for range 2500 {
			m.act()
		}
		m.both.end()
	}
}
