package control_test

import (
	"math"
	"strconv"
	"strings"
	"testing"

	"lightship/api"
	"lightship/control"
	"lightship/datagram"
)

// around is how many numbers of blocks there are.
const around = 1 << 32

// plain is what is to be said by the chapter's words, a list that is gone through from its head for each call; the others are held against it.
type plain struct {
	list []api.Datagram
}

// behind is how many numbers there are from a on till b comes: 0 to around - 1.
func behind(a, b uint32) int64 { return (int64(b) - int64(a) + around) % around }

// less: whether b is ahead of a, by less than half of all numbers.
func less(a, b uint32) bool { return behind(a, b) > 0 && behind(a, b) < around/2 }

func (p *plain) ask(d api.Datagram) api.Errno {
	if err := datagram.Check(d); err != api.OK {
		return err
	}
	if d.Kind == api.Data || d.Kind == api.Repair {
		return api.ErrArg
	}
	for i, x := range p.list {
		if x.Kind != d.Kind || x.Stream != d.Stream {
			continue
		}
		if d.Kind == api.Nack && x.Block != d.Block {
			continue
		}
		p.list[i] = d
		return api.OK
	}
	p.list = append(p.list, d)
	return api.OK
}

func (p *plain) next() (api.Datagram, bool) {
	if len(p.list) == 0 {
		return api.Datagram{}, false
	}
	first := p.list[0]
	p.list = p.list[1:]
	return first, true
}

func (p *plain) drop(stream int) int {
	var stay []api.Datagram
	for _, x := range p.list {
		if x.Stream != stream || x.Kind == api.Rst {
			stay = append(stay, x)
		}
	}
	gone := len(p.list) - len(stay)
	p.list = stay
	return gone
}

func (p *plain) clean(stream int, base uint32) int {
	var stay []api.Datagram
	for _, x := range p.list {
		if x.Kind != api.Nack || x.Stream != stream || !less(x.Block, base) {
			stay = append(stay, x)
		}
	}
	gone := len(p.list) - len(stay)
	p.list = stay
	return gone
}

// call is one that was made: of Ask with a datagram, of Drop with a stream, of Clean with a stream and a base, or of Next.
type call struct {
	name   string
	d      api.Datagram
	stream int
	base   uint32
}

func (c call) told() string {
	switch c.name {
	case "Ask":
		return "Ask(" + told(c.d) + ")"
	case "Drop":
		return "Drop(" + strconv.Itoa(c.stream) + ")"
	case "Clean":
		return "Clean(" + strconv.Itoa(c.stream) + ", " + number(c.base) + ")"
	}
	return c.name
}

// both are what is to be said and the plain one that it is held against, to which the same is done; and what was done so far.
type both struct {
	t     *testing.T
	got   *control.Control
	want  plain
	calls []call
}

func newControl(t *testing.T) *control.Control {
	t.Helper()
	c := control.New()
	if c == nil {
		t.Fatal("New: nil")
	}
	return c
}

func newBoth(t *testing.T, l ...api.Datagram) *both {
	t.Helper()
	b := &both{t: t, got: newControl(t)}
	for _, d := range l {
		if err := b.ask(d); err != api.OK {
			t.Fatalf("%s: %d, want OK", b.told(), err)
		}
	}
	return b
}

// told is what was done so far, the last calls alone if there were many.
func (b *both) told() string {
	var l []string
	for _, c := range b.calls[max(0, len(b.calls)-30):] {
		l = append(l, c.told())
	}
	return strings.Join(l, ", ")
}

// did notes a call; the first ones of many are forgotten.
func (b *both) did(c call) {
	if len(b.calls) > 200 {
		b.calls = append(b.calls[:0], b.calls[160:]...)
	}
	b.calls = append(b.calls, c)
}

// Helper is asked only where a call fails, here and below: it takes more time than the call.
func (b *both) ask(d api.Datagram) api.Errno {
	b.did(call{name: "Ask", d: d})
	got, want := b.got.Ask(d), b.want.ask(d)
	if got != want {
		b.t.Helper()
		b.t.Fatalf("%s: %d, want %d", b.told(), got, want)
	}
	b.count()
	return got
}

func (b *both) next() (api.Datagram, bool) {
	b.did(call{name: "Next"})
	got, is := b.got.Next()
	want, has := b.want.next()
	if got != want || is != has {
		b.t.Helper()
		b.t.Fatalf("%s: %s, %t, want %s, %t", b.told(), told(got), is, told(want), has)
	}
	b.count()
	return got, is
}

func (b *both) drop(stream int) int {
	b.did(call{name: "Drop", stream: stream})
	got, want := b.got.Drop(stream), b.want.drop(stream)
	if got != want {
		b.t.Helper()
		b.t.Fatalf("%s: %d, want %d", b.told(), got, want)
	}
	b.count()
	return got
}

func (b *both) clean(stream int, base uint32) int {
	b.did(call{name: "Clean", stream: stream, base: base})
	got, want := b.got.Clean(stream, base), b.want.clean(stream, base)
	if got != want {
		b.t.Helper()
		b.t.Fatalf("%s: %d, want %d", b.told(), got, want)
	}
	b.count()
	return got
}

// count asks how many there are.
func (b *both) count() {
	if got, want := b.got.Len(), len(b.want.list); got != want {
		b.t.Helper()
		b.t.Fatalf("%s; Len: %d, want %d", b.told(), got, want)
	}
}

// drain has all come out, and asks some times more.
func (b *both) drain() {
	b.t.Helper()
	for range len(b.want.list) + 3 {
		b.next()
	}
}

// turn has each come out, and asks for it anew as soon as it is gone: then it is the last one, and all are there as before.
func (b *both) turn() {
	b.t.Helper()
	for range len(b.want.list) {
		d, _ := b.next()
		b.ask(d)
	}
}

// end has all come out, once as they are, and once more behind a newer one for each that was there: so it is seen that none is taken for one that is there, if it is gone.
func (b *both) end() {
	b.t.Helper()
	b.turn()
	l := b.want.list
	b.drain()
	for _, d := range l {
		b.ask(newer(d))
	}
	b.drain()
}

// stays ends the test, unless all that is there is as it was.
func (b *both) stays(l []api.Datagram, what string) {
	b.t.Helper()
	if len(b.want.list) != len(l) {
		b.t.Fatalf("%s: %d are there, and it is %s", b.told(), len(b.want.list), what)
	}
	for i, d := range l {
		if b.want.list[i] != d {
			b.t.Fatalf("%s: at place %d is %s, and it is %s", b.told(), i, told(b.want.list[i]), what)
		}
	}
}

// number is a block's number as a text.
func number(x uint32) string { return strconv.FormatUint(uint64(x), 10) }

// told is a datagram as a text: its kind, stream and block, and what else is not zero.
func told(d api.Datagram) string {
	s := "kind " + strconv.Itoa(d.Kind) + " " + strconv.Itoa(d.Stream) + "/" + number(d.Block)
	for _, x := range []struct {
		name string
		n    int
	}{{"Index", d.Index}, {"K", d.K}, {"N", d.N}, {"Len", d.Len}, {"Credit", d.Credit}} {
		if x.n != 0 {
			s += " " + x.name + " " + strconv.Itoa(x.n)
		}
	}
	if d.Have != "" {
		s += " Have " + strconv.Quote(d.Have)
	}
	if d.Body != "" {
		s += " Body of " + strconv.Itoa(len(d.Body))
	}
	return s
}

// have are 32 bytes, as no other n below 2^16 has them.
func have(n int) string {
	return string([]byte{byte(n), byte(n >> 8)}) + strings.Repeat("\x00", 29) + "\x80"
}

func nack(stream int, block uint32, n int) api.Datagram {
	return api.Datagram{Kind: api.Nack, Stream: stream, Block: block, Have: have(n)}
}

func ack(stream int, block uint32, credit int) api.Datagram {
	return api.Datagram{Kind: api.Ack, Stream: stream, Block: block, Credit: credit}
}

func fin(stream int, block uint32) api.Datagram {
	return api.Datagram{Kind: api.Fin, Stream: stream, Block: block}
}

func rst(stream int, block uint32) api.Datagram {
	return api.Datagram{Kind: api.Rst, Stream: stream, Block: block}
}

func data(stream int, block uint32) api.Datagram {
	return api.Datagram{Kind: api.Data, Stream: stream, Block: block, Index: 1, K: 2, N: 4, Len: 5, Body: "abc"}
}

func repair(stream int, block uint32) api.Datagram {
	return api.Datagram{Kind: api.Repair, Stream: stream, Block: block, Index: 3, K: 2, N: 4, Len: 5, Body: "abc"}
}

// sayable is one of that kind that may be asked for; the n is seen in all fields that it has.
func sayable(kind, stream int, block uint32, n int) api.Datagram {
	switch kind {
	case api.Nack:
		return nack(stream, block, n)
	case api.Ack:
		return ack(stream, block, n)
	}
	return api.Datagram{Kind: kind, Stream: stream, Block: block}
}

// newer is another one that takes d's place: all of its fields that may be are others.
func newer(d api.Datagram) api.Datagram {
	switch d.Kind {
	case api.Nack:
		d.Have = string([]byte{d.Have[0] ^ 255}) + d.Have[1:31] + "\x01"
		return d
	case api.Ack:
		d.Credit = 65535 - d.Credit
	}
	d.Block = ^d.Block
	return d
}

// kinds are those that may be asked for.
func kinds() []int { return []int{api.Nack, api.Ack, api.Fin, api.Rst} }

// streams are some that there may be.
func streams() []int { return []int{0, 1, 2, 127, 128, 254, 255} }

// noStreams are some that are none.
func noStreams() []int {
	return append(farInts(), -2, -1, 256, 257, 511, 512, 65535)
}

// blocks are numbers at the edges.
func blocks() []uint32 {
	return []uint32{0, 1, 2, 5, 255, 256, 65535, 65536, 1 << 24, 1 << 30, 1<<31 - 2, 1<<31 - 1, 1 << 31, 1<<31 + 1, 1<<31 + 2, 3 << 30, math.MaxUint32 - 2, math.MaxUint32 - 1, math.MaxUint32}
}

// farInts are the greatest and the least ints, and those whose last 8, 16, 31, 32, 33 or 62 bits are small.
func farInts() []int {
	l := []int{math.MaxInt, math.MaxInt - 1, math.MinInt, math.MinInt + 1}
	for _, bits := range []int{8, 16, 31, 32, 33, 62} {
		for low := -2; low <= 6; low++ {
			if n := 1<<bits + low; n > 256 {
				l = append(l, n)
			}
			l = append(l, -1<<bits+low)
		}
	}
	return l
}

// several are some of all kinds that may be asked for, of several streams, by turns; no two are of one place.
func several() []api.Datagram {
	return []api.Datagram{
		nack(1, 5, 1), ack(1, 9, 2), nack(2, 5, 3), fin(2, 7), rst(1, 0), nack(1, 6, 4), ack(0, 1, 5), rst(255, 3),
		nack(255, math.MaxUint32, 6), fin(1, 8), nack(1, 4, 7), ack(255, 2, 8), nack(0, 0, 9), rst(2, 1), ack(2, 4, 0), fin(0, 0),
	}
}

// states are lists of what may be there: none, one of each kind, and several.
func states() [][]api.Datagram {
	l := [][]api.Datagram{nil, several()}
	for _, d := range []api.Datagram{nack(3, 7, 1), ack(3, 7, 1), fin(3, 7), rst(3, 7)} {
		l = append(l, []api.Datagram{d})
	}
	return append(l, []api.Datagram{rst(3, 7), nack(3, 8, 1), fin(3, 7), nack(3, 7, 1), ack(3, 7, 1)})
}

// dice are numbers in no order, another row for each seed.
type dice uint64

// below is a number from 0 to n - 1.
func (d *dice) below(n int) int {
	*d = *d*6364136223846793005 + 1442695040888963407
	return int(uint64(*d)>>33) % n
}
