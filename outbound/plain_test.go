package outbound_test

import (
	"math"
	"slices"
	"strconv"
	"strings"
	"testing"

	"lightship/api"
	"lightship/datagram"
	"lightship/decode"
	"lightship/outbound"
)

// lastTime is the last time that there may be, and around how many numbers there are.
const (
	lastTime = 1 << 40
	around   = 1 << 32
)

// plainBlock is a block that flies: its number, its bytes, its shards, how many of them are data, and when it was sent, or was due, last.
type plainBlock struct {
	number uint32
	body   string
	shards []string
	data   int
	at     int
}

// plain is what a stream sends by the chapter's words, against which the others are held.
type plain struct {
	c        api.Config
	stream   int
	text     string
	next     uint32
	edge     uint32
	blocks   []plainBlock
	waits    []api.Send
	closed   bool
	finished bool
}

func newPlain(c api.Config, stream int) plain {
	return plain{c: c, stream: stream, edge: uint32(c.Window)}
}

// above: whether b is ahead of a, by less than half of all numbers.
func above(a, b uint32) bool {
	far := (int64(b) - int64(a) + around) % around
	return far > 0 && far < around/2
}

// plus is the number that is n behind a.
func plus(a uint32, n int) uint32 { return uint32((int64(a) + int64(n)) % around) }

func (p *plain) write(s string) int {
	wrote := len(s)
	for wrote > p.room() {
		wrote = p.room()
	}
	p.text += s[:wrote]
	return wrote
}

func (p *plain) close() api.Errno {
	if p.closed {
		return api.ErrClosed
	}
	p.closed = true
	return api.OK
}

func (p *plain) room() int {
	if p.closed {
		return 0
	}
	return p.c.Buffer - len(p.text)
}

func (p *plain) held() int {
	all := p.text
	for _, b := range p.blocks {
		all += b.body
	}
	return len(all)
}

func (p *plain) fin() (uint32, bool) {
	return p.next, p.closed && p.text == "" && !p.finished
}

// size is how many bytes the next block has; 0, if there is none.
func (p *plain) size() int {
	whole := p.c.K * p.c.Size
	if len(p.text) >= whole {
		return whole
	}
	if p.closed || len(p.blocks) == 0 {
		return len(p.text)
	}
	return 0
}

func (p *plain) fill(now int) []api.Item {
	if now < 0 || now > lastTime {
		return nil
	}
	var items []api.Item
	for len(p.blocks) < p.c.Window && above(p.next, p.edge) && p.size() > 0 {
		b := plainBlock{number: p.next, body: p.text[:p.size()], at: now}
		p.text = p.text[len(b.body):]
		b.shards, b.data, _ = decode.Shards(b.body, p.c.K, p.c.Repair)
		p.blocks = append(p.blocks, b)
		p.next = plus(p.next, 1)
		for i := range b.shards {
			p.waits = append(p.waits, api.Send{Block: b.number, Index: i})
			items = append(items, p.item(b, i))
		}
	}
	return items
}

// item is that of a shard. Its datagram has 17 bytes beside the shard's: LS, Kind, Stream, 4 of Block, Index, K, N, 2 of Len, and 4 of the sum.
func (p *plain) item(b plainBlock, i int) api.Item {
	return api.Item{ID: p.stream, Size: 17 + len(b.shards[i])}
}

// at is the block with that number, if it flies.
func (p *plain) at(number uint32) (plainBlock, bool) {
	for _, b := range p.blocks {
		if b.number == number {
			return b, true
		}
	}
	return plainBlock{}, false
}

func (p *plain) pop() (api.Datagram, bool) {
	if len(p.waits) == 0 {
		return api.Datagram{}, false
	}
	s := p.waits[0]
	p.waits = p.waits[1:]
	b, flies := p.at(s.Block)
	if !flies {
		return api.Datagram{}, false
	}
	d := api.Datagram{Kind: 1, Stream: p.stream, Block: s.Block, Index: s.Index, K: b.data, N: len(b.shards), Len: len(b.body), Body: b.shards[s.Index]}
	if s.Index >= b.data {
		d.Kind = 2
	}
	return d, true
}

func (p *plain) ack(next uint32, credit int) int {
	number, is := p.fin()
	came := 0
	switch {
	case is && next == plus(number, 1):
		p.finished = true
		came = len(p.blocks)
		p.blocks = nil
	case above(number, next):
		return 0
	default:
		var stay []plainBlock
		for _, b := range p.blocks {
			if !above(b.number, next) {
				stay = append(stay, b)
			}
		}
		came = len(p.blocks) - len(stay)
		p.blocks = stay
	}
	if 0 <= credit && credit <= 65535 && above(p.edge, plus(next, credit)) {
		p.edge = plus(next, credit)
	}
	return came
}

// await has that shard wait, unless it does: its item.
func (p *plain) await(b plainBlock, i int) []api.Item {
	s := api.Send{Block: b.number, Index: i}
	if slices.Contains(p.waits, s) {
		return nil
	}
	p.waits = append(p.waits, s)
	return []api.Item{p.item(b, i)}
}

func (p *plain) nack(number uint32, have string) []api.Item {
	b, flies := p.at(number)
	if !flies || len(have) != 32 {
		return nil
	}
	need := b.data
	var lacks []int
	for i := range 256 {
		if have[i/8]>>(i%8)&1 == 1 {
			need--
		} else if i < len(b.shards) {
			lacks = append(lacks, i)
		}
	}
	var items []api.Item
	for _, i := range lacks {
		if need > 0 {
			items = append(items, p.await(b, i)...)
			need--
		}
	}
	return items
}

func (p *plain) tick(now int) []api.Item {
	if now < 0 || now > lastTime {
		return nil
	}
	var items []api.Item
	for i, b := range p.blocks {
		if now-b.at < p.c.Timeout {
			continue
		}
		p.blocks[i].at = now
		for shard := range b.data {
			items = append(items, p.await(b, shard)...)
		}
	}
	return items
}

// both are what a stream sends and the plain one that it is held against, to which the same is done; what was done so far; and how many bytes the datagrams have that wait.
type both struct {
	t     *testing.T
	got   *outbound.Out
	want  plain
	calls []string
	sizes []int
}

func newOut(t *testing.T, c api.Config, stream int) *outbound.Out {
	t.Helper()
	o, err := outbound.New(c, stream)
	if o == nil || err != api.OK {
		t.Fatalf("New of %v, %d: %v, %d, want one, OK", c, stream, o, err)
	}
	return o
}

func newBoth(t *testing.T, c api.Config, stream int) *both {
	t.Helper()
	b := &both{t: t, got: newOut(t, c, stream), want: newPlain(c, stream)}
	b.state()
	return b
}

// told is what was done so far, the last calls alone if there were many.
func (b *both) told() string {
	c := b.want.c
	return "K " + strconv.Itoa(c.K) + ", Repair " + strconv.Itoa(c.Repair) + ", Size " + strconv.Itoa(c.Size) + ", Window " + strconv.Itoa(c.Window) +
		", Buffer " + strconv.Itoa(c.Buffer) + ", Timeout " + strconv.Itoa(c.Timeout) + ", stream " + strconv.Itoa(b.want.stream) + ": " + strings.Join(b.calls[max(0, len(b.calls)-40):], ", ")
}

// did notes a call; the first ones of many are forgotten.
func (b *both) did(call string) {
	if len(b.calls) > 200 {
		b.calls = append(b.calls[:0], b.calls[150:]...)
	}
	b.calls = append(b.calls, call)
}

// short is a text as it is told: its beginning, and how many bytes it has.
func short(s string) string {
	return strconv.Quote(s[:min(len(s), 32)]) + " (" + strconv.Itoa(len(s)) + " bytes)"
}

// number is a block's number as a text.
func number(x uint32) string { return strconv.FormatUint(uint64(x), 10) }

// Helper is asked only where a call fails, here and below: it takes more time than the call.
func (b *both) write(s string) int {
	b.did("Write(" + short(s) + ")")
	got, want := b.got.Write(s), b.want.write(s)
	if got != want {
		b.t.Helper()
		b.t.Fatalf("%s: %d, want %d", b.told(), got, want)
	}
	b.state()
	return got
}

func (b *both) close() api.Errno {
	b.did("Close")
	got, want := b.got.Close(), b.want.close()
	if got != want {
		b.t.Helper()
		b.t.Fatalf("%s: %d, want %d", b.told(), got, want)
	}
	b.state()
	return got
}

func (b *both) fill(now int) []api.Item {
	b.did("Fill(" + strconv.Itoa(now) + ")")
	return b.items(b.got.Fill(now), b.want.fill(now))
}

func (b *both) nack(block uint32, have string) []api.Item {
	b.did("Nack(" + number(block) + ", " + strconv.Quote(have) + ")")
	before := strings.Clone(have)
	got, want := b.got.Nack(block, have), b.want.nack(block, have)
	if have != before {
		b.t.Fatalf("%s: changed its marks", b.told())
	}
	return b.items(got, want)
}

func (b *both) tick(now int) []api.Item {
	b.did("Tick(" + strconv.Itoa(now) + ")")
	return b.items(b.got.Tick(now), b.want.tick(now))
}

// items holds what was told against what should be.
func (b *both) items(got, want []api.Item) []api.Item {
	if !slices.Equal(got, want) {
		b.t.Helper()
		b.t.Fatalf("%s: %d items %v, want %d, %v", b.told(), len(got), got, len(want), want)
	}
	for _, x := range got {
		b.sizes = append(b.sizes, x.Size)
	}
	b.state()
	return got
}

func (b *both) pop() (api.Datagram, bool) {
	b.did("Pop")
	got, is := b.got.Pop()
	want, has := b.want.pop()
	if got != want || is != has {
		b.t.Helper()
		b.t.Fatalf("%s: %s, %t, want %s, %t", b.told(), datagramTold(got), is, datagramTold(want), has)
	}
	if is {
		b.bytes(got)
	}
	b.sizes = b.sizes[min(1, len(b.sizes)):]
	b.state()
	return got, is
}

// bytes holds the datagram's bytes against how many its item has.
func (b *both) bytes(d api.Datagram) {
	s, err := datagram.Put(d)
	if err != api.OK || len(b.sizes) == 0 || len(s) != b.sizes[0] {
		b.t.Helper()
		b.t.Fatalf("%s: %s has %d bytes, %d, and there are items of %v", b.told(), datagramTold(d), len(s), err, b.sizes)
	}
}

func (b *both) ack(next uint32, credit int) int {
	b.did("Ack(" + number(next) + ", " + strconv.Itoa(credit) + ")")
	got, want := b.got.Ack(next, credit), b.want.ack(next, credit)
	if got != want {
		b.t.Helper()
		b.t.Fatalf("%s: %d, want %d", b.told(), got, want)
	}
	b.state()
	return got
}

// state asks all that changes nothing.
func (b *both) state() {
	next, is := b.got.Fin()
	number, has := b.want.fin()
	if next != number || is != has {
		b.t.Helper()
		b.t.Fatalf("%s; Fin: %d, %t, want %d, %t", b.told(), next, is, number, has)
	}
	if got, want := b.got.Finished(), b.want.finished; got != want {
		b.t.Helper()
		b.t.Fatalf("%s; Finished: %t, want %t", b.told(), got, want)
	}
	if got, want := b.got.Room(), b.want.room(); got != want {
		b.t.Helper()
		b.t.Fatalf("%s; Room: %d, want %d", b.told(), got, want)
	}
	if got, want := b.got.Held(), b.want.held(); got != want {
		b.t.Helper()
		b.t.Fatalf("%s; Held: %d, want %d", b.told(), got, want)
	}
}

// drain has all that wait come out, and asks some times more.
func (b *both) drain() {
	for range len(b.want.waits) + 2 {
		b.pop()
	}
}

// end sees what is held: all that waits, when each block is due, each one's shards, and how far the edge lets.
func (b *both) end() {
	b.t.Helper()
	b.drain()
	for _, x := range b.want.blocks {
		b.nack(x.number, marks())
		b.nack(x.number, marksTo(0, x.data-1))
	}
	b.drain()
	b.dues()
	b.rest()
	b.state()
}

// dues ticks just ahead of when each block is due, and just then.
func (b *both) dues() {
	var times []int
	for _, x := range b.want.blocks {
		due := x.at + b.want.c.Timeout
		times = append(times, max(0, due-1), min(due, lastTime))
	}
	slices.Sort(times)
	for _, now := range slices.Compact(times) {
		b.tick(now)
	}
	b.drain()
}

// rest has so many blocks more fly as the edge lets, 200 at most, and all of them come.
func (b *both) rest() {
	for range 200 {
		b.write(strings.Repeat("r", b.want.c.K*b.want.c.Size))
		b.fill(7)
		b.drain()
		if b.ack(b.want.next, -1) == 0 {
			break
		}
	}
}

// datagramTold is a datagram as a text.
func datagramTold(d api.Datagram) string {
	s := "kind " + strconv.Itoa(d.Kind) + " " + strconv.Itoa(d.Stream) + "/" + number(d.Block)
	for _, x := range []struct {
		name string
		n    int
	}{{"Index", d.Index}, {"K", d.K}, {"N", d.N}, {"Len", d.Len}, {"Credit", d.Credit}} {
		s += " " + x.name + " " + strconv.Itoa(x.n)
	}
	return s + " Have " + strconv.Quote(d.Have) + " Body " + short(d.Body)
}

// plainMade are the settings of chapter 26's Plain, written out.
func plainMade() api.Config {
	return api.Config{K: 4, Repair: 2, Size: 16, Window: 4, Buffer: 256, Queue: 256, Quantum: 64, Table: 4096, Work: 16, Workers: 2, Timeout: 8}
}

// made are settings that may be.
func made(k, repair, size, window, buffer, timeout int) api.Config {
	return api.Config{K: k, Repair: repair, Size: size, Window: window, Buffer: buffer, Queue: k * size, Quantum: 1, Table: 1, Work: 1, Workers: 1, Timeout: timeout}
}

// small are several small settings.
func small() []api.Config {
	return []api.Config{
		made(1, 0, 1, 1, 1, 1),
		made(1, 0, 1, 3, 5, 2),
		made(1, 2, 2, 2, 7, 3),
		made(2, 1, 1, 2, 5, 1),
		made(2, 0, 3, 1, 20, 4),
		made(3, 1, 2, 4, 18, 2),
		made(2, 253, 1, 2, 8, 2),
		plainMade(),
	}
}

// marks are those of these places.
func marks(places ...int) string {
	made := make([]byte, 32)
	for _, i := range places {
		made[i/8] |= 1 << (i % 8)
	}
	return string(made)
}

// marksTo are the marks of the places from first to last - 1.
func marksTo(first, last int) string {
	var l []int
	for i := first; i < last; i++ {
		l = append(l, i)
	}
	return marks(l...)
}

// farInts are the greatest and the least ints, and those whose last 8, 16, 20, 32 or 40 bits are small.
func farInts() []int {
	l := []int{math.MaxInt, math.MaxInt - 1, math.MinInt, math.MinInt + 1}
	for _, low := range []int{-1, 0, 1, 2, 64} {
		for _, base := range []int{-1 << 62, -1 << 41, -1 << 32, -1 << 31, -1 << 16, -256, 1 << 41, 1 << 42, 1 << 48, 1 << 62} {
			l = append(l, base+low)
		}
	}
	return l
}

// noTimes are ints that are no time.
func noTimes() []int {
	return append(slices.DeleteFunc(farInts(), func(n int) bool { return n >= 0 && n <= lastTime }), -2, -1, lastTime+1, lastTime+2)
}

// letters are n bytes of which each piece of some is unlike the next one.
func letters(n int) string {
	made := make([]byte, n)
	for i := range made {
		made[i] = byte(1 + i%250 + i/250)
	}
	return string(made)
}

// dice are numbers in no order, another row for each seed.
type dice uint64

// below is a number from 0 to n - 1.
func (d *dice) below(n int) int {
	*d = *d*6364136223846793005 + 1442695040888963407
	return int(uint64(*d)>>33) % n
}

// text is a text of so many bytes in no order, of all values.
func (d *dice) text(size int) string {
	made := make([]byte, size)
	for i := range made {
		made[i] = byte(d.below(256))
	}
	return string(made)
}
