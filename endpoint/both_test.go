package endpoint_test

import (
	"math"
	"slices"
	"strconv"
	"strings"
	"testing"

	"lightship/api"
	"lightship/datagram"
	"lightship/decode"
	"lightship/endpoint"
)

// both are an endpoint and the plain one that it is held against, to which the same is done; and what was done so far.
type both struct {
	t    *testing.T
	got  *endpoint.End
	want *plain
	now  int
	// lazy: are answers left where they are?
	lazy bool
	// answered has a place for each call that began: was it answered?
	answered []bool
	done     []api.Done
	acts     []string
}

func newEnd(t *testing.T, c api.Config) *endpoint.End {
	t.Helper()
	e, err := endpoint.New(c)
	if e == nil || err != api.OK {
		t.Fatalf("New of %v: %v, %d, want one, OK", c, e, err)
	}
	return e
}

func newBoth(t *testing.T, c api.Config) *both {
	t.Helper()
	b := &both{t: t, got: newEnd(t, c), want: newPlain(c), answered: []bool{true}}
	b.check()
	return b
}

// told is what was done so far, the last acts alone if there were many.
func (b *both) told() string {
	return configTold(b.want.c) + ": " + strings.Join(b.acts[max(0, len(b.acts)-60):], "; ")
}

// did notes an act; the first ones of many are forgotten.
func (b *both) did(act string) {
	if len(b.acts) > 300 {
		b.acts = append(b.acts[:0], b.acts[200:]...)
	}
	b.acts = append(b.acts, strconv.Itoa(b.now)+": "+act)
}

// fail tells what was asked behind which acts, what was answered, and what is wanted.
func (b *both) fail(what, got, want string) {
	b.t.Helper()
	b.t.Fatalf("%s; %s: %s, want %s", b.told(), what, got, want)
}

// Helper is asked only where something fails, here and below: it takes more time than the call.

func (b *both) begin(c api.Call) int {
	b.did(callTold(c))
	before := c
	before.Body = strings.Clone(c.Body)
	got, want := b.got.Begin(c, b.now), b.want.begin(c, b.now)
	if got != want || c != before {
		b.t.Helper()
		b.fail("number", strconv.Itoa(got), strconv.Itoa(want))
	}
	b.answered = append(b.answered, false)
	b.check()
	return got
}

func (b *both) open(stream, weight int) {
	b.begin(api.Call{Kind: api.CallOpen, Stream: stream, N: weight})
}

func (b *both) write(stream int, body string) {
	b.begin(api.Call{Kind: api.CallWrite, Stream: stream, Body: body})
}

func (b *both) read(stream, n int) {
	b.begin(api.Call{Kind: api.CallRead, Stream: stream, N: n})
}

func (b *both) close(stream int) { b.begin(api.Call{Kind: api.CallClose, Stream: stream}) }

func (b *both) abort(stream int) { b.begin(api.Call{Kind: api.CallAbort, Stream: stream}) }

func (b *both) stop() { b.begin(api.Call{Kind: api.CallStop}) }

// raw takes bytes, be they a datagram or none.
func (b *both) raw(raw string) api.Errno {
	b.did("Recv(" + rawTold(raw) + ")")
	before := strings.Clone(raw)
	got, want := b.got.Recv(raw, b.now), b.want.recv(raw, b.now)
	if got != want || raw != before {
		b.t.Helper()
		b.fail("Recv", strconv.Itoa(int(got)), strconv.Itoa(int(want)))
	}
	b.check()
	return got
}

// recv takes a datagram.
func (b *both) recv(l ...api.Datagram) {
	for _, d := range l {
		b.raw(bytesOf(b.t, d))
	}
}

func (b *both) send() (string, bool) {
	b.did("Send")
	got, some := b.got.Send(b.now)
	want, wantSome := b.want.send()
	if got != want || some != wantSome {
		b.t.Helper()
		b.fail("Send", rawTold(got)+" "+strconv.FormatBool(some), rawTold(want)+" "+strconv.FormatBool(wantSome))
	}
	b.check()
	return got, some
}

// sendAll sends until there is nothing more.
func (b *both) sendAll() []string {
	var l []string
	for raw, some := b.send(); some; raw, some = b.send() {
		l = append(l, raw)
	}
	return l
}

func (b *both) work() bool {
	b.did("Work")
	got, want := b.got.Work(b.now), b.want.work(b.now)
	if got != want {
		b.t.Helper()
		b.fail("Work", strconv.FormatBool(got), strconv.FormatBool(want))
	}
	b.check()
	return got
}

// workAll works until nothing waits.
func (b *both) workAll() {
	for b.work() {
	}
}

func (b *both) timer(now int) int {
	b.now = now
	b.did("Timer")
	got, want := b.got.Timer(b.now), b.want.timer(b.now)
	if got != want {
		b.t.Helper()
		b.fail("Timer", strconv.Itoa(got), strconv.Itoa(want))
	}
	b.check()
	return got
}

// takeAll takes the answers.
func (b *both) takeAll() {
	for {
		got, some := b.got.Take()
		want, wantSome := b.want.take()
		if got != want || some != wantSome {
			b.t.Helper()
			b.fail("Take", doneTold(got)+" "+strconv.FormatBool(some), doneTold(want)+" "+strconv.FormatBool(wantSome))
		}
		if !some {
			return
		}
		if b.answered[got.ID] {
			b.t.Helper()
			b.fail("Take", "call "+strconv.Itoa(got.ID)+" once more", "another one")
		}
		b.answered[got.ID] = true
		b.done = append(b.done, got)
	}
}

// check asks all that changes nothing, and takes the answers, if it is not lazy.
func (b *both) check() {
	if got, want := b.got.Counts(), b.want.counts; got != want {
		b.t.Helper()
		b.t.Fatalf("%s; Counts: %+v, want %+v", b.told(), got, want)
	}
	if got, want := b.got.Load(), b.want.load(); got != want {
		b.t.Helper()
		b.t.Fatalf("%s; Load: %v, want %v", b.told(), got, want)
	}
	if got, want := b.got.Stopped(), b.want.stopped; got != want {
		b.t.Helper()
		b.fail("Stopped", strconv.FormatBool(got), strconv.FormatBool(want))
	}
	for _, s := range b.want.streams {
		if got := b.got.State(s.number); got != s.state {
			b.t.Helper()
			b.fail("State of "+strconv.Itoa(s.number), strconv.Itoa(got), strconv.Itoa(s.state))
		}
	}
	pending := b.got.Pending()
	if want := b.want.pending(); !slices.Equal(pending, want) {
		b.t.Helper()
		b.t.Fatalf("%s; Pending: %v, want %v", b.told(), pending, want)
	}
	if !b.lazy {
		b.takeAll()
		b.checkCalls(pending)
	}
}

// checkCalls: each call was answered, or waits.
func (b *both) checkCalls(pending []api.Wait) {
	waits := 0
	for id := range b.answered {
		if !b.answered[id] {
			waits++
		}
	}
	for _, w := range pending {
		if b.answered[w.ID] {
			b.t.Helper()
			b.fail("call "+strconv.Itoa(w.ID), "answered, and waits", "one of both")
		}
	}
	if waits != len(pending) {
		b.t.Helper()
		b.fail("calls that were not answered", strconv.Itoa(waits), strconv.Itoa(len(pending)))
	}
}

// end sees what is kept: all states, what is still sent, done and answered, and that once more much later.
func (b *both) end() {
	b.t.Helper()
	for stream := -1; stream <= 256; stream++ {
		if got, want := b.got.State(stream), b.want.state(stream); got != want {
			b.fail("State of "+strconv.Itoa(stream), strconv.Itoa(got), strconv.Itoa(want))
		}
	}
	for range 2 {
		b.sendAll()
		b.workAll()
		b.timer(b.now + b.want.c.Timeout)
	}
	b.sendAll()
	b.lazy = false
	b.check()
}

// Datagrams.

func bytesOf(t *testing.T, d api.Datagram) string {
	raw, err := datagram.Put(d)
	if err != api.OK {
		t.Helper()
		t.Fatalf("Put of %+v: %d", d, err)
	}
	return raw
}

func ack(stream int, next uint32, credit int) api.Datagram {
	return api.Datagram{Kind: 4, Stream: stream, Block: next, Credit: credit}
}

func fin(stream int, block uint32) api.Datagram {
	return api.Datagram{Kind: 5, Stream: stream, Block: block}
}

func rst(stream int) api.Datagram { return api.Datagram{Kind: 6, Stream: stream} }

// nack marks these shards.
func nack(stream int, block uint32, came ...int) api.Datagram {
	have := make([]byte, 32)
	for _, i := range came {
		have[i/8] |= 1 << (i % 8)
	}
	return api.Datagram{Kind: 3, Stream: stream, Block: block, Have: string(have)}
}

// shard is a shard of a block, by its fields; it is data, if its index is below k.
func shard(stream int, block uint32, index, k, n, size int, body string) api.Datagram {
	kind := 1
	if index >= k {
		kind = 2
	}
	return api.Datagram{Kind: kind, Stream: stream, Block: block, Index: index, K: k, N: n, Len: size, Body: body}
}

// shards are all shards of a block of that text, of at most k that are data, and so many that are not.
func shards(t *testing.T, stream int, block uint32, text string, k, repair int) []api.Datagram {
	l, k, err := decode.Shards(text, k, repair)
	if err != api.OK {
		t.Helper()
		t.Fatalf("Shards of %d bytes, %d, %d: %d", len(text), k, repair, err)
	}
	made := make([]api.Datagram, len(l))
	for i, body := range l {
		made[i] = shard(stream, block, i, k, len(l), len(text), body)
	}
	return made
}

// block is a whole block as one shard.
func block(stream int, number uint32, text string) api.Datagram {
	return shard(stream, number, 0, 1, 1, len(text), text)
}

// Settings.

// plainMade are the settings of chapter 26's Plain, written out.
func plainMade() api.Config {
	return api.Config{K: 4, Repair: 2, Size: 16, Window: 4, Buffer: 256, Queue: 256, Quantum: 64, Table: 4096, Work: 16, Workers: 2, Timeout: 8}
}

// least are the smallest settings that there may be, of blocks of k shards of size bytes.
func least(k, size int) api.Config {
	return api.Config{K: k, Size: size, Window: 1, Buffer: k * size, Queue: k * size, Quantum: 1, Table: 1, Work: 1, Workers: 1, Timeout: 1}
}

// several are settings of several kinds, small ones and great ones.
func several() []api.Config {
	return []api.Config{
		plainMade(),
		least(1, 1),
		least(2, 3),
		{K: 2, Repair: 1, Size: 2, Window: 2, Buffer: 8, Queue: 5, Quantum: 20, Table: 2, Work: 1, Workers: 1, Timeout: 3},
		{K: 3, Repair: 0, Size: 4, Window: 3, Buffer: 30, Queue: 24, Quantum: 1, Table: 5, Work: 2, Workers: 7, Timeout: 5},
		{K: 1, Repair: 3, Size: 5, Window: 4, Buffer: 9, Queue: 40, Quantum: 100, Table: 3, Work: 1, Workers: 64, Timeout: 2},
		{K: 4, Repair: 1, Size: 1, Window: 5, Buffer: 4, Queue: 4, Quantum: 18, Table: 1, Work: 3, Workers: 3, Timeout: 10},
		{K: 5, Repair: 4, Size: 30, Window: 8, Buffer: 1000, Queue: 300, Quantum: 65536, Table: 65536, Work: 4096, Workers: 5, Timeout: 4},
	}
}

// What is told where something fails.

func configTold(c api.Config) string {
	told := "settings"
	for _, n := range []int{c.K, c.Repair, c.Size, c.Window, c.Buffer, c.Queue, c.Quantum, c.Table, c.Work, c.Workers, c.Timeout} {
		told += " " + strconv.Itoa(n)
	}
	return told
}

// short is a text as it is told: its beginning, and how many bytes it has.
func short(s string) string {
	return strconv.Quote(s[:min(len(s), 12)]) + " (" + strconv.Itoa(len(s)) + " bytes)"
}

func callTold(c api.Call) string {
	kinds := []string{"none", "Open", "Write", "Read", "Close", "Abort", "Stop"}
	name := "kind " + strconv.Itoa(c.Kind)
	if c.Kind > 0 && c.Kind < len(kinds) {
		name = kinds[c.Kind]
	}
	return name + "(" + strconv.Itoa(c.Stream) + ", " + strconv.Itoa(c.N) + ", " + short(c.Body) + ")"
}

func doneTold(d api.Done) string {
	return strconv.Itoa(d.ID) + ": " + strconv.Itoa(d.Answer.N) + ", " + short(d.Answer.Body) + ", " + strconv.Itoa(int(d.Answer.Err))
}

// rawTold are the fields of bytes that are a datagram.
func rawTold(raw string) string {
	d, err := datagram.Read(raw)
	if err != api.OK {
		return "no datagram " + short(raw)
	}
	kinds := []string{"none", "Data", "Repair", "Nack", "Ack", "Fin", "Rst"}
	told := kinds[d.Kind] + " " + strconv.Itoa(d.Stream) + "/" + strconv.FormatUint(uint64(d.Block), 10)
	switch d.Kind {
	case api.Data, api.Repair:
		told += " " + strconv.Itoa(d.Index) + " of " + strconv.Itoa(d.K) + "/" + strconv.Itoa(d.N) + " Len " + strconv.Itoa(d.Len) + " " + short(d.Body)
	case api.Nack:
		told += " " + strconv.Quote(d.Have)
	case api.Ack:
		told += " " + strconv.Itoa(d.Credit)
	}
	return told
}

// Numbers and texts.

// dice are numbers in no order, another row for each seed.
type dice uint64

// below is a number from 0 to n - 1.
func (d *dice) below(n int) int {
	*d = *d*6364136223846793005 + 1442695040888963407
	return int(uint64(*d)>>33) % n
}

// one is one of these.
func (d *dice) one(l ...int) int { return l[d.below(len(l))] }

// letters are n bytes of which each piece of some is unlike the next one, another row for each seed.
func letters(n, seed int) string {
	made := make([]byte, n)
	for i := range made {
		made[i] = byte(1 + seed*31 + i%251 + i/251)
	}
	return string(made)
}

// farInts are the greatest and the least ints, and those whose last 8, 16, 20, 32 or 40 bits are small.
func farInts() []int {
	l := []int{math.MaxInt, math.MaxInt - 1, math.MinInt, math.MinInt + 1}
	for _, low := range []int{-1, 0, 1, 2, 64} {
		for _, base := range []int{-1 << 62, -1 << 41, -1 << 32, -1 << 31, -1 << 16, -256, 1 << 41, 1 << 42, 1 << 48, 1 << 62} {
			l = append(l, base+low)
		}
	}
	return l
}
