package endpoint_test

import (
	"strings"
	"testing"

	"lightship/api"
	"lightship/crc"
	"lightship/datagram"
)

// Promise 30.4: bytes that are no datagram.

// ofEachKind is a datagram of each kind, of a stream that goes on by it.
func ofEachKind(stream int) []api.Datagram {
	return []api.Datagram{
		shard(stream, 1, 0, 2, 3, 4, "cd"),
		shard(stream, 1, 2, 2, 3, 4, "xy"),
		nack(stream, 0, 0),
		ack(stream, 1, 3),
		fin(stream, 2),
		rst(stream),
	}
}

// busy are two ends in the middle of much: streams 3, 4 and 5 write, read, close, wait and hear of one another's blocks.
func busy(t *testing.T) *both {
	t.Helper()
	b := newBoth(t, api.Config{K: 2, Repair: 1, Size: 2, Window: 3, Buffer: 8, Queue: 8, Quantum: 20, Table: 9, Work: 1, Workers: 1, Timeout: 3})
	for _, stream := range []int{3, 4, 5} {
		b.open(stream, stream-2)
		b.write(stream, letters(8, 1))
		b.write(stream, letters(8, 2))
		b.write(stream, letters(30, 3))
		b.write(stream, letters(9, 4))
		b.recv(shards(t, stream, 0, "abcd", 2, 1)[1:]...)
		b.recv(shards(t, stream, 2, "ef", 2, 1)[0])
	}
	b.read(4, 3)
	b.read(5, 7)
	b.close(5)
	b.work()
	b.send()
	b.send()
	b.timer(3)
	b.recv(rst(9), fin(8, 0), fin(7, 5))
	return b
}

// summed are bytes with their sum behind.
func summed(s string) string {
	sum := crc.Sum(s)
	return s + string([]byte{byte(sum >> 24), byte(sum >> 16), byte(sum >> 8), byte(sum)})
}

// wrongRaws are bytes that are no datagram, of each kind of fault.
func wrongRaws(t *testing.T) []string {
	t.Helper()
	l := []string{"", "L", "LS", "hello", strings.Repeat("\x00", 12), strings.Repeat("LS", 600), summed(""), summed("LS"), summed("12345678")}
	for _, d := range ofEachKind(3) {
		raw := bytesOf(t, d)
		bare := raw[:len(raw)-4]
		for size := range raw {
			l = append(l, raw[:size], summed(bare[:min(size, len(bare)-1)]))
		}
		// A byte more, of which the sum is right, and of which it is not. (A shard's Body is longer by it.)
		l = append(l, raw+"x", "x"+raw, summed(bare+"x"), summed("x"+bare))
		for _, kind := range []string{"\x00", "\x07", "\xff"} {
			l = append(l, summed("LS"+kind+bare[3:]))
		}
		l = append(l, summed("SL"+bare[2:]), summed("ls"+bare[2:]))
	}
	// Fields that may not be, in bytes whose sum is right: K 0 and 33, N below K, Index N, Len of another Body.
	head := "LS\x01\x03\x00\x00\x00\x01"
	for _, fields := range []string{"\x00\x00\x03\x00\x03", "\x00\x21\x40\x00\x03", "\x00\x03\x02\x00\x03", "\x03\x02\x03\x00\x03", "\x02\x02\x03\x00\x03", "\x00\x02\x03\x00\x00", "\x00\x02\x03\x80\x00"} {
		l = append(l, summed(head+fields+"cd"))
	}
	return append(l, summed("LS\x02"+head[3:]+"\x00\x02\x03\x00\x03cd"))
}

// Nothing but the count of what was bad changes by them, whatever comes behind.
func TestRecvOfNoDatagram(t *testing.T) {
	b := busy(t)
	bad := 0
	for _, raw := range wrongRaws(t) {
		_, want := datagram.Read(raw)
		if want == api.OK {
			t.Fatalf("%s is a datagram", rawTold(raw))
		}
		before := b.got.Counts()
		if err := b.raw(raw); err != want {
			t.Fatalf("%s: %d, want %d", short(raw), err, want)
		}
		bad++
		before.Bad++
		if b.got.Counts() != before {
			t.Fatalf("%s: Counts %+v, want %+v", short(raw), b.got.Counts(), before)
		}
	}
	if b.got.Counts().Bad != bad {
		t.Errorf("Bad %d, want %d", b.got.Counts().Bad, bad)
	}
	b.end()
	// The same without them.
	c := busy(t)
	c.end()
	if counts := b.got.Counts(); counts.Sent != c.got.Counts().Sent || b.got.Load() != c.got.Load() {
		t.Errorf("%+v, %v, want as without: %+v, %v", counts, b.got.Load(), c.got.Counts(), c.got.Load())
	}
}

// A datagram of which one bit was turned is never taken.
func TestRecvOfTurnedBits(t *testing.T) {
	for _, d := range ofEachKind(3) {
		b := busy(t)
		raw := []byte(bytesOf(t, d))
		for bit := range 8 * len(raw) {
			raw[bit/8] ^= 1 << (bit % 8)
			if err := b.raw(string(raw)); err != api.ErrSum {
				t.Fatalf("%s, bit %d: %d, want ErrSum", kindTold(d), bit, err)
			}
			raw[bit/8] ^= 1 << (bit % 8)
		}
		if counts := b.got.Counts(); counts.Bad != 8*len(raw) {
			t.Errorf("%s: Bad %d, want %d", kindTold(d), counts.Bad, 8*len(raw))
		}
		// As it was it is taken.
		b.raw(string(raw))
		b.end()
	}
}

// Of an empty endpoint nothing is made by them.
func TestRecvOfNoDatagramMakesNothing(t *testing.T) {
	h := newHand(t, plainMade())
	l := wrongRaws(t)
	for _, raw := range l {
		_, want := datagram.Read(raw)
		h.raw(raw, want)
	}
	h.counts(api.Counts{Bad: len(l)})
	h.empty()
}

// Behind a stop it is ErrClosed, and counts as nothing; but of bytes that are no datagram their error, and Bad.
func TestRecvBehindStop(t *testing.T) {
	b := busy(t)
	b.stop()
	before := b.got.Counts()
	for stream := 2; stream < 6; stream++ {
		for _, d := range append(ofEachKind(stream), block(stream, 0, "x"), fin(stream, 0)) {
			if err := b.raw(bytesOf(t, d)); err != api.ErrClosed {
				t.Fatalf("%s: %d, want ErrClosed", kindTold(d), err)
			}
		}
	}
	if b.got.Counts() != before {
		t.Errorf("Counts %+v, want %+v", b.got.Counts(), before)
	}
	l := wrongRaws(t)
	for _, raw := range l {
		if err := b.raw(raw); err == api.OK || err == api.ErrClosed {
			t.Fatalf("%s: %d", short(raw), err)
		}
	}
	before.Bad += len(l)
	if b.got.Counts() != before {
		t.Errorf("Counts %+v, want %+v", b.got.Counts(), before)
	}
	if b.got.State(2) != api.Idle {
		t.Errorf("State(2): %d, want Idle", b.got.State(2))
	}
	b.end()
}

// Promise 30.4: of a broken stream.

func TestRecvOfBroken(t *testing.T) {
	for _, own := range []bool{true, false} {
		for _, d := range append(ofEachKind(3), block(3, 0, "x"), block(3, 9, "x"), block(3, 0, letters(100, 1)), fin(3, 0), fin(3, 70), ack(3, 0, 0), nack(3, 7)) {
			h := in(t, plainMade(), own, api.Broken)
			before, load := h.e.Counts(), h.e.Load()
			says := d.Kind != api.Ack && d.Kind != api.Rst
			for many := range 3 {
				h.recv(d)
				h.state(3, api.Broken)
				before.Taken++
				h.counts(before)
				if says {
					load[4] = 1
				}
				h.load(load[:]...)
				if many == 1 && says {
					h.sends(rst(3))
					before.Sent++
					load[4] = 0
				}
			}
			h.idle()
		}
	}
}

// Promise 30.4: Rst.

func TestRstInEachState(t *testing.T) {
	for _, state := range []int{api.Opened, api.Local, api.Remote, api.Broken} {
		h := in(t, plainMade(), true, state)
		counts := h.e.Counts()
		pending := h.e.Pending()
		h.raw(bytesOf(t, rst(3)), api.OK, closesFailed(pending)...)
		h.state(3, api.Broken)
		h.pending()
		h.sends()
		counts.Taken++
		h.counts(counts)
		h.recv(rst(3))
		h.state(3, api.Broken)
		h.sends()
	}
	for _, state := range []int{api.Opened, api.Remote, api.Broken} {
		h := in(t, plainMade(), false, state)
		h.recv(rst(3))
		h.state(3, api.Broken)
		h.sends()
		if load := h.e.Load(); load[0] != 0 || load[5] != 1 {
			t.Errorf("Load %v", load)
		}
	}
}

// closesFailed are the answers ErrReset of calls that wait.
func closesFailed(l []api.Wait) []api.Done {
	var done []api.Done
	for _, w := range l {
		done = append(done, failed(w.ID, api.ErrReset))
	}
	return done
}

// One that is shut stays so; the close that waits is answered, and what was to be said is not.
func TestRstOfShut(t *testing.T) {
	h := newHand(t, plainMade())
	h.refused(opening(3, 1), api.OK)
	h.answered(writing(3, "ab"), api.Answer{N: 2})
	h.begin(closing(3))
	h.recv(fin(3, 0))
	h.state(3, api.Shut)
	h.load(0, 0, 2, 0, 2, 1)
	h.recv(rst(3), failed(3, api.ErrReset))
	h.state(3, api.Shut)
	h.pending()
	h.load(0, 0, 2, 0, 0, 1)
	h.refused(reading(3, 1), api.ErrEOF)
	h.refused(closing(3), api.ErrClosed)
	// It is not broken: it is settled, and what it sends is sent.
	h.sends(shards(t, 3, 0, "ab", 4, 2)...)
	h.timer(8, 1)
	h.sends(append([]api.Datagram{fin(3, 1)}, shards(t, 3, 0, "ab", 4, 2)[:2]...)...)
	h.recv(ack(3, 2, 4))
	h.timer(16, 1)
	h.sends()
}

// Calls that wait are answered by rising kinds; what was to be said, and the entries, are gone; of another stream nothing is.
func TestRstByHand(t *testing.T) {
	h := newHand(t, wide(2, 1, 2, 9))
	for _, stream := range []int{3, 4} {
		h.refused(opening(stream, 1), api.OK)
		h.answered(writing(stream, "ab"), api.Answer{N: 2})
		h.answered(writing(stream, "cd"), api.Answer{N: 2})
		h.begin(reading(stream, 1))
		h.begin(writing(stream, "ef"))
		h.recvAll(shard(stream, 0, 0, 2, 3, 2, "x"), fin(stream, 1))
	}
	h.timer(8, 2)
	h.load(2, 0, 4, 0, 4, 2)
	h.recv(rst(3), failed(5, api.ErrReset), failed(4, api.ErrReset))
	h.state(3, api.Broken)
	h.state(4, api.Opened)
	h.load(1, 0, 4, 0, 2, 2)
	h.pending(api.Wait{ID: 10, Call: writing(4, "ef")}, api.Wait{ID: 9, Call: reading(4, 1)})
	h.counts(api.Counts{Taken: 5})
	h.refused(reading(3, 1), api.ErrReset)
	h.sends(ack(4, 0, 1), nack(4, 0, 0), block(3, 0, "ab"), block(4, 0, "ab"))
	h.recv(shard(4, 0, 1, 2, 3, 2, "y"))
	h.works(got(9, "x"))
}

// A Rst that is to be said stays to be said.
func TestRstKeepsRst(t *testing.T) {
	h := in(t, plainMade(), true, api.Opened)
	h.begin(aborting(3), fine(2))
	h.recv(rst(3))
	h.sends(rst(3))
}

// A job whose block's entry is gone is done all the same.
func TestRstAheadOfWork(t *testing.T) {
	h := in(t, plainMade(), true, api.Opened)
	h.recvAll(block(3, 0, "abc"), rst(3))
	h.load(0, 1, 0, 0, 0, 1)
	h.works()
	h.idle()
	h.counts(api.Counts{Taken: 2, Decoded: 1})
	h.load(0, 0, 0, 3, 1, 1)
	h.sends(ack(3, 0, 4))
}

// Promise 30.4: Ack and Nack.

func TestAck(t *testing.T) {
	h := in(t, wide(2, 2, 9, 9), true, api.Opened)
	h.answered(writing(3, "abcdefghi"), api.Answer{N: 9})
	h.sends(block(3, 0, "ab"), block(3, 1, "cd"))
	for _, d := range []api.Datagram{ack(3, 0, 2), ack(3, 3, 9), ack(3, 1<<31, 9), ack(3, 1<<32-1, 2), ack(4, 1, 2)} {
		h.recv(d)
		h.sends()
		h.load(0, 0, 9, 0, 0, 1)
	}
	h.recv(ack(3, 1, 0))
	h.load(0, 0, 7, 0, 0, 1)
	h.sends()
	h.recv(ack(3, 1, 65535))
	h.sends(block(3, 2, "ef"))
	h.recv(ack(3, 3, 0))
	h.sends(block(3, 3, "gh"))
	h.load(0, 0, 3, 0, 0, 1)
	h.counts(api.Counts{Sent: 4, Taken: 8})
}

func TestNack(t *testing.T) {
	c := api.Config{K: 3, Repair: 2, Size: 2, Window: 2, Buffer: 12, Queue: 12, Quantum: 64, Table: 9, Work: 9, Workers: 1, Timeout: 8}
	h := in(t, c, true, api.Opened)
	h.answered(writing(3, "abcdefghijkl"), api.Answer{N: 12})
	all := append(shards(t, 3, 0, "abcdef", 3, 2), shards(t, 3, 1, "ghijkl", 3, 2)...)
	// Those that wait to be sent are not sent anew.
	h.recv(nack(3, 0))
	h.counts(api.Counts{Taken: 1})
	h.sends(all...)
	resent := 0
	for _, row := range []struct {
		d    api.Datagram
		want []api.Datagram
	}{
		{nack(3, 0), all[:3]},
		{nack(3, 0, 1), []api.Datagram{all[0], all[2]}},
		{nack(3, 0, 0, 2, 4), nil},
		{nack(3, 0, 0, 1), all[2:3]},
		{nack(3, 0, 3, 4), all[:1]},
		{nack(3, 1, 0), all[6:8]},
		{nack(3, 2), nil},
		{nack(3, 1<<32-1), nil},
		{nack(4, 0), nil},
	} {
		sent, taken := h.e.Counts().Sent, h.e.Counts().Taken
		h.recv(row.d)
		resent += len(row.want)
		h.counts(api.Counts{Sent: sent, Taken: taken + 1, Resent: resent})
		h.sends(row.want...)
	}
	// What came is not sent anew.
	h.recv(ack(3, 1, 2))
	h.recv(nack(3, 0))
	h.sends()
}

// Promise 30.4: Fin.

// An Ack is said of an end that is taken, and of each Fin behind the end; else none.
func TestFin(t *testing.T) {
	h := in(t, wide(2, 4, 4, 9), true, api.Opened)
	for _, number := range []uint32{5, 6, 1 << 31, 1<<32 - 1} {
		h.recv(fin(3, number))
		h.sends()
	}
	h.recv(block(3, 1, "cd"))
	h.works()
	h.drop()
	for _, number := range []uint32{0, 1} {
		h.recv(fin(3, number))
		h.sends()
	}
	h.recv(fin(3, 4))
	h.sends(ack(3, 0, 4))
	for _, number := range []uint32{2, 3} {
		h.recv(fin(3, number))
		h.sends()
	}
	h.recv(fin(3, 4))
	h.sends(ack(3, 0, 4))
	h.recvAll(block(3, 0, "ab"), block(3, 2, "ef"), block(3, 3, "gh"))
	for range 3 {
		h.works()
	}
	h.state(3, api.Remote)
	h.sends(ack(3, 5, 4))
	// It ended: of whatever number, it is said.
	for _, number := range []uint32{0, 3, 4, 5, 8, 9, 1 << 31, 1<<32 - 1} {
		h.recv(fin(3, number))
		h.sends(ack(3, 5, 4))
		h.state(3, api.Remote)
	}
	h.answered(reading(3, 99), api.Answer{Body: "abcdefgh"})
	h.refused(reading(3, 99), api.ErrEOF)
}

// An end that is not above a block that waits to be decoded is taken, and the block is no part of the stream then.
func TestFinAheadOfWork(t *testing.T) {
	h := in(t, wide(2, 4, 4, 9), true, api.Opened)
	h.recv(block(3, 0, "ab"))
	h.recv(block(3, 1, "cd"))
	h.recv(fin(3, 1))
	h.works()
	h.state(3, api.Remote)
	h.works()
	h.counts(api.Counts{Taken: 3, Decoded: 2})
	h.load(0, 0, 0, 2, 1, 1)
	h.sends(ack(3, 2, 4))
	h.answered(reading(3, 9), api.Answer{Body: "ab"})
	h.refused(reading(3, 9), api.ErrEOF)
}

// Promise 30.4: Data and Repair.

// 28's Saw's answers: Old, with an Ack; Beyond; Twice; else it is gathered.
func TestShardsOfBlocksByTheirNumbers(t *testing.T) {
	for _, made := range []func(number uint32) api.Datagram{
		func(number uint32) api.Datagram { return shard(3, number, 0, 2, 3, 2, "x") },
		func(number uint32) api.Datagram { return shard(3, number, 2, 2, 3, 2, "x") },
	} {
		h := in(t, wide(2, 3, 4, 2), true, api.Opened)
		for i, text := range []string{"ab", "cd", "ef"} {
			h.recv(block(3, uint32(i), text))
			h.works()
		}
		h.sends(ack(3, 1, 3))
		h.counts(api.Counts{Sent: 1, Taken: 3, Decoded: 3})
		// 0 came out, 1 and 2 wait, 3 is the last one within the window.
		h.recv(made(0))
		h.counts(api.Counts{Sent: 1, Taken: 4, Decoded: 3, Old: 1})
		h.sends(ack(3, 1, 3))
		h.recv(made(1))
		h.recv(made(2))
		h.counts(api.Counts{Sent: 2, Taken: 6, Decoded: 3, Old: 1, Twice: 2})
		h.recv(made(4))
		h.recv(made(5))
		h.recv(made(1 << 31))
		h.counts(api.Counts{Sent: 2, Taken: 9, Decoded: 3, Old: 1, Twice: 2, Beyond: 3})
		h.recv(made(1<<32 - 1))
		h.recv(made(1<<31 + 2))
		h.counts(api.Counts{Sent: 2, Taken: 11, Decoded: 3, Old: 3, Twice: 2, Beyond: 3})
		h.sends(ack(3, 1, 3))
		h.load(0, 0, 0, 6, 0, 1)
		h.recv(made(3))
		h.load(1, 0, 0, 6, 0, 1)
		h.sends()
		h.counts(api.Counts{Sent: 3, Taken: 12, Decoded: 3, Old: 3, Twice: 2, Beyond: 3})
	}
}

// Behind the end it is Beyond.
func TestShardsBehindTheEnd(t *testing.T) {
	h := in(t, wide(2, 4, 4, 9), true, api.Opened)
	h.recv(fin(3, 2))
	for number := range uint32(6) {
		h.recv(shard(3, number, 0, 2, 3, 2, "x"))
	}
	h.counts(api.Counts{Taken: 7, Beyond: 4})
	h.load(2, 0, 0, 0, 1, 1)
}

// Block's bytes are the most that Len may be.
func TestShardsOfLongBlocks(t *testing.T) {
	for _, c := range []api.Config{wide(5, 2, 5, 5), plainMade(), least(1, 1), {K: 32, Size: 1024, Window: 1, Buffer: 32768, Queue: 32768, Quantum: 1, Table: 1, Work: 1, Workers: 1, Timeout: 1}} {
		most := c.K * c.Size
		for _, k := range []int{1, 2, 3, 32} {
			for _, size := range []int{1, most - 1, most, most + 1, most + 2, 3 * most, 32768} {
				if size < 1 || size > 32768 || (size+k-1)/k > 1024 {
					continue
				}
				h := newHand(t, c)
				h.recv(shard(3, 0, 0, k, k, size, letters((size+k-1)/k, 1)))
				h.state(3, api.Opened)
				if size > most {
					h.counts(api.Counts{Taken: 1, Bad: 1})
					h.load(0, 0, 0, 0, 0, 1)
				} else {
					h.counts(api.Counts{Taken: 1})
					if load := h.e.Load(); load[0] != 1 {
						t.Errorf("Load %v of K %d, Len %d", load, k, size)
					}
				}
			}
		}
	}
}

// One that is bad was seen: it is asked for.
func TestShardsOfLongBlocksAreLacked(t *testing.T) {
	h := newHand(t, wide(2, 3, 4, 4))
	h.recv(block(3, 1, "abc"))
	h.counts(api.Counts{Taken: 1, Bad: 1})
	h.timer(8, 1)
	h.sends(nack(3, 0), nack(3, 1))
}

// Shards that are unlike those of their block that are there.
func TestUnlikeShards(t *testing.T) {
	first := shard(3, 0, 0, 2, 4, 4, "ab")
	for _, row := range []struct {
		d    api.Datagram
		want api.Counts
	}{
		{first, api.Counts{Twice: 1}},
		{shard(3, 0, 0, 2, 4, 4, "aX"), api.Counts{Bad: 1}},
		{shard(3, 0, 0, 2, 5, 4, "ab"), api.Counts{Bad: 1}},
		{shard(3, 0, 1, 2, 3, 4, "cd"), api.Counts{Bad: 1}},
		{shard(3, 0, 1, 2, 5, 4, "cd"), api.Counts{Bad: 1}},
		{shard(3, 0, 3, 2, 5, 4, "cd"), api.Counts{Bad: 1}},
		{shard(3, 0, 1, 2, 4, 3, "cd"), api.Counts{Bad: 1}},
		{shard(3, 0, 1, 2, 4, 5, "cde"), api.Counts{Bad: 1}},
		{shard(3, 0, 1, 3, 4, 4, "cd"), api.Counts{Bad: 1}},
		{shard(3, 0, 0, 1, 4, 4, "abcd"), api.Counts{Bad: 1}},
		{shard(3, 0, 1, 4, 4, 4, "c"), api.Counts{Bad: 1}},
		// Of another block, or another stream, they are the first ones.
		{shard(3, 1, 0, 2, 5, 4, "aX"), api.Counts{}},
		{shard(4, 0, 0, 3, 4, 3, "c"), api.Counts{}},
	} {
		h := newHand(t, plainMade())
		h.recv(first)
		h.recv(row.d)
		row.want.Taken = 2
		h.counts(row.want)
		h.idle()
		// The block is there as it was.
		h.recv(shard(3, 0, 1, 2, 4, 4, "cd"))
		h.works()
		h.refused(opening(3, 1), api.OK)
		h.answered(reading(3, 9), api.Answer{Body: "abcd"})
	}
}

// Of a block of which there are enough any more one is Twice, if it is like the others.
func TestShardsOfReadyBlocks(t *testing.T) {
	h := newHand(t, plainMade())
	l := shards(t, 3, 0, "abcdefgh", 4, 2)
	h.recvAll(l[:4]...)
	h.load(1, 1, 0, 0, 0, 1)
	h.counts(api.Counts{Taken: 4})
	h.recvAll(l...)
	h.counts(api.Counts{Taken: 10, Twice: 6})
	h.recv(shard(3, 0, 4, 4, 6, 8, "XX"))
	h.counts(api.Counts{Taken: 11, Twice: 7})
	h.recv(shard(3, 0, 4, 4, 7, 8, "XX"))
	h.recv(shard(3, 0, 4, 4, 6, 7, "XX"))
	h.counts(api.Counts{Taken: 13, Twice: 7, Bad: 2})
	h.load(1, 1, 0, 0, 0, 1)
	h.works()
	h.idle()
	h.recvAll(l...)
	h.counts(api.Counts{Taken: 19, Twice: 7, Bad: 2, Decoded: 1, Old: 6})
}

// Any K of them will do, in any order.
func TestAnyShardsWillDo(t *testing.T) {
	l := shards(t, 9, 0, "some text, which is cut", 3, 2)
	orders(5, func(order []int) {
		h := newHand(t, plainMade())
		h.refused(opening(9, 1), api.OK)
		for _, i := range order[:3] {
			h.idle()
			h.recv(l[i])
		}
		h.load(1, 1, 0, 0, 0, 1)
		h.works()
		h.load(0, 0, 0, 23, 1, 1)
		h.answered(reading(9, 99), api.Answer{Body: "some text, which is cut"})
	})
}

// The other side's K, N and Size may be others than one's own.
func TestShardsOfOtherSettings(t *testing.T) {
	h := newHand(t, plainMade())
	h.refused(opening(9, 1), api.OK)
	for i, text := range []string{"a", letters(64, 1), letters(33, 2), "xy"} {
		l := shards(t, 9, uint32(i), text, []int{1, 32, 7, 2}[i], []int{254, 0, 248, 1}[i])
		h.recvAll(l[len(l)-l[0].K:]...)
		h.works()
		h.answered(reading(9, 99), api.Answer{Body: text})
	}
}

// There is no room for another block.
func TestFullTable(t *testing.T) {
	c := plainMade()
	c.Table = 2
	h := newHand(t, c)
	h.recvAll(shard(3, 0, 0, 2, 3, 4, "ab"), shard(4, 0, 0, 2, 3, 4, "ef"))
	h.recvAll(shard(3, 1, 0, 2, 3, 4, "xy"), block(5, 0, "x"), shard(3, 1, 0, 2, 3, 4, "xy"))
	h.counts(api.Counts{Taken: 5, Full: 3})
	h.load(2, 0, 0, 0, 0, 3)
	h.idle()
	// Those that are there go on; one that is gone makes room.
	h.recv(shard(3, 0, 1, 2, 3, 4, "cd"))
	h.recv(block(5, 0, "x"))
	h.counts(api.Counts{Taken: 7, Full: 4})
	h.works()
	// Of one that found no room nothing was kept.
	h.recv(shard(3, 1, 0, 2, 4, 3, "uv"))
	h.counts(api.Counts{Taken: 8, Full: 4, Decoded: 1})
	h.recv(block(5, 0, "x"))
	h.counts(api.Counts{Taken: 9, Full: 5, Decoded: 1})
	// It was seen: it is asked for, as are the others, with what is there of them.
	h.drop()
	h.timer(8, 3)
	h.sends(nack(3, 1, 0), nack(4, 0, 0), nack(5, 0))
}

// Jobs for which there is no room wait for it, and are done in their turn, each once.
func TestMoreJobsThanRoom(t *testing.T) {
	for _, work := range []int{1, 2, 3, 23, 24, 25} {
		c := wide(4, 8, 4, 200)
		c.Work = work
		h := newHand(t, c)
		for i := range 24 {
			h.recv(block(i%4, uint32(i/4), letters(1+i%4, i)))
			h.load(i+1, i+1, 0, 0, 0, min(4, i+1))
		}
		for i := range 24 {
			h.works()
			h.sends(ack(i%4, uint32(i/4+1), 8))
			if load := h.e.Load(); load[0] != 23-i || load[1] != 23-i {
				t.Errorf("Load %v behind %d jobs", load, i+1)
			}
		}
		h.idle()
		h.counts(api.Counts{Taken: 24, Decoded: 24, Sent: 24})
	}
}

// They come out in the order in which they came to be, whatever the room, while others come in.
func TestJobsInTheirOrder(t *testing.T) {
	for _, work := range []int{1, 2, 3, 5, 4096} {
		c := wide(4, 64, 4, 2000)
		c.Work, c.Table = work, 500
		h := newHand(t, c)
		var jobs []int
		var next [6]uint32
		d := dice(work)
		for range 400 {
			if stream := d.below(6); d.below(7) < 4 && next[stream] < 64 {
				h.recv(block(stream, next[stream], "ab"))
				next[stream]++
				jobs = append(jobs, stream)
			} else if len(jobs) > 0 {
				h.drop()
				h.works()
				if raw, some := h.e.Send(0); !some || read(t, raw).Stream != jobs[0] {
					t.Fatalf("Work %d: %s, want one of stream %d", work, rawTold(raw), jobs[0])
				}
				jobs = jobs[1:]
			}
			if load := h.e.Load(); load[1] != len(jobs) {
				t.Fatalf("Load %v, want %d jobs", load, len(jobs))
			}
		}
		for range jobs {
			h.works()
		}
		h.idle()
	}
}
