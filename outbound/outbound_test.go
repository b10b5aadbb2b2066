package outbound_test

import (
	"math"
	"reflect"
	"runtime"
	"slices"
	"strconv"
	"strings"
	"testing"

	"lightship/api"
	"lightship/config"
	"lightship/decode"
	"lightship/outbound"
)

// hand is what a stream sends, of which the answers are written out.
type hand struct {
	t *testing.T
	o *outbound.Out
}

func newHand(t *testing.T, c api.Config, stream int) hand {
	t.Helper()
	return hand{t, newOut(t, c, stream)}
}

func (h hand) write(s string, want int) {
	h.t.Helper()
	if n := h.o.Write(s); n != want {
		h.t.Errorf("Write(%s): %d, want %d", short(s), n, want)
	}
}

func (h hand) close(want api.Errno) {
	h.t.Helper()
	if err := h.o.Close(); err != want {
		h.t.Errorf("Close: %d, want %d", err, want)
	}
}

// wantItems: l are items of that stream, of these sizes.
func (h hand) wantItems(what string, l []api.Item, stream int, sizes []int) {
	h.t.Helper()
	var want []api.Item
	for _, size := range sizes {
		want = append(want, api.Item{ID: stream, Size: size})
	}
	if !slices.Equal(l, want) {
		h.t.Errorf("%s: %v, want %v", what, l, want)
	}
}

func (h hand) fill(now, stream int, sizes ...int) {
	h.t.Helper()
	h.wantItems("Fill("+strconv.Itoa(now)+")", h.o.Fill(now), stream, sizes)
}

func (h hand) nack(block uint32, have string, stream int, sizes ...int) {
	h.t.Helper()
	h.wantItems("Nack("+number(block)+", "+strconv.Quote(have)+")", h.o.Nack(block, have), stream, sizes)
}

func (h hand) tick(now, stream int, sizes ...int) {
	h.t.Helper()
	h.wantItems("Tick("+strconv.Itoa(now)+")", h.o.Tick(now), stream, sizes)
}

func (h hand) ack(next uint32, credit, want int) {
	h.t.Helper()
	if came := h.o.Ack(next, credit); came != want {
		h.t.Errorf("Ack(%d, %d): %d, want %d", next, credit, came, want)
	}
}

// pop: that datagram comes out.
func (h hand) pop(want api.Datagram) {
	h.t.Helper()
	d, is := h.o.Pop()
	if d.Kind != want.Kind || d.Stream != want.Stream || d.Block != want.Block || d.Index != want.Index || d.K != want.K || d.N != want.N || d.Len != want.Len || d.Credit != 0 || d.Have != "" || d.Body != want.Body || !is {
		h.t.Errorf("Pop: %s, %t, want %s, true", datagramTold(d), is, datagramTold(want))
	}
}

// popNone: none comes out.
func (h hand) popNone() {
	h.t.Helper()
	if d, is := h.o.Pop(); d != (api.Datagram{}) || is {
		h.t.Errorf("Pop: %s, %t, want none", datagramTold(d), is)
	}
}

// state: so many bytes may be written, so many are held.
func (h hand) state(room, held int) {
	h.t.Helper()
	if h.o.Room() != room || h.o.Held() != held {
		h.t.Errorf("Room %d, Held %d, want %d, %d", h.o.Room(), h.o.Held(), room, held)
	}
}

func (h hand) fin(want uint32, has, finished bool) {
	h.t.Helper()
	if next, is := h.o.Fin(); next != want || is != has {
		h.t.Errorf("Fin: %d, %t, want %d, %t", next, is, want, has)
	}
	if h.o.Finished() != finished {
		h.t.Errorf("Finished: %t, want %t", h.o.Finished(), finished)
	}
}

// data and repair are datagrams by their fields.

func data(stream int, block uint32, index, k, n, size int, body string) api.Datagram {
	return api.Datagram{Kind: 1, Stream: stream, Block: block, Index: index, K: k, N: n, Len: size, Body: body}
}

func repair(stream int, block uint32, index, k, n, size int, body string) api.Datagram {
	return api.Datagram{Kind: 2, Stream: stream, Block: block, Index: index, K: k, N: n, Len: size, Body: body}
}

// Promise 27.1: New.

// setting is one of a Config's fields: its name, the least and the greatest that it may be beside K 4 and Size 16, and where it stands.
type setting struct {
	name        string
	least, most int
	of          func(c *api.Config) *int
}

func settings() []setting {
	return []setting{
		{"K", 1, 32, func(c *api.Config) *int { return &c.K }},
		{"Repair", 0, 251, func(c *api.Config) *int { return &c.Repair }},
		{"Size", 1, 1024, func(c *api.Config) *int { return &c.Size }},
		{"Window", 1, 64, func(c *api.Config) *int { return &c.Window }},
		{"Buffer", 64, 1048576, func(c *api.Config) *int { return &c.Buffer }},
		{"Queue", 64, 1048576, func(c *api.Config) *int { return &c.Queue }},
		{"Quantum", 1, 65536, func(c *api.Config) *int { return &c.Quantum }},
		{"Table", 1, 65536, func(c *api.Config) *int { return &c.Table }},
		{"Work", 1, 4096, func(c *api.Config) *int { return &c.Work }},
		{"Workers", 1, 64, func(c *api.Config) *int { return &c.Workers }},
		{"Timeout", 1, 1048576, func(c *api.Config) *int { return &c.Timeout }},
	}
}

// noStreams are ints that are no stream.
func noStreams() []int {
	return append(farInts(), -2, -1, 256, 257, 511, 512, 65535, 65536)
}

// wantNone: there is none of these settings and that stream.
func wantNone(t *testing.T, c api.Config, stream int, want api.Errno) {
	t.Helper()
	if o, err := outbound.New(c, stream); o != nil || err != want {
		t.Errorf("New of %v, %d: %v, %d, want nil, %d", c, stream, o, err, want)
	}
}

// wrongSettings are those of which chapter 26's Check has an error, by one setting that is too small or too great.
func wrongSettings() []api.Config {
	var l []api.Config
	for _, s := range settings() {
		for _, n := range append(farInts(), s.least-1, s.most+1) {
			if n < s.least || n > s.most {
				c := plainMade()
				*s.of(&c) = n
				l = append(l, c)
			}
		}
	}
	return append(l, api.Config{}, made(32, 224, 1, 1, 32, 1), made(3, 0, 7, 1, 20, 1))
}

func TestNewOfWrongSettings(t *testing.T) {
	for _, c := range wrongSettings() {
		if err := config.Check(c); err != api.ErrRange {
			t.Fatalf("Check of %v: %d, want ErrRange", c, err)
		}
		for _, stream := range []int{0, 7, 255} {
			wantNone(t, c, stream, config.Check(c))
		}
	}
}

func TestNewOfWrongStreams(t *testing.T) {
	for _, c := range small() {
		for _, stream := range noStreams() {
			wantNone(t, c, stream, api.ErrRange)
		}
	}
}

// Of both Check's error is answered: it is the one that is asked first.
func TestNewOfBothWrong(t *testing.T) {
	for _, c := range wrongSettings() {
		for _, stream := range []int{-1, 256, math.MaxInt, math.MinInt} {
			wantNone(t, c, stream, config.Check(c))
		}
	}
}

// wantUnwritten: nothing was written to it.
func (h hand) wantUnwritten(c api.Config, stream int) {
	h.t.Helper()
	for range 2 {
		h.state(c.Buffer, 0)
		h.fin(0, false, false)
		h.popNone()
		for _, now := range []int{-1, 0, 5, lastTime, lastTime + 1} {
			h.fill(now, stream)
			h.tick(now, stream)
		}
		h.nack(0, marks(), stream)
		h.ack(0, -1, 0)
		h.ack(1, 5, 0)
	}
}

func TestNewOfEachStream(t *testing.T) {
	for stream := range 256 {
		for _, c := range small() {
			newHand(t, c, stream).wantUnwritten(c, stream)
		}
	}
	for _, stream := range []int{0, 1, 254, 255} {
		for _, c := range small() {
			b := newBoth(t, c, stream)
			b.write(letters(c.Buffer))
			b.fill(3)
			b.end()
		}
	}
}

// Each setting may be its least and its greatest, and those that the chapter does not name are all one.
func TestNewAtTheEdgesOfSettings(t *testing.T) {
	for _, s := range settings() {
		for _, n := range []int{s.least, s.least + 1, s.most - 1, s.most} {
			c := plainMade()
			*s.of(&c) = n
			c.Buffer = max(c.Buffer, c.K*c.Size)
			c.Queue = max(c.Queue, c.K*c.Size)
			newHand(t, c, 9).wantUnwritten(c, 9)
			b := newBoth(t, c, 9)
			b.write("some bytes")
			b.fill(2)
			b.write("more bytes")
			b.close()
			b.fill(3)
			b.tick(2 + c.Timeout)
			b.drain()
			b.ack(1, 1)
			b.ack(3, 1)
		}
	}
}

// Promise 27.1: Write, Close, Room and Held.

func TestWriteByHand(t *testing.T) {
	h := newHand(t, made(2, 1, 2, 1, 10, 1), 3)
	h.write("", 0)
	h.state(10, 0)
	h.write("a", 1)
	h.state(9, 1)
	h.write("bcdefghij", 9)
	h.state(0, 10)
	h.write("k", 0)
	h.write("", 0)
	h.state(0, 10)
	h.fill(0, 3, 19, 19, 19)
	h.state(4, 10)
	h.write("klmno", 4)
	h.state(0, 14)
	h.ack(1, 1, 1)
	h.state(0, 10)
	h.fill(0, 3, 19, 19, 19)
	h.state(4, 10)
	h.close(api.OK)
	h.state(0, 10)
	h.write("p", 0)
	h.write("", 0)
	h.close(api.ErrClosed)
	h.state(0, 10)
	h.ack(2, 1, 1)
	h.state(0, 6)
	h.fill(0, 3, 19, 19, 19)
	h.state(0, 6)
	h.ack(3, 1, 1)
	h.fill(0, 3, 18, 18, 18)
	h.state(0, 2)
	h.ack(4, 1, 1)
	h.state(0, 0)
}

// As many bytes come in as there is room for: pieces of each size, where there is each room.
func TestWrite(t *testing.T) {
	for _, c := range []api.Config{made(1, 0, 1, 1, 1, 1), made(1, 0, 1, 2, 6, 1), made(2, 1, 3, 2, 9, 1), made(3, 0, 2, 1, 17, 1)} {
		for first := range c.Buffer + 2 {
			for _, second := range []int{0, 1, 2, c.Buffer - first - 1, c.Buffer - first, c.Buffer - first + 1, c.Buffer + 5, 3000} {
				if second < 0 {
					continue
				}
				b := newBoth(t, c, 1)
				b.write(letters(first))
				if n := b.write(letters(second)); n != min(second, max(0, c.Buffer-first)) {
					t.Fatalf("%s: %d", b.told(), n)
				}
				b.write("x")
				b.write("yz")
				b.fill(4)
				b.write("more")
				b.end()
			}
		}
	}
}

// Bytes are written again and again, until there is no room; then blocks are cut, and there is.
func TestWriteAgainAndAgain(t *testing.T) {
	for _, c := range small() {
		for _, piece := range []int{1, 2, 3, 5, c.K * c.Size, c.Buffer} {
			b := newBoth(t, c, 200)
			for turn := range 12 {
				for b.want.room() > 0 {
					b.write(letters(piece))
				}
				if n := b.write("late"); n != 0 || b.got.Room() != 0 {
					t.Fatalf("%s: %d, Room %d", b.told(), n, b.got.Room())
				}
				b.fill(turn)
				b.drain()
				b.ack(b.want.next, turn%3)
			}
			b.end()
		}
	}
}

// The greatest Buffer holds 2^20 bytes.
func TestGreatBuffer(t *testing.T) {
	h := newHand(t, made(1, 0, 1024, 64, 1<<20, 1), 0)
	h.write(strings.Repeat("x", 1<<20+1), 1<<20)
	h.state(0, 1<<20)
	h.write("x", 0)
	if l := h.o.Fill(0); len(l) != 64 {
		t.Errorf("%d items, want 64", len(l))
	}
	h.state(64<<10, 1<<20)
	h.write(strings.Repeat("y", 1<<20), 64<<10)
	h.state(0, 1<<20+64<<10)
	h.ack(64, 64, 64)
	h.state(0, 1<<20)
}

// Behind Close nothing is written, wherever bytes are; what is there is sent.
func TestClose(t *testing.T) {
	for _, c := range small() {
		for _, size := range []int{0, 1, 2, c.K*c.Size - 1, c.K * c.Size, c.K*c.Size + 1, c.Buffer} {
			for _, filled := range []bool{false, true} {
				b := newBoth(t, c, 5)
				b.write(letters(size))
				if filled {
					b.fill(1)
				}
				if err := b.close(); err != api.OK || b.got.Room() != 0 {
					t.Fatalf("%s: %d, Room %d, want OK, 0", b.told(), err, b.got.Room())
				}
				for range 3 {
					if err := b.close(); err != api.ErrClosed {
						t.Fatalf("%s: %d, want ErrClosed", b.told(), err)
					}
					b.write("late")
					b.write("")
				}
				for len(b.want.text) > 0 {
					b.fill(2)
					b.ack(b.want.next, 1)
					b.close()
					b.write("late")
				}
				b.ack(b.want.next+1, 0)
				b.close()
				b.write("late")
				b.end()
			}
		}
	}
}

// Held, by places alone: of text bytes, of which some are cut, and some came.
func TestHeld(t *testing.T) {
	c := made(2, 1, 2, 4, 19, 1)
	for size := range 20 {
		for came := range 6 {
			o := newOut(t, c, 0)
			o.Write(letters(size))
			if o.Held() != size {
				t.Fatalf("%d bytes: Held %d", size, o.Held())
			}
			o.Fill(0)
			if o.Held() != size {
				t.Fatalf("%d bytes, cut: Held %d", size, o.Held())
			}
			blocks := min(size/4, 4)
			cut := 4 * blocks
			if size > 0 && size < 4 {
				blocks, cut = 1, size
			}
			gone := min(4*came, cut)
			if came > blocks {
				gone = 0
			}
			o.Ack(uint32(came), 0)
			if o.Held() != size-gone || o.Room() != 19-size+cut {
				t.Fatalf("%d bytes, Ack(%d): Held %d, want %d, Room %d, want %d", size, came, o.Held(), size-gone, o.Room(), 19-size+cut)
			}
		}
	}
}

// Promise 27.2: the chapter's example, and some answers written out.

func TestExample(t *testing.T) {
	for _, stream := range []int{0, 1, 7, 255} {
		h := newHand(t, config.Plain(), stream)
		h.write("ab", 2)
		h.fill(0, stream, 18, 18, 18, 18)
		h.state(256, 2)
		h.pop(data(stream, 0, 0, 2, 4, 2, "a"))
		h.pop(data(stream, 0, 1, 2, 4, 2, "b"))
		h.pop(repair(stream, 0, 2, 2, 4, 2, "k"))
		h.pop(repair(stream, 0, 3, 2, 4, 2, "\xe5"))
		h.popNone()
		h.popNone()
		h.state(256, 2)
		h.fin(1, false, false)
	}
}

func TestByHand(t *testing.T) {
	h := newHand(t, made(2, 1, 2, 3, 12, 5), 9)
	h.write("abcdab", 6)
	h.fill(10, 9, 19, 19, 19)
	h.fin(1, false, false)
	h.state(10, 6)
	h.fill(10, 9)
	h.pop(data(9, 0, 0, 2, 3, 4, "ab"))
	h.write("c", 1)
	h.fill(11, 9)
	h.close(api.OK)
	h.fin(1, false, false)
	h.fill(12, 9, 19, 19, 19)
	h.fin(2, true, false)
	h.fill(13, 9)
	h.pop(data(9, 0, 1, 2, 3, 4, "cd"))
	h.nack(0, marks(), 9, 19, 19)
	h.nack(0, marks(), 9)
	h.nack(0, marks(0), 9)
	h.nack(0, marks(0, 1), 9)
	h.nack(1, marks(), 9)
	h.nack(2, marks(), 9)
	h.pop(repair(9, 0, 2, 2, 3, 4, "\x9f\xe6"))
	h.nack(0, marks(0, 1), 9)
	h.nack(0, marks(0), 9)
	h.tick(14, 9)
	h.pop(data(9, 1, 0, 2, 3, 3, "ab"))
	h.tick(15, 9)
	h.pop(data(9, 1, 1, 2, 3, 3, "c\x00"))
	h.pop(repair(9, 1, 2, 2, 3, 3, "\x9f1"))
	h.pop(data(9, 0, 0, 2, 3, 4, "ab"))
	h.tick(17, 9, 19, 19)
	h.tick(20, 9, 19)
	h.pop(data(9, 0, 1, 2, 3, 4, "cd"))
	h.state(0, 7)
	h.ack(1, 3, 1)
	h.state(0, 3)
	h.pop(data(9, 1, 0, 2, 3, 3, "ab"))
	h.pop(data(9, 1, 1, 2, 3, 3, "c\x00"))
	h.popNone()
	h.nack(1, marks(1), 9, 19)
	h.nack(1, marks(0, 1), 9)
	h.nack(1, marks(200), 9)
	h.fin(2, true, false)
	h.ack(4, 3, 0)
	h.fin(2, true, false)
	h.ack(2, 3, 1)
	h.state(0, 0)
	h.fin(2, true, false)
	h.popNone()
	h.ack(3, 3, 0)
	h.fin(2, false, true)
	h.ack(3, 3, 0)
	h.fin(2, false, true)
	h.fill(20, 9)
	h.close(api.ErrClosed)
	h.popNone()
}

// One that does not wait any more, as its block came, is passed over by a Pop of its own.
func TestPopOfGoneByHand(t *testing.T) {
	h := newHand(t, made(1, 1, 1, 2, 2, 1), 2)
	h.write("xg", 2)
	h.fill(0, 2, 18, 18, 18, 18)
	h.pop(data(2, 0, 0, 1, 2, 1, "x"))
	h.ack(1, 0, 1)
	h.popNone()
	h.pop(data(2, 1, 0, 1, 2, 1, "g"))
	h.nack(1, marks(), 2, 18)
	h.nack(0, marks(), 2)
	h.pop(repair(2, 1, 1, 1, 2, 1, "g"))
	h.ack(2, 0, 1)
	h.write("x", 1)
	h.fill(0, 2)
	h.ack(2, 1, 0)
	h.fill(0, 2, 18, 18)
	h.popNone()
	h.pop(data(2, 2, 0, 1, 2, 1, "x"))
	h.pop(repair(2, 2, 1, 1, 2, 1, "x"))
	h.popNone()
}

// Promise 27.2: Fill.

// Which times may be is written out: at each other one nothing is cut, and nothing has changed.
func TestFillAtTheEdgesOfTimes(t *testing.T) {
	for _, c := range small() {
		for _, closed := range []bool{false, true} {
			b := newBoth(t, c, 4)
			b.write(letters(c.Buffer))
			if closed {
				b.close()
			}
			for _, now := range noTimes() {
				if l := b.fill(now); len(l) != 0 {
					t.Fatalf("%s: %d items", b.told(), len(l))
				}
				b.pop()
			}
			b.fill(6)
			for _, now := range noTimes() {
				b.fill(now)
			}
			b.end()
		}
	}
	for _, now := range []int{math.MinInt, -1, lastTime + 1, math.MaxInt} {
		h := newHand(t, plainMade(), 1)
		h.write("ab", 2)
		h.fill(now, 1)
		h.state(254, 2)
		h.fin(0, false, false)
		h.popNone()
	}
	for _, now := range []int{0, 1, 1 << 20, lastTime - 1, lastTime} {
		h := newHand(t, plainMade(), 1)
		h.write("ab", 2)
		h.fill(now, 1, 18, 18, 18, 18)
		h.state(256, 2)
		h.fin(1, false, false)
	}
}

// Texts of each length, while it is open and when it is closed, where none, one, some and as many blocks fly as may.
func TestFillCuts(t *testing.T) {
	for _, c := range []api.Config{made(1, 0, 1, 3, 9, 1), made(2, 1, 2, 1, 19, 1), made(2, 1, 2, 2, 19, 1), made(2, 0, 2, 4, 23, 1), made(3, 1, 1, 6, 21, 1)} {
		block := c.K * c.Size
		for flying := range c.Window + 1 {
			for size := range c.Buffer + 1 {
				for _, closed := range []bool{false, true} {
					b := newBoth(t, c, 8)
					b.write(letters(min(flying*block, c.Buffer)))
					b.fill(1)
					b.write(letters(size))
					if closed {
						b.close()
					}
					b.fill(2)
					b.fill(2)
					b.end()
				}
			}
		}
	}
}

// How many blocks are cut, reckoned from places alone.
func TestFillByPlaces(t *testing.T) {
	for _, window := range []int{1, 2, 3, 7, 63, 64} {
		for _, size := range []int{0, 1, 4, 5, 6, 9, 10, 11, 14, 15, 16, 34, 35, 36, 314, 315, 316, 319, 320, 321, 325, 326} {
			for _, closed := range []bool{false, true} {
				o := newOut(t, made(5, 0, 1, window, 400, 1), 1)
				o.Write(letters(size))
				if closed {
					o.Close()
				}
				blocks := size / 5
				if size%5 > 0 && (closed || size < 5) {
					blocks++
				}
				blocks = min(blocks, window)
				cut := min(5*blocks, size)
				if l := o.Fill(0); len(l) != cut {
					t.Fatalf("window %d, %d bytes, closed %t: %d items, want %d", window, size, closed, len(l), cut)
				}
				if next, _ := o.Fin(); next != uint32(blocks) || o.Held() != size || !closed && o.Room() != 400-size+cut {
					t.Fatalf("window %d, %d bytes, closed %t: next %d, want %d, Held %d, Room %d", window, size, closed, next, blocks, o.Held(), o.Room())
				}
				for at := range cut {
					if d, is := o.Pop(); !is || d.Block != uint32(at/5) || d.Index != at%5 || d.K != min(5, cut-at+at%5) {
						t.Fatalf("window %d, %d bytes, closed %t: Pop at %d: %s, %t", window, size, closed, at, datagramTold(d), is)
					}
				}
				if _, is := o.Pop(); is {
					t.Fatalf("window %d, %d bytes, closed %t: one more came out", window, size, closed)
				}
			}
		}
	}
}

// Fewer bytes than a block's are cut when the last block that flew came, and not ahead of that.
func TestFewBytesWaitForTheLast(t *testing.T) {
	for _, flying := range []int{1, 2, 3} {
		for came := range flying + 1 {
			h := newHand(t, made(2, 0, 2, 5, 16, 1), 1)
			h.write(letters(4*flying), 4*flying)
			h.o.Fill(0)
			h.write("abc", 3)
			h.fill(0, 1)
			h.ack(uint32(came), 9, came)
			if came < flying {
				h.fill(0, 1)
				h.fin(uint32(flying), false, false)
				h.write("d", 1)
				h.fill(0, 1, 19, 19)
			} else {
				h.fill(0, 1, 19, 19)
				h.fin(uint32(flying)+1, false, false)
				h.write("d", 1)
				h.fill(0, 1)
			}
		}
	}
}

// The edge lets as many blocks fly as it was granted, though fewer fly than may.
func TestFillUpToTheEdge(t *testing.T) {
	for _, window := range []int{1, 2, 3, 8, 64} {
		for came := range min(window, 9) + 1 {
			for _, credit := range []int{-1, 0, 1, 2, window - 1, window, window + 1, 65535, 65536, math.MaxInt, math.MinInt} {
				o := newOut(t, made(1, 0, 1, window, 200, 1), 1)
				o.Write(letters(200))
				if l := o.Fill(0); len(l) != window {
					t.Fatalf("window %d: %d items", window, len(l))
				}
				o.Ack(uint32(came), credit)
				edge := window
				if credit <= 65535 {
					edge = max(edge, came+credit)
				}
				edge = min(edge, came+window)
				if l := o.Fill(0); len(l) != edge-window {
					t.Fatalf("window %d, Ack(%d, %d): %d items, want %d", window, came, credit, len(l), edge-window)
				}
				if next, _ := o.Fin(); next != uint32(edge) {
					t.Fatalf("window %d, Ack(%d, %d): next %d, want %d", window, came, credit, next, edge)
				}
			}
		}
	}
}

// Where the edge does not let the next one, bytes wait, also if it is closed, or none is flying; then more credit comes.
func TestFillBehindCredit(t *testing.T) {
	for _, closed := range []bool{false, true} {
		h := newHand(t, made(1, 1, 2, 3, 14, 1), 6)
		h.write("abcdefghijklm", 13)
		if closed {
			h.close(api.OK)
		}
		h.fill(0, 6, 19, 19, 19, 19, 19, 19)
		h.ack(3, 0, 3)
		h.fill(0, 6)
		h.ack(3, 1, 0)
		h.fill(0, 6, 19, 19)
		h.fill(0, 6)
		h.ack(4, 0, 1)
		h.fill(0, 6)
		h.ack(4, 2, 0)
		h.fill(0, 6, 19, 19, 19, 19)
		h.ack(6, 9, 2)
		h.fill(0, 6, 18, 18)
		h.fin(7, closed, false)
	}
}

// Each Window: no more blocks fly than that.
func TestEachWindow(t *testing.T) {
	for window := 1; window <= 64; window++ {
		b := newBoth(t, made(1, 0, 2, window, 300, 3), window)
		b.write(letters(300))
		if l := b.fill(1); len(l) != window {
			t.Fatalf("%s: %d items, want %d", b.told(), len(l), window)
		}
		b.fill(1)
		b.ack(1, 65535)
		if l := b.fill(2); len(l) != 1 {
			t.Fatalf("%s: %d items, want 1", b.told(), len(l))
		}
		b.fill(2)
		b.end()
	}
}

// edgeSettings are the greatest and the least K, Repair and Size that fit.
func edgeSettings() []api.Config {
	var l []api.Config
	for _, k := range []int{1, 2, 31, 32} {
		for _, repair := range []int{0, 1, 254 - k, 255 - k} {
			for _, size := range []int{1, 2, 1023, 1024} {
				// With many of all three a block takes a while.
				if k*repair*size < 1<<20 || k == 32 && repair == 223 && size == 1024 {
					l = append(l, made(k, repair, size, 1, k*size, 1))
				}
			}
		}
	}
	return l
}

// Blocks of the greatest and the least settings, whole and short.
func TestEdgesOfSettings(t *testing.T) {
	for _, c := range edgeSettings() {
		block := c.K * c.Size
		sizes := []int{1, c.K - 1, c.K, c.K + 1, block - 1, block}
		if c.K*c.Repair*c.Size >= 1<<20 {
			sizes = []int{block}
		}
		for _, size := range sizes {
			if size < 1 || size > block {
				continue
			}
			b := newBoth(t, c, 255)
			b.write(letters(size))
			l := b.fill(lastTime)
			if len(l) != min(c.K, size)+c.Repair {
				t.Fatalf("%s: %d items", b.told(), len(l))
			}
			b.drain()
			b.nack(0, marks())
			b.drain()
			b.ack(1, 1)
			b.pop()
		}
	}
}

// Blocks of each length at each K: as many shards are data as there are bytes, K at most, and each is as long as the length by these, rounded up.
func TestEachLength(t *testing.T) {
	for k := 1; k <= 32; k++ {
		for size := 1; size <= 3*k; size++ {
			o, text := newOut(t, made(k, 2, 3, 1, 3*k, 1), 77), letters(size)
			o.Write(text)
			l := o.Fill(0)
			m := min(k, size)
			part := size / m
			if size%m > 0 {
				part++
			}
			if len(l) != m+2 {
				t.Fatalf("K %d, %d bytes: %d items", k, size, len(l))
			}
			all := ""
			for i, x := range l {
				d, is := o.Pop()
				if !is || x != (api.Item{ID: 77, Size: 17 + part}) || d.Stream != 77 || d.Block != 0 || d.Index != i || d.K != m || d.N != m+2 || d.Len != size || len(d.Body) != part || (d.Kind == 1) != (i < m) || (d.Kind == 2) != (i >= m) {
					t.Fatalf("K %d, %d bytes: item %v, %s, %t", k, size, x, datagramTold(d), is)
				}
				if i < m {
					all += d.Body
				}
			}
			if all[:size] != text || strings.Trim(all[size:], "\x00") != "" {
				t.Fatalf("K %d, %d bytes: the data are %q", k, size, all)
			}
		}
	}
}

// What comes out is what chapter 20 makes of it, and any of it that is enough is decoded as what was written.
func TestShardsAreDecoded(t *testing.T) {
	d := dice(6)
	for range 60 {
		k := 1 + d.below(6)
		c := made(k, d.below(5), 1+d.below(5), 1+d.below(4), 120, 1)
		o, text := newOut(t, c, d.below(256)), d.text(1+d.below(120))
		o.Write(text)
		o.Close()
		read := ""
		for next := uint32(0); ; next++ {
			o.Fill(0)
			job, ready := blockOf(&d, o, next)
			if !ready {
				break
			}
			r := decode.Do(job)
			if r.Err != api.OK || r.Body == "" {
				t.Fatalf("%v: block %d: %d", c, next, r.Err)
			}
			read += r.Body
			o.Ack(next+1, c.Window)
		}
		if read != text {
			t.Fatalf("%v: %q was written, and %q was read", c, text, read)
		}
	}
}

// blockOf is a job of just enough of the block's shards that come out, which others by chance.
func blockOf(d *dice, o *outbound.Out, block uint32) (api.Job, bool) {
	var came []api.Datagram
	for range 1000 {
		if x, is := o.Pop(); is && x.Block == block {
			came = append(came, x)
		}
	}
	if len(came) == 0 {
		for _, x := range o.Nack(block, marks()) {
			if y, is := o.Pop(); is && x.Size > 0 {
				came = append(came, y)
			}
		}
	}
	if len(came) == 0 {
		return api.Job{}, false
	}
	job := api.Job{Key: api.Key{Stream: came[0].Stream, Block: block}, K: came[0].K, N: came[0].N, Len: came[0].Len}
	for len(job.Shards) < job.K {
		i := d.below(len(came))
		job.Shards = append(job.Shards, api.Shard{Index: came[i].Index, Body: came[i].Body})
		came = slices.Delete(came, i, i+1)
	}
	return job, true
}

// Promise 27.2: Pop.

// Shards come out in the order in which they began to wait, each once, however many came out ahead.
func TestPopIsInOrder(t *testing.T) {
	for _, c := range small() {
		for popped := range 9 {
			b := newBoth(t, c, 33)
			b.write(letters(c.Buffer))
			b.fill(1)
			for range popped {
				b.pop()
			}
			for _, x := range b.want.blocks {
				b.nack(x.number, marks())
				b.nack(x.number, marks(0))
			}
			b.drain()
			b.tick(1 + c.Timeout)
			b.pop()
			b.nack(0, marks())
			b.ack(1, 2)
			b.write("ab")
			b.fill(2)
			b.end()
		}
	}
}

// One whose block came comes out as none, in its turn, each by a Pop of its own.
func TestPopOfGone(t *testing.T) {
	for _, c := range small() {
		for popped := range 4 {
			for came := range uint32(c.Window + 1) {
				b := newBoth(t, c, 44)
				b.write(letters(c.Buffer))
				b.fill(1)
				for range popped {
					b.pop()
				}
				// The first one, which is gone soon, waits behind all others.
				b.nack(0, marks())
				waits := len(b.want.waits)
				b.ack(came, 7)
				b.write("xyz")
				b.fill(3)
				none := 0
				for range waits {
					if _, is := b.pop(); !is {
						none++
					}
				}
				if came > 0 && came <= b.want.next && popped == 0 && none == 0 {
					t.Fatalf("%s: none was gone", b.told())
				}
				b.end()
			}
		}
	}
}

// Promise 27.3: Ack.

// flown is what a stream of so many blocks sends, of which the first ones came ahead.
func flown(t *testing.T, window, ahead, many int) *both {
	t.Helper()
	b := newBoth(t, made(1, 1, 1, window, 300, 5), 12)
	for range ahead {
		b.write("a")
		b.fill(1)
		b.drain()
		b.ack(b.want.next, window)
	}
	b.write(letters(many))
	b.fill(2)
	if len(b.want.blocks) != many || int(b.want.next) != ahead+many {
		t.Fatalf("%s: %d blocks fly, the next one is %d", b.told(), len(b.want.blocks), b.want.next)
	}
	return b
}

// At each number from below the first one that flies up to the next one, and once more.
func TestAck(t *testing.T) {
	for _, window := range []int{1, 2, 3, 64} {
		for _, ahead := range []int{0, 1, 3, 70} {
			for _, many := range []int{0, 1, 2, window - 1, window} {
				if many < 0 || many > window {
					continue
				}
				for next := max(0, ahead-2); next <= ahead+many; next++ {
					b := flown(t, window, ahead, many)
					if came := b.ack(uint32(next), 1); came != max(0, next-ahead) {
						t.Fatalf("%s: %d, want %d", b.told(), came, max(0, next-ahead))
					}
					if came := b.ack(uint32(next), 1); came != 0 {
						t.Fatalf("%s: %d, want 0", b.told(), came)
					}
					if b.got.Held() != many-max(0, next-ahead) {
						t.Fatalf("%s: Held %d", b.told(), b.got.Held())
					}
					b.end()
				}
			}
		}
	}
}

// aboves are how far a number may be above another one.
func aboves() []uint32 {
	return []uint32{1, 2, 3, 4, 63, 64, 65, 255, 256, 65535, 65536, 1 << 24, 1 << 30, 1<<31 - 65, 1<<31 - 64, 1<<31 - 2, 1<<31 - 1}
}

// Of a number above the next one nothing comes, and the edge stays, whatever the credit, as long as there is no Fin.
func TestAckAbove(t *testing.T) {
	for _, far := range aboves() {
		for _, credit := range []int{0, 1, 5, 65535} {
			for _, many := range []int{0, 1, 3} {
				b := flown(t, 3, 2, many)
				for range 2 {
					if came := b.ack(b.want.next+far, credit); came != 0 {
						t.Fatalf("%s: %d, want 0", b.told(), came)
					}
				}
				edge, next := b.want.edge, b.want.next
				b.ack(next, -1)
				b.write(letters(100))
				b.fill(1)
				if b.want.edge != edge || int64(b.want.next) != min(int64(next)+3, int64(edge)) {
					t.Fatalf("%s: next %d", b.told(), b.want.next)
				}
				b.end()
			}
		}
	}
}

// With a Fin it is finished by one more than the next number alone.
func TestAckAboveWithFin(t *testing.T) {
	for _, far := range aboves() {
		for _, credit := range []int{-1, 0, 1, 65535, 65536} {
			for _, many := range []int{0, 1, 3} {
				b := flown(t, 3, 2, many)
				b.close()
				want := 0
				if far == 1 {
					want = many
				}
				if came := b.ack(b.want.next+far, credit); came != want || b.got.Finished() != (far == 1) {
					t.Fatalf("%s: %d, want %d; Finished %t", b.told(), came, want, b.got.Finished())
				}
				if came := b.ack(b.want.next+far, credit); came != 0 {
					t.Fatalf("%s: %d, want 0", b.told(), came)
				}
				b.end()
			}
		}
	}
}

// Numbers that are about half of all away are behind, or at no side; none comes, and the edge may be granted.
func TestAckHalfAway(t *testing.T) {
	for _, many := range []int{0, 1, 2, 3} {
		for _, low := range []int{-70000, -65536, -65535, -300, -5, -4, -3, -2, -1, 0, 1, 2, 3, 4, 5, 300, 65535, 70000} {
			for _, credit := range []int{-1, 0, 1, 2, 3, 4, 64, 65534, 65535, 65536} {
				for _, closed := range []bool{false, true} {
					b := flown(t, 3, 2, many)
					if closed {
						b.close()
					}
					if came := b.ack(plus(b.want.next, 1<<31+low), credit); came != 0 {
						t.Fatalf("%s: %d, want 0", b.told(), came)
					}
					b.end()
				}
			}
		}
	}
}

// The same by hand, where the edge is the next number, 3: what is 2^31 less 1 away is above it; what is 2^31 away is not, but the edge is not less than that either; what is 2^31 and 1 away is behind both.
func TestAckHalfAwayByHand(t *testing.T) {
	h := newHand(t, made(1, 0, 1, 3, 9, 1), 1)
	h.write("abcd", 4)
	h.fill(0, 1, 18, 18, 18)
	h.ack(1, 0, 1)
	h.fill(0, 1)
	for _, credit := range []int{0, 1, 9} {
		h.ack(3+1<<31-1, credit, 0)
		h.ack(3+1<<31, credit, 0)
		h.ack(3+1<<31+1, credit, 0)
		h.fill(0, 1)
		h.state(8, 3)
	}
	h.ack(3, 1, 2)
	h.fill(0, 1, 18)
}

// Where the edge is ahead of the next number, 1, what is 2^31 away from that is not above it, and the edge is less than it: it is granted. From there it lets no number near the next one, and no grant near it is ahead of it.
func TestAckHalfAwayGrants(t *testing.T) {
	h := newHand(t, made(1, 0, 1, 3, 200, 1), 1)
	h.write("a", 1)
	h.fill(0, 1, 18)
	h.write("bcd", 3)
	h.ack(1<<31, 2, 0)
	h.fill(0, 1, 18, 18)
	h.ack(3, -1, 3)
	h.fill(0, 1)
	h.ack(3, 2, 0)
	h.fill(0, 1, 18)
	// The next number is 4, the edge 5.
	h.write("ef", 2)
	h.ack(4+1<<31, 0, 0)
	h.fill(0, 1)
	h.ack(4, 65535, 1)
	h.fill(0, 1)
	h.state(198, 2)
}

// credits are credits at the edges of those that may be.
func credits() []int {
	return append(farInts(), -2, -1, 0, 1, 2, 3, 4, 5, 6, 7, 20, 65533, 65534, 65535, 65536, 65537)
}

// Each credit beside each number: the edge is there, and no grant takes it back.
func TestAckGrants(t *testing.T) {
	for _, next := range []uint32{math.MaxUint32 - 1, math.MaxUint32, 0, 1, 2, 3, 4, 5, 6} {
		for _, credit := range credits() {
			b := flown(t, 4, 2, 2)
			b.ack(next, credit)
			b.write(letters(40))
			b.fill(2)
			b.ack(next, credit-1)
			b.fill(2)
			b.end()
		}
	}
}

// The edge is just where the greatest credit takes it.
func TestGreatestCredit(t *testing.T) {
	for _, credit := range []int{65534, 65535} {
		o := newOut(t, made(1, 0, 1, 64, 64, 1), 0)
		o.Ack(0, credit)
		o.Ack(0, 65536)
		o.Ack(0, 3)
		for range 2000 {
			o.Write(letters(64))
			o.Fill(0)
			next, _ := o.Fin()
			o.Ack(next, -1)
			for range 64 {
				o.Pop()
			}
		}
		if next, _ := o.Fin(); next != uint32(credit) || o.Held() != 64 {
			t.Errorf("credit %d: the next number is %d, Held %d", credit, next, o.Held())
		}
	}
}

// Promise 27.3: Nack.

// someMarks are marks, none, some and all, and texts that are none.
func someMarks() []string {
	all := strings.Repeat("\xff", 32)
	l := []string{"", "\x00", all[:31], all + "\xff", strings.Repeat("\x00", 31), strings.Repeat("\x00", 33), strings.Repeat("\x00", 64)}
	l = append(l, marks(), all, marks(0), marks(1), marks(2), marks(3), marks(4), marks(5), marks(6), marks(7), marks(8), marks(0, 1), marks(0, 2), marks(1, 2), marks(0, 2, 4), marks(4, 5), marks(5, 6, 7), marks(6, 7, 8, 255))
	l = append(l, marks(253), marks(254), marks(255), marks(0, 254, 255), marks(0, 255), marksTo(0, 3), marksTo(0, 4), marksTo(0, 6), marksTo(1, 4), marksTo(1, 6), marksTo(2, 6), marksTo(3, 6), marksTo(4, 6), marksTo(4, 8), marksTo(0, 255), marksTo(1, 256), marksTo(128, 256))
	d := dice(5)
	for range 4 {
		l = append(l, d.text(32))
	}
	return l
}

// Each marks, of blocks that fly, whole and short, of one that came, and of ones that were not cut yet; each as all wait, some, and none.
func TestNack(t *testing.T) {
	for _, c := range small() {
		block := c.K * c.Size
		for _, have := range someMarks() {
			for _, popped := range []int{0, 1, 4, 2000} {
				b := newBoth(t, c, 21)
				b.write(letters(block))
				b.fill(0)
				b.drain()
				b.ack(1, 64)
				b.write(letters(block + 1))
				b.close()
				b.fill(1)
				for range min(popped, len(b.want.waits)) {
					b.pop()
				}
				for _, x := range []uint32{0, 1, 2, 3, 4, math.MaxUint32, 1 << 31, 1<<31 + 1, 1 << 8, 1<<16 + 1} {
					b.nack(x, have)
				}
				b.nack(1, have)
				b.drain()
				b.nack(2, have)
				b.nack(1, have)
				b.end()
			}
		}
	}
}

// Of four data shards and two of repair, by hand: which are sent anew is told by as many as lack of four, the first ones that do.
func TestNackByHand(t *testing.T) {
	for _, x := range []struct {
		have string
		want []int
	}{
		{marks(), []int{0, 1, 2, 3}},
		{marks(0), []int{1, 2, 3}},
		{marks(3), []int{0, 1, 2}},
		{marks(5), []int{0, 1, 2}},
		{marks(0, 1), []int{2, 3}},
		{marks(1, 3), []int{0, 2}},
		{marks(4, 5), []int{0, 1}},
		{marks(1, 4, 5), []int{0}},
		{marks(0, 1, 2), []int{3}},
		{marks(0, 1, 2, 3), nil},
		{marks(2, 3, 4, 5), nil},
		{marks(0, 1, 2, 3, 4, 5), nil},
		{marks(6), []int{0, 1, 2}},
		{marks(6, 255), []int{0, 1}},
		{marks(6, 7, 8, 255), nil},
		{marks(0, 1, 6), []int{2}},
		{marks(0, 100, 101), []int{1}},
		{strings.Repeat("\xff", 32), nil},
		{"", nil},
		{strings.Repeat("\x00", 31), nil},
		{strings.Repeat("\x00", 33), nil},
	} {
		o := newOut(t, plainMade(), 3)
		o.Write(letters(64))
		o.Fill(0)
		for range 6 {
			o.Pop()
		}
		l := o.Nack(0, x.have)
		if len(l) != len(x.want) {
			t.Errorf("Nack(0, %q): %v, want %v", x.have, l, x.want)
			continue
		}
		for i, index := range x.want {
			d, is := o.Pop()
			if l[i] != (api.Item{ID: 3, Size: 33}) || !is || d != data(3, 0, index, 4, 6, 64, letters(64)[16*index:16*index+16]) {
				t.Errorf("Nack(0, %q): item %v, %s, %t, want shard %d", x.have, l[i], datagramTold(d), is, index)
			}
		}
		if _, is := o.Pop(); is {
			t.Errorf("Nack(0, %q): one more came out", x.have)
		}
	}
}

// Each choice of marks, with more beyond all shards: none but data is sent anew, as many as four is more than the marks.
func TestNackOfEachChoice(t *testing.T) {
	for choice := range 1 << 6 {
		for beyond := range 3 {
			var had []int
			for i := range 6 {
				if choice>>i&1 == 1 {
					had = append(had, i)
				}
			}
			for i := range beyond {
				had = append(had, 255-i)
			}
			var want []int
			for i := range 4 {
				if choice>>i&1 == 0 && len(had)+len(want) < 4 {
					want = append(want, i)
				}
			}
			b := newBoth(t, plainMade(), 3)
			b.write(letters(64))
			b.fill(0)
			b.drain()
			if l := b.nack(0, marks(had...)); len(l) != len(want) {
				t.Fatalf("%s: %d items, want %d", b.told(), len(l), len(want))
			}
			for _, index := range want {
				if d, is := b.pop(); !is || d.Kind != api.Data || d.Index != index {
					t.Fatalf("%s: %s, %t, want Data %d", b.told(), datagramTold(d), is, index)
				}
			}
			b.end()
		}
	}
}

// Each block that flies is asked for by its own number.
func TestNackOfEachBlock(t *testing.T) {
	b := newBoth(t, made(2, 1, 2, 64, 300, 5), 90)
	for range 70 {
		b.write("abcd")
		b.fill(1)
		b.drain()
		b.ack(b.want.next, 64)
	}
	b.write(letters(255))
	b.fill(3)
	b.drain()
	for _, x := range b.want.blocks {
		l := b.nack(x.number, marks(2))
		if len(l) != 1 {
			t.Fatalf("%s: %d items", b.told(), len(l))
		}
		if d, is := b.pop(); !is || d.Block != x.number || d.Index != 0 {
			t.Fatalf("%s: %s, %t", b.told(), datagramTold(d), is)
		}
	}
	for range 2 {
		for i := len(b.want.blocks) - 1; i >= 0; i-- {
			b.nack(b.want.blocks[i].number, marks())
		}
	}
	b.end()
}

// Promise 27.3: Tick.

// By hand: just at Timeout behind its time a block is due, and again as long behind that.
func TestTickByHand(t *testing.T) {
	h := newHand(t, made(2, 1, 1, 2, 4, 10), 8)
	h.write("abef", 4)
	h.fill(5, 8, 18, 18, 18, 18, 18, 18)
	for range 6 {
		h.o.Pop()
	}
	h.tick(14, 8)
	h.tick(-1, 8)
	h.tick(lastTime+1, 8)
	h.tick(15, 8, 18, 18, 18, 18)
	h.tick(15, 8)
	h.pop(data(8, 0, 0, 2, 3, 2, "a"))
	h.pop(data(8, 0, 1, 2, 3, 2, "b"))
	h.pop(data(8, 1, 0, 2, 3, 2, "e"))
	h.tick(24, 8)
	h.tick(25, 8, 18, 18, 18)
	h.pop(data(8, 1, 1, 2, 3, 2, "f"))
	h.pop(data(8, 0, 0, 2, 3, 2, "a"))
	h.ack(1, 0, 1)
	h.tick(35, 8, 18)
	h.popNone()
	h.pop(data(8, 1, 0, 2, 3, 2, "e"))
	h.pop(data(8, 1, 1, 2, 3, 2, "f"))
	h.popNone()
	h.ack(2, 0, 1)
	h.tick(45, 8)
	h.popNone()
}

// Ticks about when blocks are due, of unlike times, and behind it; each Timeout, up to the greatest.
func TestTick(t *testing.T) {
	for _, timeout := range []int{1, 2, 8, 1000, 1<<20 - 1, 1 << 20} {
		for _, first := range []int{0, 1, 77, lastTime - 2*timeout, lastTime - timeout - 1, lastTime - timeout, lastTime - 1, lastTime} {
			if first < 0 {
				continue
			}
			for _, later := range []int{-1, 0, 1} {
				second := min(max(0, first+later), lastTime)
				for _, now := range []int{first - 1, first, first + 1, first + timeout - 1, first + timeout, first + timeout + 1, second + timeout, first + 2*timeout, lastTime - 1, lastTime} {
					b := newBoth(t, made(2, 1, 1, 3, 6, timeout), 14)
					b.write("ab")
					b.fill(first)
					b.write("cde")
					b.fill(second)
					b.drain()
					b.tick(now)
					b.tick(now)
					b.drain()
					b.tick(now + timeout - 1)
					b.tick(now + timeout)
					b.end()
				}
			}
		}
	}
}

// At what is no time nothing is due, and no block counts as sent anew.
func TestTickAtNoTime(t *testing.T) {
	for _, c := range small() {
		b := newBoth(t, c, 15)
		b.write(letters(c.Buffer))
		b.fill(0)
		b.drain()
		for _, now := range noTimes() {
			if l := b.tick(now); len(l) != 0 {
				t.Fatalf("%s: %d items", b.told(), len(l))
			}
		}
		if l := b.tick(c.Timeout); len(l) == 0 {
			t.Fatalf("%s: none is due", b.told())
		}
		b.end()
	}
}

// A block is due again Timeout behind when it was due, however often it is asked; what waits still has no item.
func TestTickAgain(t *testing.T) {
	for _, timeout := range []int{1, 2, 5} {
		for _, pops := range []int{0, 1, 2, 3} {
			b := newBoth(t, made(2, 1, 2, 2, 9, timeout), 16)
			b.write(letters(9))
			b.fill(3)
			for now := range 40 {
				b.tick(now)
				for range pops {
					b.pop()
				}
			}
			b.end()
		}
	}
}

// Shards wait once, whether they wait from the beginning, by a Nack, or by a Tick; one that came out waits anew.
func TestNoneWaitsTwice(t *testing.T) {
	for _, c := range small() {
		for popped := range 7 {
			b := newBoth(t, c, 17)
			b.write(letters(c.Buffer))
			b.fill(0)
			for range popped {
				b.pop()
			}
			b.tick(c.Timeout)
			b.nack(0, marks())
			b.tick(2 * c.Timeout)
			b.nack(0, marks(0))
			b.nack(1, marks(1))
			b.pop()
			b.pop()
			b.nack(0, marks())
			b.nack(1, marks(1))
			b.tick(3 * c.Timeout)
			b.drain()
			b.nack(1, marks())
			b.tick(4 * c.Timeout)
			b.end()
		}
	}
}

// Promise 27.4: Fin and Finished.

func TestFinByHand(t *testing.T) {
	h := newHand(t, made(2, 0, 1, 2, 9, 1), 1)
	h.fin(0, false, false)
	h.write("abcde", 5)
	h.fin(0, false, false)
	h.fill(0, 1, 18, 18, 18, 18)
	h.fin(2, false, false)
	h.close(api.OK)
	h.fin(2, false, false)
	h.ack(3, 9, 0)
	h.fin(2, false, false)
	h.ack(1, 9, 1)
	h.fin(2, false, false)
	h.fill(0, 1, 18)
	h.fin(3, true, false)
	h.ack(2, 9, 1)
	h.fin(3, true, false)
	h.ack(5, 9, 0)
	h.fin(3, true, false)
	h.ack(3, 9, 1)
	h.fin(3, true, false)
	h.state(0, 0)
	h.ack(4, 9, 0)
	h.fin(3, false, true)
	h.ack(4, 9, 0)
	h.ack(3, 9, 0)
	h.ack(5, 9, 0)
	h.fin(3, false, true)
}

// Of nothing that was written the end is at 0.
func TestFinOfNothing(t *testing.T) {
	for _, c := range small() {
		h := newHand(t, c, 1)
		h.ack(1, 1, 0)
		h.fin(0, false, false)
		h.close(api.OK)
		h.fin(0, true, false)
		h.fill(0, 1)
		h.fin(0, true, false)
		h.ack(0, 1, 0)
		h.ack(2, 1, 0)
		h.ack(math.MaxUint32, 1, 0)
		h.fin(0, true, false)
		h.ack(1, 1, 0)
		h.fin(0, false, true)
		h.close(api.ErrClosed)
		h.state(0, 0)
	}
}

// Before and behind Close, with bytes that wait to be cut and none, with blocks that fly and none: what Ack of one more tells then, and that all is as it is when it is finished.
func TestFin(t *testing.T) {
	for _, c := range small() {
		block := c.K * c.Size
		for flying := range min(c.Window, c.Buffer/block) + 1 {
			for _, waits := range []int{0, 1, block - 1, block, block + 1} {
				for _, closed := range []bool{false, true} {
					b := newBoth(t, c, 2)
					b.write(letters(flying * block))
					b.fill(1)
					b.write(letters(min(waits, b.want.room())))
					if closed {
						b.close()
					}
					is := closed && b.want.text == ""
					if next, has := b.got.Fin(); next != uint32(flying) || has != is {
						t.Fatalf("%s; Fin: %d, %t, want %d, %t", b.told(), next, has, flying, is)
					}
					held := b.got.Held()
					came := b.ack(uint32(flying)+1, 3)
					if is && (came != flying || !b.got.Finished() || b.got.Held() != 0) || !is && (came != 0 || b.got.Finished() || b.got.Held() != held) {
						t.Fatalf("%s: %d; Finished %t, Held %d", b.told(), came, b.got.Finished(), b.got.Held())
					}
					b.end()
				}
			}
		}
	}
}

// Behind it nothing is sent any more: what waits has no block, nothing is asked for anew, nothing is due, and it stays so.
func TestFinishedForGood(t *testing.T) {
	for _, c := range small() {
		for popped := range 5 {
			b := newBoth(t, c, 250)
			b.write(letters(min(c.Buffer, c.K*c.Size*c.Window)))
			b.close()
			b.fill(1)
			for range popped {
				b.pop()
			}
			b.tick(1 + c.Timeout)
			next, is := b.got.Fin()
			if !is {
				t.Fatalf("%s; Fin: %d, %t", b.told(), next, is)
			}
			if came := b.ack(next+1, 5); came != int(next) {
				t.Fatalf("%s: %d, want %d", b.told(), came, next)
			}
			for range 3 {
				for x := range next + 2 {
					if l := b.nack(x, marks()); len(l) != 0 {
						t.Fatalf("%s: %v", b.told(), l)
					}
					b.ack(x, 9)
				}
				b.tick(2 + 2*c.Timeout)
				b.tick(lastTime)
				b.fill(3)
				b.write("late")
				b.close()
				if _, is := b.pop(); is || !b.got.Finished() || b.got.Held() != 0 {
					t.Fatalf("%s: %t; Finished %t, Held %d", b.told(), is, b.got.Finished(), b.got.Held())
				}
			}
			b.end()
			if !b.got.Finished() {
				t.Fatalf("%s: it is not finished any more", b.told())
			}
		}
	}
}

// Many calls of all kinds.

// one makes one of the kinds of calls.
func (b *both) one(i int) {
	b.t.Helper()
	block := b.want.c.K * b.want.c.Size
	next := b.want.next
	first := next - uint32(len(b.want.blocks))
	switch i {
	case 0:
		b.write("x")
	case 1:
		b.write(letters(block + 1))
	case 2:
		b.fill(1)
	case 3:
		b.fill(3)
	case 4:
		b.pop()
	case 5:
		b.ack(first+1, 1)
	case 6:
		b.ack(next, 3)
	case 7:
		b.ack(next+1, 9)
	case 8:
		b.nack(first, marks(1))
	case 9:
		b.nack(next-1, marks())
	case 10:
		b.tick(4)
	case 11:
		b.tick(6)
	case 12:
		b.close()
	}
}

func TestEachRowOfCalls(t *testing.T) {
	const kinds = 13
	for _, x := range []struct {
		c      api.Config
		length int
	}{
		{made(1, 0, 1, 1, 2, 2), 4},
		{made(1, 1, 1, 2, 3, 3), 4},
		{made(2, 1, 1, 2, 5, 3), 4},
		{made(2, 0, 2, 3, 9, 1), 3},
	} {
		all := 1
		for range x.length {
			all *= kinds
		}
		for row := range all {
			b := newBoth(t, x.c, 3)
			// Ahead of each row one block flies whole, and one byte waits.
			b.write(letters(x.c.K*x.c.Size + 1))
			b.fill(2)
			for range x.length {
				b.one(row % kinds)
				row /= kinds
			}
			b.end()
		}
	}
}

// The same from nothing on.
func TestEachRowOfFirstCalls(t *testing.T) {
	const kinds = 13
	for row := range kinds * kinds * kinds * kinds {
		b := newBoth(t, made(2, 1, 1, 2, 5, 2), 255)
		for range 4 {
			b.one(row % kinds)
			row /= kinds
		}
		b.end()
	}
}

// someCredit is a credit by chance, most times one that may be.
func (d *dice) someCredit() int {
	if d.below(6) > 0 {
		return d.below(8)
	}
	l := credits()
	return l[d.below(len(l))]
}

// someHave are marks by chance, most times of few of the first places.
func (d *dice) someHave(n int) string {
	switch d.below(8) {
	case 0:
		return d.text(32)
	case 1:
		return d.text(30 + d.below(5))
	case 2:
		return marks()
	}
	var l []int
	for i := range min(n+3, 256) {
		if d.below(2) == 0 {
			l = append(l, i)
		}
	}
	return marks(l...)
}

// mix makes many calls, the next one by chance of a fixed seed.
func mix(t *testing.T, c api.Config, many int, seed uint64) {
	t.Helper()
	d := dice(seed)
	b := newBoth(t, c, d.below(256))
	now, writes, pops := 0, 3, 4
	times := noTimes()
	for range many {
		next := b.want.next
		near := next - uint32(d.below(c.Window+2))
		switch turn := d.below(24); {
		case turn < writes:
			b.write(d.text(d.below(2*c.K*c.Size + 3)))
		case turn < 6:
			b.fill(now)
		case turn < 6+pops:
			b.pop()
		case turn < 13:
			b.ack(near, d.someCredit())
		case turn < 16:
			b.nack(near, d.someHave(c.K+c.Repair))
		case turn < 18:
			b.tick(now)
		case turn == 18:
			b.ack(next+1+uint32(d.below(2)), d.someCredit())
		case turn == 19:
			b.fill(times[d.below(len(times))])
			b.tick(times[d.below(len(times))])
		case turn == 20 && d.below(many/4) == 0:
			b.close()
		case turn == 21 && d.below(5) == 0:
			b.drain()
		case turn == 22 && d.below(60) == 0:
			b.ack(next+aboves()[d.below(len(aboves()))], d.someCredit())
		default:
			writes, pops = 1+d.below(5), d.below(6)
			now += d.below(2 * c.Timeout)
		}
	}
	b.end()
	if d.below(2) == 0 {
		b.close()
		for range 40 {
			b.fill(now)
			b.ack(b.want.next, 64)
		}
		b.ack(b.want.next+1, 64)
		b.end()
	}
}

func TestMixed(t *testing.T) {
	for i, c := range small() {
		for seed := range uint64(40) {
			mix(t, c, 400, seed+100*uint64(i)+1)
		}
	}
	d := dice(77)
	for range 80 {
		k, size := 1+d.below(6), 1+d.below(4)
		c := made(k, d.below(5), size, 1+d.below(6), k*size+d.below(30), 1+d.below(6))
		mix(t, c, 300, uint64(d.below(1<<30)))
	}
}

// R4 and R5: what was answered stays as it was, and hangs on what was done to the same thing alone.

// Whoever got a list may write to it, and neither what is sent nor another list sees it.
func TestAnswersAreNewMemory(t *testing.T) {
	b := newBoth(t, made(2, 1, 2, 4, 16, 2), 1)
	b.write(letters(16))
	first := b.got.Fill(1)
	want := b.want.fill(1)
	if !slices.Equal(first, want) {
		t.Fatalf("%v, want %v", first, want)
	}
	for i := range first {
		first[i] = api.Item{ID: 77, Size: 77}
	}
	clear(append(first, first...))
	for range 12 {
		d, is := b.got.Pop()
		if x, has := b.want.pop(); d != x || is != has {
			t.Fatalf("%s, %t, want %s, %t", datagramTold(d), is, datagramTold(x), has)
		}
	}
	nacked := b.nack(1, marks())
	clear(nacked)
	ticked := b.tick(3)
	clear(append(ticked, ticked...))
	b.drain()
	b.end()
}

func TestAnswersStay(t *testing.T) {
	b, d := newBoth(t, made(2, 2, 3, 4, 40, 3), 5), dice(4)
	var lists, copies [][]api.Item
	var came, cameCopies []api.Datagram
	for now := range 600 {
		b.write(d.text(d.below(20)))
		for _, l := range [][]api.Item{b.fill(now), b.nack(b.want.next-1, d.someHave(4)), b.tick(now)} {
			lists, copies = append(lists, l), append(copies, slices.Clone(l))
		}
		for range 5 {
			x, _ := b.pop()
			y := x
			y.Body = strings.Clone(x.Body)
			came, cameCopies = append(came, x), append(cameCopies, y)
		}
		b.ack(b.want.next-uint32(d.below(3)), 3)
	}
	b.end()
	for i := range lists {
		if !slices.Equal(lists[i], copies[i]) {
			t.Fatalf("the list that was answered at %d is another now", i)
		}
	}
	for i := range came {
		if came[i] != cameCopies[i] {
			t.Fatalf("what came out at %d is another now", i)
		}
	}
}

// Settings that are changed behind New change nothing, and no text is changed.
func TestWhatIsHandedInIsNotChanged(t *testing.T) {
	whole := strings.Clone(letters(40))
	c := plainMade()
	first := c
	o := newOut(t, c, 1)
	o.Write(whole[:20])
	o.Write(whole[20:30])
	c.K, c.Repair, c.Size = 1, 0, 1
	if l := o.Fill(0); len(l) != 6 {
		t.Errorf("%d items, want 6, as it was made by %v", len(l), first)
	}
	if whole != letters(40) {
		t.Errorf("%q", whole)
	}
	have := strings.Clone(marks(0))
	o.Nack(0, have)
	if have != marks(0) {
		t.Errorf("%q", have)
	}
}

func TestTwoShareNothing(t *testing.T) {
	for _, x := range [][2]api.Config{{plainMade(), plainMade()}, {made(1, 0, 1, 1, 1, 1), made(2, 1, 2, 2, 9, 2)}, {made(2, 1, 1, 3, 7, 1), made(2, 1, 1, 3, 7, 1)}} {
		first, second := newBoth(t, x[0], 1), newBoth(t, x[1], 1)
		first.write(letters(x[0].Buffer))
		second.state()
		second.fill(1)
		first.fill(1)
		for i := range 40 {
			second.pop()
			second.write(letters(i % 5))
			first.pop()
			second.fill(i)
			first.tick(i)
			second.nack(0, marks())
			first.write("first")
			first.ack(first.want.next, i%3)
			second.tick(i)
			first.nack(first.want.next, marks())
			first.fill(i)
			second.state()
			if i == 20 {
				first.close()
			}
			first.nack(first.want.next-1, marks())
			second.ack(second.want.next-1, i%4)
			first.state()
		}
		first.end()
		second.end()
	}
}

// R5: the same calls are answered alike, however often they are made.
func TestTheSameOnceMore(t *testing.T) {
	row := func() string {
		o, d, told := newOut(t, made(3, 2, 2, 5, 50, 4), 6), dice(9), ""
		for now := range 300 {
			told += strconv.Itoa(o.Write(d.text(d.below(12))))
			next, _ := o.Fin()
			for _, l := range [][]api.Item{o.Fill(now), o.Tick(now), o.Nack(next-uint32(d.below(4)), d.someHave(5))} {
				for _, x := range l {
					told += "," + strconv.Itoa(x.ID) + "/" + strconv.Itoa(x.Size)
				}
			}
			for range d.below(9) {
				x, is := o.Pop()
				told += "," + datagramTold(x) + strconv.FormatBool(is)
			}
			told += "," + strconv.Itoa(o.Ack(next-uint32(d.below(3)), d.below(6))) + ";"
		}
		return told
	}
	if first := row(); row() != first || row() != first {
		t.Error("the same calls were answered in another way")
	}
}

// heap is how many bytes are held by all.
func heap() int {
	var m runtime.MemStats
	runtime.GC()
	runtime.ReadMemStats(&m)
	return int(m.HeapAlloc)
}

// Blocks that came are not kept: their memory is free for others.
func TestGoneBlocksAreNotKept(t *testing.T) {
	const block = 8 * 1024
	o := newOut(t, made(8, 8, 1024, 64, 64*block, 1), 0)
	before := heap()
	for turn := range 5 {
		o.Write(strings.Repeat("x", 64*block))
		if l := o.Fill(0); len(l) != 64*16 {
			t.Fatalf("turn %d: %d items", turn, len(l))
		}
		next, _ := o.Fin()
		if many := heap() - before; many < 64*block {
			t.Fatalf("%d bytes are held of 64 blocks of %d", many, block)
		}
		o.Ack(next-1, 65)
		if many := heap() - before; many > 2*64*block {
			t.Errorf("turn %d: %d bytes are held of one block of %d", turn, many, block)
		}
		o.Ack(next, 64)
	}
	runtime.KeepAlive(o)
}

// Repair that came out is not kept: it is never sent anew.
func TestSentRepairIsNotKept(t *testing.T) {
	o := newOut(t, made(2, 250, 1024, 4, 4*2048, 1), 0)
	before := heap()
	o.Write(letters(4 * 2048))
	o.Fill(0)
	if many := heap() - before; many < 4*250*1024 {
		t.Fatalf("%d bytes are held, as all waits", many)
	}
	for range 4 * 252 {
		o.Pop()
	}
	if many := heap() - before; many > 200*1024 {
		t.Errorf("%d bytes are held of 4 blocks of 2048", many)
	}
	runtime.KeepAlive(o)
}

// Shards that came out are not kept in what waits, however many go through.
func TestWhatWaitsStaysSmall(t *testing.T) {
	o := newOut(t, made(1, 0, 1, 2, 9, 1), 0)
	before := heap()
	for range 200000 {
		o.Write("x")
		o.Fill(0)
		o.Pop()
		next, _ := o.Fin()
		o.Ack(next, 2)
	}
	if many := heap() - before; many > 1<<20 {
		t.Errorf("%d bytes are held of no block", many)
	}
	runtime.KeepAlive(o)
}

// R1: on nil nothing happens, and all answers are none.

func wantNothing(t *testing.T, o *outbound.Out) {
	t.Helper()
	for _, s := range []string{"", "a", letters(300)} {
		if n := o.Write(s); n != 0 {
			t.Errorf("nil: Write(%s): %d, want 0", short(s), n)
		}
	}
	for _, now := range append(noTimes(), 0, 1, lastTime) {
		if l := o.Fill(now); len(l) != 0 {
			t.Errorf("nil: Fill(%d): %v, want none", now, l)
		}
		if l := o.Tick(now); len(l) != 0 {
			t.Errorf("nil: Tick(%d): %v, want none", now, l)
		}
	}
	for _, x := range []uint32{0, 1, 2, math.MaxUint32, 1 << 31, 1<<31 + 1, 1<<31 - 1} {
		for _, have := range someMarks() {
			if l := o.Nack(x, have); len(l) != 0 {
				t.Errorf("nil: Nack(%d, %q): %v, want none", x, have, l)
			}
		}
		for _, credit := range credits() {
			if came := o.Ack(x, credit); came != 0 {
				t.Errorf("nil: Ack(%d, %d): %d, want 0", x, credit, came)
			}
		}
	}
	if d, is := o.Pop(); d != (api.Datagram{}) || is {
		t.Errorf("nil: Pop: %s, %t, want none", datagramTold(d), is)
	}
	if err := o.Close(); err != api.ErrNil {
		t.Errorf("nil: Close: %d, want ErrNil", err)
	}
	if next, is := o.Fin(); next != 0 || is {
		t.Errorf("nil: Fin: %d, %t, want 0, false", next, is)
	}
	if o.Finished() || o.Room() != 0 || o.Held() != 0 {
		t.Errorf("nil: Finished %t, Room %d, Held %d, want false, 0, 0", o.Finished(), o.Room(), o.Held())
	}
}

func TestNil(t *testing.T) {
	for range 2 {
		wantNothing(t, nil)
	}
	refused, _ := outbound.New(plainMade(), 256)
	wantNothing(t, refused)
	b := newBoth(t, plainMade(), 3)
	b.write(letters(100))
	b.fill(3)
	wantNothing(t, nil)
	b.end()
}

// The chapter lists eleven calls on what a stream sends, and it has no others.
func TestNoOtherCalls(t *testing.T) {
	var got []string
	is := reflect.TypeFor[*outbound.Out]()
	for i := range is.NumMethod() {
		got = append(got, is.Method(i).Name)
	}
	if want := []string{"Ack", "Close", "Fill", "Fin", "Finished", "Held", "Nack", "Pop", "Room", "Tick", "Write"}; !slices.Equal(got, want) {
		t.Errorf("%v, want %v", got, want)
	}
}
