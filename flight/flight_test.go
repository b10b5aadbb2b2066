package flight_test

import (
	"math"
	"reflect"
	"runtime"
	"slices"
	"strconv"
	"strings"
	"testing"

	"lightship/api"
	"lightship/flight"
)

// Promise 22.1: New.

// wantNone: there is no flight of that window.
func wantNone(t *testing.T, base uint32, window int) {
	t.Helper()
	if f, err := flight.New(base, window); f != nil || err != api.ErrArg {
		t.Errorf("New(%d, %d): %v, %d, want nil, ErrArg", base, window, f, err)
	}
}

// wantEmpty: there is a flight of no blocks, whose next number is base.
func wantEmpty(t *testing.T, base uint32, window int) {
	t.Helper()
	f := newFlight(t, base, window)
	if f.Next() != base || f.Base() != base || f.Len() != 0 {
		t.Errorf("New(%d, %d): Next %d, Base %d, Len %d, want %d, %d, 0", base, window, f.Next(), f.Base(), f.Len(), base, base)
	}
	for _, x := range []uint32{base - 1, base, base + 1} {
		if body, n, is := f.Body(x); body != "" || n != 0 || is {
			t.Errorf("New(%d, %d): Body(%d): %q, %d, %t, want none", base, window, x, body, n, is)
		}
		if l := f.Wants(x, marks(), 255); len(l) != 0 {
			t.Errorf("New(%d, %d): Wants(%d): %v, want none", base, window, x, l)
		}
	}
	if l := f.Due(lastTime, 0); len(l) != 0 {
		t.Errorf("New(%d, %d): Due: %v, want none", base, window, l)
	}
	if gone := f.Ack(base); gone != 0 {
		t.Errorf("New(%d, %d): Ack(%d): %d, want 0", base, window, base, gone)
	}
}

// Which windows may be is written out.
func TestNewAtTheEdges(t *testing.T) {
	for _, base := range []uint32{0, 1, 1<<31 - 1, 1 << 31, math.MaxUint32} {
		for _, window := range []int{-1, 0, 65, math.MaxInt, math.MinInt} {
			wantNone(t, base, window)
		}
		for _, window := range []int{1, 64} {
			wantEmpty(t, base, window)
		}
	}
}

func TestNewOfEachWindow(t *testing.T) {
	l := farInts()
	for window := -300; window <= 600; window++ {
		l = append(l, window)
	}
	for _, window := range l {
		for _, base := range bases() {
			if may(window) {
				wantEmpty(t, base, window)
			} else {
				wantNone(t, base, window)
			}
		}
	}
}

// There may be just window blocks.
func TestEachWindowIsFilled(t *testing.T) {
	for window := 1; window <= 64; window++ {
		for _, base := range bases() {
			b := newBoth(t, base, window)
			for i := range window {
				if x, err := b.add("x", 1, 0); x != base+uint32(i) || err != api.OK {
					t.Fatalf("%s: %d, %d", b.told(), x, err)
				}
			}
			for range 3 {
				if x, err := b.add("x", 1, 0); x != 0 || err != api.ErrFull {
					t.Fatalf("%s: %d, %d, want 0, ErrFull", b.told(), x, err)
				}
			}
			b.end()
		}
	}
}

// Promise 22.1: the chapter's example, and some answers written out.

// hand is a flight whose answers are written out.
type hand struct {
	t *testing.T
	f *flight.Flight
}

func (h hand) add(body string, n, at int, want uint32, why api.Errno) {
	h.t.Helper()
	if x, err := h.f.Add(body, n, at); x != want || err != why {
		h.t.Errorf("Add(%q, %d, %d): %d, %d, want %d, %d", body, n, at, x, err, want, why)
	}
}

func (h hand) ack(next uint32, want int) {
	h.t.Helper()
	if gone := h.f.Ack(next); gone != want {
		h.t.Errorf("Ack(%d): %d, want %d", next, gone, want)
	}
}

func (h hand) wants(block uint32, have string, need int, want ...int) {
	h.t.Helper()
	var sends []api.Send
	for _, place := range want {
		sends = append(sends, api.Send{Block: block, Index: place})
	}
	if l := h.f.Wants(block, have, need); !slices.Equal(l, sends) {
		h.t.Errorf("Wants(%d, %s, %d): %v, want %v", block, short(have), need, l, sends)
	}
}

func (h hand) due(now, wait int, want ...uint32) {
	h.t.Helper()
	if l := h.f.Due(now, wait); !slices.Equal(l, want) {
		h.t.Errorf("Due(%d, %d): %v, want %v", now, wait, l, want)
	}
}

func (h hand) body(block uint32, want string, n int) {
	h.t.Helper()
	if body, many, is := h.f.Body(block); body != want || many != n || !is {
		h.t.Errorf("Body(%d): %q, %d, %t, want %q, %d, true", block, body, many, is, want, n)
	}
}

func (h hand) noBody(block uint32) {
	h.t.Helper()
	if body, n, is := h.f.Body(block); body != "" || n != 0 || is {
		h.t.Errorf("Body(%d): %q, %d, %t, want none", block, body, n, is)
	}
}

func (h hand) counts(base, next uint32, many int) {
	h.t.Helper()
	if h.f.Base() != base || h.f.Next() != next || h.f.Len() != many {
		h.t.Errorf("Base %d, Next %d, Len %d, want %d, %d, %d", h.f.Base(), h.f.Next(), h.f.Len(), base, next, many)
	}
}

// The example names no base: Ack(1) takes one of two blocks where they are 0 and 1.
func TestExample(t *testing.T) {
	for window := 2; window <= 64; window++ {
		h := hand{t, newFlight(t, 0, window)}
		h.add("ab", 3, 5, 0, api.OK)
		h.add("cd", 4, 6, 1, api.OK)
		h.ack(1, 1)
		h.counts(1, 2, 1)
		h.noBody(0)
		h.body(1, "cd", 4)
	}
}

func TestByHand(t *testing.T) {
	h := hand{t, newFlight(t, 0, 3)}
	h.counts(0, 0, 0)
	h.ack(0, 0)
	h.ack(1, 0)
	h.due(100, 0)
	h.add("", 1, 0, 0, api.ErrArg)
	h.add("a", 0, 0, 0, api.ErrArg)
	h.add("a", 256, 0, 0, api.ErrArg)
	h.add("a", 1, -1, 0, api.ErrArg)
	h.add("a", 1, 1<<40+1, 0, api.ErrArg)
	h.counts(0, 0, 0)
	h.add("ab", 6, 10, 0, api.OK)
	h.add("\x00\x80\xff", 1, 0, 1, api.OK)
	h.counts(0, 2, 2)
	h.add("c", 255, 1<<40, 2, api.OK)
	h.add("d", 1, 0, 0, api.ErrFull)
	h.add("", 1, 0, 0, api.ErrArg)
	h.add("d", 256, 0, 0, api.ErrArg)
	h.counts(0, 3, 3)
	h.body(0, "ab", 6)
	h.body(1, "\x00\x80\xff", 1)
	h.body(2, "c", 255)
	h.noBody(3)
	h.noBody(4294967295)
	h.wants(0, marks(), 3, 0, 1, 2)
	h.wants(0, marks(1), 3, 0, 2)
	h.wants(0, marks(1, 2, 200), 4, 0)
	h.wants(0, marks(1, 2, 200), 3)
	h.wants(0, marks(0, 2), 99, 1, 3, 4, 5)
	h.wants(0, "", 3)
	h.wants(3, marks(), 3)
	h.due(9, 0, 1)
	h.due(9, 0, 1)
	h.due(9, 1)
	h.due(13, 4, 1)
	h.due(14, 4, 0)
	h.due(1<<40, 0, 0, 1, 2)
	h.ack(2, 2)
	h.counts(2, 3, 1)
	h.ack(2, 0)
	h.ack(4, 0)
	h.noBody(1)
	h.body(2, "c", 255)
	h.wants(1, marks(), 3)
	h.add("e", 2, 4, 3, api.OK)
	h.ack(4, 2)
	h.counts(4, 4, 0)
	h.noBody(3)
}

// Numbers go round at 2^32.
func TestByHandAround(t *testing.T) {
	h := hand{t, newFlight(t, 4294967294, 4)}
	h.counts(4294967294, 4294967294, 0)
	h.add("a", 1, 8, 4294967294, api.OK)
	h.add("b", 2, 6, 4294967295, api.OK)
	h.add("c", 3, 7, 0, api.OK)
	h.add("d", 4, 6, 1, api.OK)
	h.add("e", 5, 0, 0, api.ErrFull)
	h.counts(4294967294, 2, 4)
	h.due(8, 2, 4294967295, 1)
	h.due(9, 1, 4294967294, 4294967295, 0, 1)
	h.wants(4294967295, marks(0), 2, 1)
	h.wants(0, marks(1), 4, 0, 2)
	h.ack(3, 0)
	h.ack(4294967294, 0)
	h.ack(4294967293, 0)
	h.ack(2147483648, 0)
	h.ack(4294967295, 1)
	h.counts(4294967295, 2, 3)
	h.ack(1, 2)
	h.counts(1, 2, 1)
	h.noBody(4294967295)
	h.noBody(0)
	h.body(1, "d", 4)
	h.add("f", 5, 0, 2, api.OK)
	h.ack(4294967295, 0)
	h.ack(3, 2)
	h.counts(3, 3, 0)
}

// Promise 22.1: Add.

// someInts are the edges of n and at, and ints that are far away.
func someInts() []int {
	return append(farInts(), -2, -1, 0, 1, 2, 32, 127, 128, 254, 255, 256, 257, 511, 512, 65535, 65536, lastTime-1, lastTime, lastTime+1, lastTime+2, lastTime<<1)
}

// Each n beside each time, with a body and without one, where none, some and all blocks there may be are there.
func TestAdd(t *testing.T) {
	for _, window := range []int{1, 2, 5, 64} {
		for _, many := range fills(window) {
			b := newBoth(t, math.MaxUint32-1, window)
			b.fill(many)
			for _, n := range someInts() {
				for _, at := range someInts() {
					for _, body := range []string{"", "\x00", "ab"} {
						if !refused(body, n, at) && many < window {
							continue
						}
						b.add(body, n, at)
						b.counts()
					}
				}
			}
			b.end()
		}
	}
	for _, n := range someInts() {
		for _, at := range someInts() {
			for _, body := range []string{"", "\x00", "ab", "\xff\x80\x00"} {
				b := newBoth(t, 7, 2)
				b.add(body, n, at)
				b.look()
				b.add(body, n, at)
				b.end()
			}
		}
	}
}

// What is wrong is answered by hand: beside all that is right, at each edge, ahead of ErrFull.
func TestAddOfWrong(t *testing.T) {
	for _, window := range []int{1, 2, 64} {
		for _, many := range fills(window) {
			h := hand{t, newFlight(t, math.MaxUint32, window)}
			for range many {
				if _, err := h.f.Add("x", 1, 1); err != api.OK {
					t.Fatal(err)
				}
			}
			for _, n := range []int{-1, 0, 256, math.MaxInt, math.MinInt} {
				for _, at := range []int{0, lastTime, -1, lastTime + 1} {
					h.add("a", n, at, 0, api.ErrArg)
					h.add("", n, at, 0, api.ErrArg)
				}
			}
			for _, at := range []int{-1, lastTime + 1, math.MaxInt, math.MinInt} {
				for _, n := range []int{1, 255, 0, 256} {
					h.add("a", n, at, 0, api.ErrArg)
					h.add("", n, at, 0, api.ErrArg)
				}
			}
			for _, n := range []int{1, 255} {
				for _, at := range []int{0, lastTime} {
					h.add("", n, at, 0, api.ErrArg)
					if many == window {
						h.add("a", n, at, 0, api.ErrFull)
					}
				}
			}
			h.counts(math.MaxUint32, math.MaxUint32+uint32(many), many)
		}
	}
}

// All n that may be, and some around them, and all of their places are told.
func TestAddOfEachN(t *testing.T) {
	for n := -5; n <= 300; n++ {
		b := newBoth(t, 9, 2)
		b.add("body", n, 4)
		b.look()
		l := b.wants(9, marks(), 1000)
		if 1 <= n && n <= 255 && len(l) != n {
			t.Errorf("n %d: %d places", n, len(l))
		}
		b.end()
	}
}

// Bodies of each value of byte, and long ones: a flight asks no more of them than that there is a byte.
func TestBodies(t *testing.T) {
	d := dice(3)
	var l []string
	for i := range 256 {
		l = append(l, string([]byte{byte(i)}), string([]byte{byte(i), 0}), string([]byte{0, byte(i), 255}))
	}
	for _, size := range []int{2, 255, 256, 1023, 1024, 1025, 32767, 32768, 32769, 1 << 20, 3<<20 + 1} {
		l = append(l, d.text(size), strings.Repeat("\x00", size))
	}
	l = append(l, "\u00e4\u20ac\U0001f6a2", "\xff\xfe\xc3\x28", "\r\n\t \"\\'", "a", "a")
	b := newBoth(t, math.MaxUint32-300, 64)
	for i, body := range l {
		if len(b.want.blocks) == 64 {
			b.ack(b.want.base() + 64 - uint32(i%5))
		}
		x, _ := b.add(body, 1+i%255, i)
		b.body(x)
		b.body(x - 1)
		b.body(b.want.base())
		b.counts()
	}
	b.end()
}

// Numbers are one behind the other, however many blocks go ahead.
func TestNumbersRise(t *testing.T) {
	for _, base := range bases() {
		for _, window := range windows() {
			b := newBoth(t, base, window)
			for i := range 3*window + 70 {
				if len(b.want.blocks) == window {
					b.ack(b.want.base() + 1 + uint32(i%window))
				}
				if x, err := b.add("ab", 3, i); x != base+uint32(i) || err != api.OK {
					t.Fatalf("%s: %d, %d, want %d, OK", b.told(), x, err, base+uint32(i))
				}
				b.counts()
			}
			b.end()
		}
	}
}

// Promise 22.1: Ack.

// farAway are how far a number may be from the next one.
func farAway() []uint32 {
	l := []uint32{0, 1, 2, 3, 63, 64, 65, 66, 127, 128, 255, 256, 65535, 65536, 1 << 24, 1 << 30, 1<<31 - 65, 1<<31 - 64, 1<<31 - 63, 1<<31 - 2, 1<<31 - 1, 1 << 31, 1<<31 + 1, 1<<31 + 2, 1<<31 + 63, 1<<31 + 64, 1<<31 + 65, 3 << 30}
	for _, far := range l[:len(l):len(l)] {
		l = append(l, -far)
	}
	return l
}

// At each number around the blocks and far from them, where there are none, one and many.
func TestAck(t *testing.T) {
	for _, base := range bases() {
		for _, window := range []int{1, 2, 3, 64} {
			for _, many := range fills(window) {
				var l []uint32
				for x := range uint32(many + 6) {
					l = append(l, base-3+x)
				}
				for _, far := range farAway() {
					l = append(l, base+far, base+uint32(many)+far)
				}
				for _, next := range l {
					b := newBoth(t, base, window)
					b.fill(many)
					b.ack(next)
					b.counts()
					b.ack(next)
					b.look()
					b.add("z", 2, 1)
					b.due(500, 0)
					b.look()
				}
			}
		}
	}
}

// How many are gone, and which ones stay, reckoned from places alone: of many blocks the first i for the number at place i.
func TestAckByPlaces(t *testing.T) {
	for _, base := range bases() {
		for _, window := range windows() {
			for _, many := range fills(window) {
				for i := range many + 1 {
					laid(t, base, window, many, func(b *both) {
						if gone := b.ack(base + uint32(i)); gone != i {
							t.Fatalf("%s: %d, want %d", b.told(), gone, i)
						}
						if b.got.Len() != many-i || b.got.Base() != base+uint32(i) || b.got.Next() != base+uint32(many) {
							t.Fatalf("%s: Len %d, Base %d, Next %d", b.told(), b.got.Len(), b.got.Base(), b.got.Next())
						}
						for x := range many {
							body, _, is := b.got.Body(base + uint32(x))
							if is != (x >= i) || is && body != bodyOf(x) {
								t.Fatalf("%s: Body(%d): %s, %t", b.told(), base+uint32(x), short(body), is)
							}
						}
					})
				}
			}
		}
	}
}

// Of a number that is above the next one, or not above the first one, nothing comes, by hand.
func TestAckOfNone(t *testing.T) {
	for _, base := range bases() {
		for _, many := range []int{0, 1, 2, 63, 64} {
			f := newFlight(t, base, 64)
			for range many {
				f.Add("ab", 3, 4)
			}
			next := base + uint32(many)
			for _, x := range []uint32{next + 1, next + 2, next + 64, next + 1<<31 - 1, next + 1<<31, next + 1<<31 + 1, base, base - 1, base - 64, base + 1<<31, base - 1<<31 + 1, base - 1<<31 + 65} {
				if gone := f.Ack(x); gone != 0 || f.Len() != many || f.Base() != base || f.Next() != next {
					t.Fatalf("base %d, %d blocks, Ack(%d): %d; Len %d, Base %d, Next %d", base, many, x, gone, f.Len(), f.Base(), f.Next())
				}
			}
			if gone := f.Ack(next); gone != many || f.Len() != 0 || f.Base() != next || f.Next() != next {
				t.Fatalf("base %d, %d blocks, Ack(%d): %d; Len %d, Base %d, Next %d", base, many, next, gone, f.Len(), f.Base(), f.Next())
			}
		}
	}
}

// There is room for as many as are gone.
func TestRoomBehindAnAck(t *testing.T) {
	for _, base := range []uint32{0, math.MaxUint32 - 4, 1<<31 - 4} {
		for _, window := range windows() {
			for i := range window + 1 {
				laid(t, base, window, window, func(b *both) {
					b.ack(base + uint32(i))
					for range i {
						if _, err := b.add("new", 7, 77); err != api.OK {
							t.Fatalf("%s: %d, want OK", b.told(), err)
						}
					}
					if _, err := b.add("new", 7, 77); err != api.ErrFull {
						t.Fatalf("%s: %d, want ErrFull", b.told(), err)
					}
					b.end()
				})
			}
		}
	}
}

// Promise 22.1: Wants.

// someMarks are marks, none, some and all, and texts that are none.
func someMarks() []string {
	all := strings.Repeat("\xff", 32)
	l := []string{"", "\x00", all[:31], all + "\xff", strings.Repeat("\x00", 31), strings.Repeat("\x00", 33), strings.Repeat("\x00", 64)}
	l = append(l, marks(), all, marks(0), marks(1), marks(7), marks(8), marks(0, 1), marks(0, 2, 4), marks(253), marks(254), marks(255), marks(0, 254, 255), marks(0, 255))
	l = append(l, marksTo(0, 4), marksTo(0, 8), marksTo(0, 127), marksTo(0, 254), marksTo(0, 255), marksTo(1, 255), marksTo(1, 256), marksTo(2, 250), marksTo(4, 6), marksTo(128, 256))
	d := dice(5)
	for range 6 {
		l = append(l, d.text(32))
	}
	return l
}

// needs are needs at the edges beside these marks and that n.
func needs(have string, n int) []int {
	count := 0
	l, _ := marked(have)
	for _, mark := range l {
		if mark {
			count++
		}
	}
	return []int{-1, 0, 1, 2, count - 1, count, count + 1, count + 2, count + n - 1, count + n, count + n + 1, n - 1, n, n + 1, 254, 255, 256, 511, math.MaxInt, math.MaxInt - 1, math.MinInt, math.MinInt + 1, math.MinInt + count - 1, math.MinInt + count, math.MinInt + count + 1, math.MinInt + 255, math.MaxInt - count, 1 << 32, 1<<32 + 1, -1 << 32, -1<<32 + 3, 1<<31 + 2}
}

func TestWants(t *testing.T) {
	for _, n := range []int{1, 2, 3, 6, 8, 9, 127, 128, 200, 254, 255} {
		for _, base := range []uint32{0, 8, math.MaxUint32} {
			b := newBoth(t, base, 3)
			b.add("gone", n, 5)
			b.ack(b.want.next)
			b.add("first", 12, 5)
			b.add("second", n, 5)
			for _, have := range someMarks() {
				for _, need := range needs(have, n) {
					// One that is gone, one of another n, the one of n, and one that is not yet sent.
					for x := range uint32(4) {
						b.wants(base+x, have, need)
					}
				}
			}
			b.counts()
			b.end()
		}
	}
}

// Of n shards, those of the first places are told that no mark says came, so many as need is more than the marks: by hand, from places alone.
func TestWantsByPlaces(t *testing.T) {
	for _, n := range []int{1, 2, 5, 64, 254, 255} {
		f := newFlight(t, 3, 1)
		f.Add("ab", n, 0)
		for had := range min(n, 70) + 1 {
			for _, need := range []int{-1, 0, 1, had - 1, had, had + 1, had + 2, n, n + 1, n + had, 255, 600} {
				var want []api.Send
				for i := had; i < n && i < need; i++ {
					want = append(want, api.Send{Block: 3, Index: i})
				}
				if l := f.Wants(3, marksTo(0, had), need); !slices.Equal(l, want) {
					t.Fatalf("n %d, the first %d had, need %d: %v, want %v", n, had, need, l, want)
				}
			}
		}
	}
}

// Marks past n count, though no such place is told.
func TestMarksPastN(t *testing.T) {
	h := hand{t, newFlight(t, 0, 1)}
	h.add("ab", 4, 0, 0, api.OK)
	for _, past := range []int{4, 5, 100, 254, 255} {
		h.wants(0, marks(past), 0)
		h.wants(0, marks(past), 1)
		h.wants(0, marks(past), 2, 0)
		h.wants(0, marks(past, 0), 3, 1)
		h.wants(0, marks(past), 5, 0, 1, 2, 3)
		h.wants(0, marks(past), 9, 0, 1, 2, 3)
	}
	h.wants(0, strings.Repeat("\xff", 32), 300)
	h.wants(0, marksTo(4, 256), 255, 0, 1, 2)
	h.wants(0, marksTo(4, 256), 256, 0, 1, 2, 3)
}

// Each mark by itself, and all but it.
func TestWantsOfEachMark(t *testing.T) {
	for _, n := range []int{1, 7, 255} {
		b := newBoth(t, 1, 1)
		b.add("ab", n, 0)
		for i := range 256 {
			but := []byte(strings.Repeat("\xff", 32))
			but[i/8] &^= 1 << (i % 8)
			for _, need := range []int{1, 2, 3, 255, 256, 257} {
				b.wants(1, marks(i), need)
				b.wants(1, string(but), need)
			}
		}
	}
}

// What is wanted is wanted once more: asking changes nothing, in what is due neither.
func TestWantsChangesNothing(t *testing.T) {
	for _, many := range []int{0, 1, 3, 64} {
		laid(t, math.MaxUint32-1, 64, many, func(b *both) {
			for range 3 {
				for _, x := range b.near() {
					b.wants(x, marks(1), 3)
				}
			}
			b.due(60, 20)
			b.end()
		})
	}
}

// Promise 22.1: Due.

// Which times may be is written out: of each other nothing is told, and no time is another one.
func TestDueAtTheEdges(t *testing.T) {
	for _, wait := range []int{-1, lastTime + 1, math.MaxInt, math.MinInt, math.MinInt + 1, -lastTime} {
		for _, now := range []int{-1, 0, 5, lastTime, lastTime + 1, math.MaxInt, math.MinInt} {
			h := hand{t, newFlight(t, 0, 2)}
			h.add("a", 1, 0, 0, api.OK)
			h.due(now, wait)
			h.due(4, 4, 0)
		}
	}
	for _, now := range []int{-1, lastTime + 1, math.MaxInt, math.MinInt, math.MinInt + 1, -lastTime} {
		for _, wait := range []int{0, 5, lastTime} {
			h := hand{t, newFlight(t, 0, 2)}
			h.add("a", 1, 0, 0, api.OK)
			h.due(now, wait)
			h.due(4, 4, 0)
		}
	}
	h := hand{t, newFlight(t, 0, 2)}
	h.add("a", 1, 0, 0, api.OK)
	h.add("b", 1, lastTime, 1, api.OK)
	h.due(0, 0, 0)
	h.due(0, 1)
	h.due(0, lastTime)
	h.due(lastTime-1, lastTime)
	h.due(lastTime, lastTime, 0)
	h.due(lastTime, lastTime)
	h.due(lastTime, 1)
	h.due(lastTime, 0, 0, 1)
	h.due(lastTime, 0, 0, 1)
	h.due(0, 0)
}

// Each time beside each wait, for blocks of unlike times, and what is due behind it.
func TestDue(t *testing.T) {
	times := []int{-1, 0, 1, 2, 19, 20, 21, 40, lastTime / 2, lastTime - 20, lastTime - 1, lastTime, lastTime + 1, math.MaxInt, math.MinInt}
	waits := []int{-1, 0, 1, 2, 19, 20, 21, 40, lastTime / 2, lastTime - 1, lastTime, lastTime + 1, math.MaxInt, math.MinInt}
	rows := [][]int{{}, {0}, {1}, {20}, {lastTime}, {0, 0}, {20, 20, 20}, {0, 20, 40}, {40, 20, 0}, {20, 0, 40, 1, 19, 21}, {lastTime, 0, lastTime - 1, lastTime / 2}}
	for _, row := range rows {
		for _, now := range times {
			for _, wait := range waits {
				b := newBoth(t, math.MaxUint32-1, 6)
				for _, at := range row {
					b.add("ab", 3, at)
				}
				b.due(now, wait)
				b.counts()
				b.due(now, wait)
				b.due(now, 0)
				b.due(now, wait)
				b.end()
			}
		}
	}
}

// One that was due is not due again ahead of wait, however often it is asked, and then it is.
func TestDueAgain(t *testing.T) {
	for _, wait := range []int{0, 1, 2, 8, 1000} {
		for _, at := range []int{0, 5, 100} {
			f, last := newFlight(t, 9, 1), at
			f.Add("a", 1, at)
			for now := range 3*wait + 250 {
				l := f.Due(now, wait)
				is := now-last >= wait
				if is {
					last = now
				}
				if is != slices.Equal(l, []uint32{9}) || !is && len(l) != 0 {
					t.Fatalf("sent at %d, wait %d, now %d: %v", at, wait, now, l)
				}
			}
		}
	}
}

// The first block is told first, whichever was sent first; and a time that goes back counts as well.
func TestDueIsInOrder(t *testing.T) {
	for _, base := range bases() {
		for _, times := range [][]int{{1, 2, 3}, {3, 2, 1}, {2, 1, 3}, {2, 3, 1}, {2, 2, 2}, {3, 1, 3}} {
			for _, now := range []int{0, 1, 2, 3, 4} {
				b := newBoth(t, base, 4)
				for _, at := range times {
					b.add("x", 2, at)
				}
				b.due(now, 0)
				b.due(3, 1)
				b.due(2, 0)
				b.due(1, 1)
				b.due(3, 0)
				b.due(4, 1)
				b.end()
			}
		}
	}
}

// Blocks that are gone are not due, and those that come behind them are at their own times.
func TestDueBehindAnAck(t *testing.T) {
	for _, base := range []uint32{0, math.MaxUint32 - 2} {
		for i := range uint32(5) {
			b := newBoth(t, base, 4)
			b.fill(4)
			b.due(50, 30)
			b.ack(base + i)
			b.due(60, 20)
			b.add("late", 5, 61)
			b.add("later", 5, 33)
			b.due(70, 10)
			b.due(71, 10)
			b.end()
		}
	}
}

// What is refused, and what is asked, leaves all times as they were.
func TestTimesStay(t *testing.T) {
	b := newBoth(t, 0, 3)
	for _, at := range []int{10, 20, 30} {
		b.add("x", 2, at)
	}
	for range 2 {
		b.add("x", 2, 99)
		b.add("", 2, 99)
		b.due(-1, 0)
		b.due(lastTime+1, 0)
		b.due(99, -1)
		b.due(9, 0)
		b.due(29, 20)
		b.ack(4)
		b.look()
	}
	b.due(30, 20)
	b.due(30, 10)
	b.due(30, 0)
}

// Promise 22.1: Body, Next, Base and Len.

func TestBody(t *testing.T) {
	for _, base := range bases() {
		for _, window := range windows() {
			for _, many := range fills(window) {
				laid(t, base, window, many, func(b *both) {
					b.look()
					for _, far := range farAway() {
						b.body(base + far)
						b.body(b.want.next + far)
						b.wants(base+far, marks(), 3)
					}
					b.end()
				})
			}
		}
	}
}

// Wherever blocks are: the first one's number is as far ahead of the next one's as there are blocks.
func TestBaseAndNext(t *testing.T) {
	d := dice(8)
	for _, base := range bases() {
		f, gone, sent := newFlight(t, base, 64), 0, 0
		for range 300 {
			if d.below(3) > 0 {
				if _, err := f.Add("ab", 3, 4); err == api.OK {
					sent++
				}
			} else {
				gone += f.Ack(base + uint32(gone+d.below(sent-gone+1)))
			}
			if f.Len() != sent-gone || f.Base() != base+uint32(gone) || f.Next() != base+uint32(sent) {
				t.Fatalf("base %d, %d sent and %d gone: Len %d, Base %d, Next %d", base, sent, gone, f.Len(), f.Base(), f.Next())
			}
		}
	}
}

// Promise 22.1: many calls of all kinds.

// one makes one of the kinds of calls.
func (b *both) one(i int) {
	b.t.Helper()
	base, next := b.want.base(), b.want.next
	switch i {
	case 0:
		b.add("ab", 3, 2)
	case 1:
		b.add("c", 255, 0)
	case 2:
		b.add("", 1, 0)
	case 3:
		b.ack(base + 1)
	case 4:
		b.ack(next)
	case 5:
		b.ack(next + 1)
	case 6:
		b.due(1, 0)
	case 7:
		b.due(3, 1)
	case 8:
		b.due(4, 2)
	}
	b.counts()
}

func TestEachRowOfCalls(t *testing.T) {
	const kinds = 9
	for _, x := range []struct {
		base           uint32
		window, length int
	}{{0, 1, 4}, {0, 2, 5}, {math.MaxUint32, 2, 4}, {math.MaxUint32 - 1, 3, 4}, {1<<31 - 1, 3, 4}, {5, 64, 3}} {
		all := 1
		for range x.length {
			all *= kinds
		}
		for row := range all {
			b := newBoth(t, x.base, x.window)
			for range x.length {
				b.one(row % kinds)
				row /= kinds
			}
			b.end()
		}
	}
}

// mix makes many calls, the next one by chance of a fixed seed.
func mix(t *testing.T, base uint32, window, many int, seed uint64) {
	t.Helper()
	b, d := newBoth(t, base, window), dice(seed)
	now, comes := 0, 5
	some := someInts()
	for range many {
		near := b.want.base() + uint32(d.below(window+4)) - 2
		switch turn := d.below(20); {
		case turn < comes:
			b.add(d.text(d.below(20)), d.below(258), now)
		case turn < 8:
			b.ack(near)
		case turn < 11:
			b.due(now, d.below(30))
		case turn < 14:
			b.wants(near, d.text(32), d.below(280))
		case turn < 16:
			b.body(near)
		case turn == 16:
			b.add("ab", some[d.below(len(some))], some[d.below(len(some))])
		case turn == 17:
			b.due(some[d.below(len(some))], some[d.below(len(some))])
		case turn == 18:
			b.ack(b.want.next + farAway()[d.below(len(farAway()))])
		default:
			comes = 1 + d.below(8)
			now = max(0, now+d.below(40)-8)
		}
		if d.below(2) == 0 {
			b.counts()
		}
	}
	b.end()
}

func TestMixed(t *testing.T) {
	for seed := range uint64(12) {
		for _, window := range windows() {
			for _, base := range []uint32{0, 1<<31 - 20, math.MaxUint32 - 20, uint32(seed * 99991)} {
				mix(t, base, window, 300, seed+1)
			}
		}
	}
}

// R4 and R5: what was answered stays as it was, and hangs on what was done to the same flight alone.

// Whoever got a list may write to it, and neither the flight nor another list sees it.
func TestAnswersAreNewMemory(t *testing.T) {
	b := newBoth(t, math.MaxUint32, 4)
	b.fill(4)
	block := b.want.base()
	first, second := b.wants(block+1, marks(2), 9), b.wants(block+1, marks(2), 9)
	for i := range first {
		first[i] = api.Send{Block: 77, Index: 77}
	}
	clear(append(first, first...))
	if want := b.want.wants(block+1, marks(2), 9); !slices.Equal(second, want) {
		t.Errorf("Wants: %v, want %v", second, want)
	}
	b.wants(block+1, marks(2), 9)
	due, again := b.due(500, 0), b.due(500, 0)
	clear(due)
	if want := []uint32{block, block + 1, block + 2, block + 3}; !slices.Equal(again, want) {
		t.Errorf("Due: %v, want %v", again, want)
	}
	b.due(500, 0)
	b.end()
}

func TestAnswersStay(t *testing.T) {
	b, d := newBoth(t, 0, 8), dice(4)
	var dues, dueCopies [][]uint32
	var wants, wantCopies [][]api.Send
	var bodies, bodyCopies []string
	for i := range 1000 {
		b.add(d.text(1+d.below(9)), 1+d.below(255), i)
		x := b.want.base() + uint32(d.below(8))
		l, due := b.wants(x, d.text(32), 200), b.due(i, d.below(9))
		body, _, _ := b.got.Body(x)
		wants, wantCopies = append(wants, l), append(wantCopies, slices.Clone(l))
		dues, dueCopies = append(dues, due), append(dueCopies, slices.Clone(due))
		bodies, bodyCopies = append(bodies, body), append(bodyCopies, strings.Clone(body))
		if d.below(3) == 0 {
			b.ack(x)
		}
	}
	b.end()
	for i := range wants {
		if !slices.Equal(wants[i], wantCopies[i]) || !slices.Equal(dues[i], dueCopies[i]) || bodies[i] != bodyCopies[i] {
			t.Fatalf("what was answered at %d is another now", i)
		}
	}
}

func TestTwoFlightsShareNothing(t *testing.T) {
	for _, x := range []struct {
		base, other uint32
		window, one int
	}{{0, 0, 1, 1}, {0, 0, 64, 64}, {math.MaxUint32, 5, 3, 7}, {1 << 31, 1<<31 + 1, 2, 64}} {
		first, second := newBoth(t, x.base, x.window), newBoth(t, x.other, x.one)
		first.fill(x.window)
		second.look()
		second.fill(x.one - 1)
		for i := range 40 {
			first.ack(first.want.base() + uint32(i%3))
			second.look()
			second.due(10*i, i%7)
			first.look()
			first.add("first", 2+i, 10*i)
			second.look()
			second.add("second", 3+i, 9*i)
			first.due(9*i, 4)
			second.ack(second.want.base() + uint32(i%2))
			first.counts()
			second.counts()
		}
		first.end()
		second.end()
	}
}

// R5: the same calls are answered alike, however often they are made.
func TestTheSameOnceMore(t *testing.T) {
	row := func() string {
		f, d, told := newFlight(t, math.MaxUint32-100, 16), dice(9), ""
		for i := range 500 {
			x, err := f.Add(d.text(d.below(5)), d.below(12), i)
			told += number(x) + "," + strconv.Itoa(int(err))
			for _, x := range f.Due(i, d.below(20)) {
				told += "," + number(x)
			}
			for _, s := range f.Wants(f.Base()+uint32(d.below(5)), marks(d.below(6)), d.below(9)) {
				told += "," + number(s.Block) + "/" + strconv.Itoa(s.Index)
			}
			told += "," + strconv.Itoa(f.Ack(f.Base()+uint32(d.below(3)))) + ";"
		}
		return told
	}
	if first := row(); row() != first || row() != first {
		t.Error("the same calls were answered in another way")
	}
}

// Blocks that are gone are not kept: their memory is free for others.
func TestGoneBlocksAreNotKept(t *testing.T) {
	const size = 1 << 20
	f := newFlight(t, 0, 64)
	held := func() int {
		var m runtime.MemStats
		runtime.GC()
		runtime.ReadMemStats(&m)
		return int(m.HeapAlloc)
	}
	before := held()
	for range 64 {
		f.Add(string(make([]byte, size)), 1, 0)
	}
	if many := held() - before; many < 60*size {
		t.Fatalf("%d bytes are held of 64 blocks of %d", many, size)
	}
	if gone := f.Ack(63); gone != 63 {
		t.Fatalf("Ack(63): %d, want 63", gone)
	}
	if many := held() - before; many > 8*size {
		t.Errorf("%d bytes are held of one block of %d", many, size)
	}
	if f.Len() != 1 {
		t.Errorf("Len: %d, want 1", f.Len())
	}
}

// R1: on nil nothing happens, and all answers are none.

func wantNothing(t *testing.T, f *flight.Flight) {
	t.Helper()
	for _, x := range []uint32{0, 1, math.MaxUint32, 1 << 31, 1<<31 + 1, 1<<31 - 1} {
		if gone := f.Ack(x); gone != 0 {
			t.Errorf("nil: Ack(%d): %d, want 0", x, gone)
		}
		if body, n, is := f.Body(x); body != "" || n != 0 || is {
			t.Errorf("nil: Body(%d): %q, %d, %t, want none", x, body, n, is)
		}
		for _, have := range someMarks() {
			for _, need := range []int{-1, 0, 1, 255, math.MaxInt, math.MinInt} {
				if l := f.Wants(x, have, need); len(l) != 0 {
					t.Errorf("nil: Wants(%d, %s, %d): %v, want none", x, short(have), need, l)
				}
			}
		}
	}
	for _, n := range someInts() {
		for _, at := range someInts() {
			for _, body := range []string{"", "a", "\xff\x00"} {
				if x, err := f.Add(body, n, at); x != 0 || err != api.ErrNil {
					t.Errorf("nil: Add(%q, %d, %d): %d, %d, want 0, ErrNil", body, n, at, x, err)
				}
			}
			if l := f.Due(n, at); len(l) != 0 {
				t.Errorf("nil: Due(%d, %d): %v, want none", n, at, l)
			}
		}
	}
	if f.Next() != 0 || f.Base() != 0 || f.Len() != 0 {
		t.Errorf("nil: Next %d, Base %d, Len %d, want 0, 0, 0", f.Next(), f.Base(), f.Len())
	}
}

func TestNil(t *testing.T) {
	wantNothing(t, nil)
	refused, _ := flight.New(7, 0)
	wantNothing(t, refused)
	b := newBoth(t, 2, 3)
	b.fill(3)
	wantNothing(t, nil)
	b.end()
}

// The chapter lists eight calls on a flight, and it has no others.
func TestNoOtherCalls(t *testing.T) {
	var got []string
	is := reflect.TypeFor[*flight.Flight]()
	for i := range is.NumMethod() {
		got = append(got, is.Method(i).Name)
	}
	if want := []string{"Ack", "Add", "Base", "Body", "Due", "Len", "Next", "Wants"}; !slices.Equal(got, want) {
		t.Errorf("%v, want %v", got, want)
	}
}
