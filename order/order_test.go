package order_test

import (
	"math"
	"reflect"
	"runtime"
	"slices"
	"strconv"
	"strings"
	"testing"

	"lightship/api"
	"lightship/order"
)

// Promise 23.1: New.

// wantNone: there is no order of that window.
func wantNone(t *testing.T, base uint32, window int) {
	t.Helper()
	if o, err := order.New(base, window); o != nil || err != api.ErrArg {
		t.Errorf("New(%d, %d): %v, %d, want nil, ErrArg", base, window, o, err)
	}
}

// wantEmpty: there is an order in which nothing waits, from base on.
func wantEmpty(t *testing.T, base uint32, window int) {
	t.Helper()
	o := newOrder(t, base, window)
	for range 2 {
		if o.Base() != base || o.Len() != 0 {
			t.Errorf("New(%d, %d): Base %d, Len %d, want %d, 0", base, window, o.Base(), o.Len(), base)
		}
		for far := -70; far <= 70; far++ {
			if x := more(base, far); o.Has(x) {
				t.Errorf("New(%d, %d): Has(%d)", base, window, x)
			}
		}
		for _, room := range []int{0, 1, math.MaxInt} {
			if body, is := o.Next(room); body != "" || is {
				t.Errorf("New(%d, %d): Next(%d): %q, %t, want none", base, window, room, body, is)
			}
		}
	}
}

// Which windows may be is written out.
func TestNewAtTheEdges(t *testing.T) {
	for _, base := range []uint32{0, 1, 1<<31 - 1, 1 << 31, math.MaxUint32} {
		for _, window := range []int{-1, 0, 65, math.MaxInt, math.MinInt} {
			wantNone(t, base, window)
		}
		for _, window := range []int{1, 64} {
			wantEmpty(t, base, window)
		}
	}
}

func TestNewOfEachWindow(t *testing.T) {
	l := farInts()
	for window := -300; window <= 600; window++ {
		l = append(l, window)
	}
	for _, window := range l {
		for _, base := range bases() {
			if may(window) {
				wantEmpty(t, base, window)
			} else {
				wantNone(t, base, window)
			}
		}
	}
}

// Just window bodies may wait, from base on, in whichever order they come.
func TestEachWindowIsFilled(t *testing.T) {
	for window := 1; window <= 64; window++ {
		for _, base := range bases() {
			for _, down := range []bool{false, true} {
				b := newBoth(t, base, window)
				for i := range window {
					if down {
						i = window - 1 - i
					}
					b.lay(i)
				}
				b.put(more(base, window), "x")
				b.put(more(base, -1), "x")
				if b.got.Len() != window {
					t.Fatalf("%s: Len %d", b.told(), b.got.Len())
				}
				b.end()
			}
		}
	}
}

// Promise 23.1: the chapter's example, and some answers written out.

// hand is an order whose answers are written out.
type hand struct {
	t *testing.T
	o *order.Order
}

func (h hand) put(x uint32, body string, want int) {
	h.t.Helper()
	if got := h.o.Put(x, body); got != want {
		h.t.Errorf("Put(%d, %q): %d, want %d", x, body, got, want)
	}
}

func (h hand) next(room int, want string) {
	h.t.Helper()
	if body, is := h.o.Next(room); body != want || !is {
		h.t.Errorf("Next(%d): %q, %t, want %q, true", room, body, is, want)
	}
}

func (h hand) none(room int) {
	h.t.Helper()
	if body, is := h.o.Next(room); body != "" || is {
		h.t.Errorf("Next(%d): %q, %t, want none", room, body, is)
	}
}

func (h hand) counts(base uint32, many int) {
	h.t.Helper()
	if h.o.Base() != base || h.o.Len() != many {
		h.t.Errorf("Base %d, Len %d, want %d, %d", h.o.Base(), h.o.Len(), base, many)
	}
}

func (h hand) has(l ...uint32) {
	h.t.Helper()
	for _, x := range l {
		if !h.o.Has(x) {
			h.t.Errorf("Has(%d): false, want true", x)
		}
	}
}

func (h hand) hasNot(l ...uint32) {
	h.t.Helper()
	for _, x := range l {
		if h.o.Has(x) {
			h.t.Errorf("Has(%d): true, want false", x)
		}
	}
}

// The example names neither base nor window: they are 0, and two at least.
func TestExample(t *testing.T) {
	for window := 2; window <= 64; window++ {
		h := hand{t, newOrder(t, 0, window)}
		h.put(1, "b", 3)
		h.put(0, "a", 3)
		h.counts(0, 2)
		h.next(1, "a")
		h.next(1, "b")
		h.none(1)
		h.counts(2, 0)
	}
}

func TestByHand(t *testing.T) {
	h := hand{t, newOrder(t, 5, 3)}
	h.counts(5, 0)
	h.none(100)
	h.put(4, "x", 0)
	h.put(4, "", 0)
	h.put(0, "x", 0)
	h.put(8, "x", 1)
	h.put(8, "", 1)
	h.put(5, "", 4)
	h.put(6, "", 4)
	h.put(7, "", 4)
	h.hasNot(4, 5, 6, 7, 8)
	h.counts(5, 0)
	h.put(7, "\x00\x80\xff", 3)
	h.put(7, "\x00\x80\xff", 2)
	h.put(7, "other", 2)
	h.put(7, "", 2)
	h.counts(5, 1)
	h.has(7)
	h.hasNot(4, 5, 6, 8)
	h.none(100)
	h.put(5, "ab", 3)
	h.counts(5, 2)
	h.has(5, 7)
	h.hasNot(4, 6, 8)
	h.none(-1)
	h.none(0)
	h.none(1)
	h.counts(5, 2)
	h.next(2, "ab")
	h.counts(6, 1)
	h.hasNot(5, 6, 8)
	h.has(7)
	h.put(5, "ab", 0)
	h.put(9, "x", 1)
	h.put(8, "d", 3)
	h.none(100)
	h.put(6, "c", 3)
	h.counts(6, 3)
	h.next(1, "c")
	h.none(2)
	h.counts(7, 2)
	h.next(3, "\x00\x80\xff")
	h.next(1000, "d")
	h.none(1000)
	h.counts(9, 0)
	h.put(8, "d", 0)
	h.hasNot(5, 6, 7, 8, 9)
}

// Numbers go round at 2^32.
func TestByHandAround(t *testing.T) {
	h := hand{t, newOrder(t, 4294967294, 4)}
	h.counts(4294967294, 0)
	h.put(4294967293, "x", 0)
	h.put(2147483647, "x", 0)
	h.put(2147483646, "x", 1)
	h.put(2147483645, "x", 1)
	h.put(2, "x", 1)
	h.put(1, "d", 3)
	h.put(4294967295, "b", 3)
	h.put(0, "c", 3)
	h.put(0, "x", 2)
	h.none(9)
	h.counts(4294967294, 3)
	h.has(4294967295, 0, 1)
	h.hasNot(4294967293, 4294967294, 2, 3)
	h.put(4294967294, "a", 3)
	h.next(1, "a")
	h.counts(4294967295, 3)
	h.next(1, "b")
	h.counts(0, 2)
	h.put(4294967295, "x", 0)
	h.put(4294967294, "x", 0)
	h.put(3, "f", 3)
	h.put(4, "x", 1)
	h.next(1, "c")
	h.next(1, "d")
	h.none(1)
	h.counts(2, 1)
	h.put(4294967295, "x", 0)
	h.put(2, "e", 3)
	h.next(1, "e")
	h.next(1, "f")
	h.counts(4, 0)
}

// Promise 23.1: Put.

// Of each number around the window and far from it, with a body and without one, where none, some and all wait.
func TestPut(t *testing.T) {
	for _, base := range bases() {
		for _, window := range windows() {
			fars := farAway()
			for far := -66; far <= window+66; far++ {
				fars = append(fars, far)
			}
			for _, places := range [][]int{{}, {0}, {window - 1}, odd(window), all(window)} {
				for _, far := range fars {
					b := newBoth(t, base, window)
					b.lay(places...)
					x := more(base, far)
					b.put(x, "")
					b.counts()
					b.put(x, "\x00\xff")
					b.counts()
					b.put(x, "\x00\xff")
					b.put(x, "another")
					b.put(x, "")
					b.counts()
					b.has(x)
					b.next(2)
					b.next(99)
					b.put(x, "late")
					b.put(x, "")
					b.counts()
				}
			}
		}
	}
}

// odd are all odd places of a window, all are all.
func odd(window int) []int {
	return slices.DeleteFunc(all(window), func(place int) bool { return place%2 == 0 })
}

func all(window int) []int {
	l := make([]int, window)
	for i := range l {
		l[i] = i
	}
	return l
}

// Which answer it is, written out by how far the number is from base, and in which order they are asked.
func TestPutByPlaces(t *testing.T) {
	for _, base := range bases() {
		for _, window := range windows() {
			for _, x := range []struct{ far, want int }{{-1, 0}, {-2, 0}, {-64, 0}, {-65, 0}, {-1<<31 + 1, 0}, {1<<31 + 1, 0}, {1<<31 + 2, 0}, {window, 1}, {window + 1, 1}, {64, 1}, {65, 1}, {1 << 30, 1}, {1<<31 - 1, 1}, {1 << 31, 1}, {-1 << 31, 1}} {
				h := hand{t, newOrder(t, base, window)}
				h.put(base, "first", 3)
				h.put(more(base, x.far), "body", x.want)
				h.put(more(base, x.far), "", x.want)
				h.hasNot(more(base, x.far))
				h.counts(base, 1)
				h.next(5, "first")
				h.none(5)
				h.counts(more(base, 1), 0)
			}
			for place := range window {
				h := hand{t, newOrder(t, base, window)}
				h.put(more(base, place), "", 4)
				h.counts(base, 0)
				h.put(more(base, place), "body", 3)
				h.put(more(base, place), "", 2)
				h.put(more(base, place), "other", 2)
				h.put(more(base, place), "body", 2)
				h.counts(base, 1)
				h.has(more(base, place))
			}
		}
	}
}

// Beside each answer but 3 nothing has changed: all is looked at, and all that waits comes out.
func TestPutThatIsRefused(t *testing.T) {
	for _, base := range []uint32{0, 1<<31 - 2, math.MaxUint32 - 1} {
		for _, window := range windows() {
			for _, places := range [][]int{{}, {0}, {window - 1}, odd(window), all(window)} {
				fars := append(farAway(), -1, -2, window, window+1)
				for far := range window {
					fars = append(fars, far)
				}
				for _, far := range fars {
					for _, body := range []string{"", "x"} {
						b := newBoth(t, base, window)
						b.lay(places...)
						if b.put(more(base, far), body) != waiting {
							b.look()
							b.put(more(base, far), body)
						}
						b.end()
					}
				}
			}
		}
	}
}

// A number comes anew while its body waits, and once it is gone, and once it may wait again.
func TestPutAnew(t *testing.T) {
	for _, base := range bases() {
		for _, window := range windows() {
			for place := range window {
				moved(t, base, window, func(b *both) {
					x := more(base, place)
					b.put(x, "body")
					for _, body := range []string{"body", "bodx", "bod", "body ", "x", ""} {
						b.put(x, body)
						b.counts()
					}
					for i := range place {
						b.put(more(base, i), "ahead")
					}
					for range place {
						b.next(5)
					}
					if body, is := b.next(4); body != "body" || !is {
						t.Fatalf("%s: %q, %t", b.told(), body, is)
					}
					for _, body := range []string{"body", "bodx", ""} {
						if is := b.put(x, body); is != old {
							t.Fatalf("%s: %d, want 0", b.told(), is)
						}
						b.counts()
					}
					b.look()
				})
			}
		}
	}
}

// Bodies of each value of byte, and long ones: an order asks no more of them than that there is a byte.
func TestBodies(t *testing.T) {
	d := dice(3)
	var l []string
	for i := range 256 {
		l = append(l, string([]byte{byte(i)}), string([]byte{byte(i), 0}), string([]byte{0, byte(i), 255}))
	}
	for _, size := range []int{2, 255, 256, 1023, 1024, 1025, 32767, 32768, 32769, 1 << 20, 3<<20 + 1} {
		l = append(l, d.text(size), strings.Repeat("\x00", size))
	}
	l = append(l, "\u00e4\u20ac\U0001f6a2", "\xff\xfe\xc3\x28", "\r\n\t \"\\'", "a", "a")
	b := newBoth(t, math.MaxUint32-300, 64)
	for start := 0; start < len(l); start += 64 {
		part := l[start:min(start+64, len(l))]
		for i := range part {
			i = (i*7 + 3) % 64
			if i < len(part) {
				b.put(more(b.want.base, i), part[i])
			}
		}
		for i := range part {
			b.put(more(b.want.base, i), part[i])
		}
		b.counts()
		for i, body := range part {
			b.next(len(body) - 1)
			if got, is := b.next(len(body)); got != body || !is {
				t.Fatalf("%s: %s, %t, want %s at %d", b.told(), short(got), is, short(body), start+i)
			}
		}
	}
	b.end()
}

// Promise 23.1: Next.

// Each room, with a body of base that waits and with none, alone and with others behind it.
func TestNext(t *testing.T) {
	for _, base := range bases() {
		for _, window := range []int{1, 2, 3, 64} {
			rows := [][]int{{}, {0}, {window - 1}, all(window), all(window)[1:], odd(window)}
			for _, places := range rows {
				for _, size := range []int{1, 2, 9, 300} {
					for _, room := range rooms(size) {
						b := newBoth(t, base, window)
						for _, place := range places {
							b.put(more(base, place), strings.Repeat(string([]byte{byte('a' + place)}), size))
						}
						if _, is := b.next(room); is {
							b.counts()
						} else {
							b.look()
						}
						b.next(room)
						b.next(size)
						b.counts()
					}
				}
			}
		}
	}
}

// Which rooms are enough is written out.
func TestNextByRooms(t *testing.T) {
	for _, base := range bases() {
		for _, size := range []int{1, 2, 3, 255, 256, 1000, 65536} {
			for _, others := range []int{0, 1, 5, 63} {
				body := strings.Repeat("\x80", size)
				lay := func() hand {
					h := hand{t, newOrder(t, base, 64)}
					for i := range others {
						h.put(more(base, others-i), "x", 3)
					}
					return h
				}
				for _, room := range []int{size, size + 1, math.MaxInt} {
					h := lay()
					h.none(room)
					h.put(base, body, 3)
					for _, less := range []int{math.MinInt, -1, 0, size - 1, -size} {
						h.none(less)
						h.counts(base, others+1)
						h.has(base)
					}
					h.next(room, body)
					h.counts(more(base, 1), others)
					h.hasNot(base)
					for i := range others {
						h.none(0)
						h.next(1, "x")
						h.counts(more(base, 2+i), others-1-i)
					}
					h.none(math.MaxInt)
				}
			}
		}
	}
}

// The base goes on by one for each that comes out, once round at the edges, and the window with it.
func TestBaseGoesRound(t *testing.T) {
	for _, base := range bases() {
		for _, window := range windows() {
			b := newBoth(t, base, window)
			for i := range 3*window + 70 {
				b.put(more(base, i+window), "past")
				b.put(more(base, i+window-1), "last")
				b.put(more(base, i), "first")
				b.put(more(base, i-1), "old")
				body, is := b.next(5)
				want := "last"
				if i < window-1 {
					want = "first"
				}
				if body != want || !is || b.got.Base() != more(base, i+1) {
					t.Fatalf("%s: %q, %t, Base %d, want %q, true, %d", b.told(), body, is, b.got.Base(), want, more(base, i+1))
				}
				b.counts()
			}
			b.end()
		}
	}
}

// Promise 23.1: Base, Has and Len.

func TestHas(t *testing.T) {
	for _, base := range bases() {
		for _, window := range windows() {
			for _, places := range [][]int{{}, {0}, {window - 1}, {window / 2}, odd(window), all(window)} {
				moved(t, base, window, func(b *both) {
					b.lay(places...)
					b.look()
					for range places {
						b.next(99)
						b.look()
					}
				})
			}
		}
	}
}

// Each choice of places of a small window, and some of the greatest one: just those wait, and as many.
func TestEachChoiceWaits(t *testing.T) {
	d := dice(6)
	for window := 1; window <= 7; window++ {
		for choice := range 1 << window {
			choiceWaits(t, math.MaxUint32-2, window, uint64(choice))
			choiceWaits(t, 1<<31-2, window, uint64(choice))
		}
	}
	for range 300 {
		choiceWaits(t, math.MaxUint32-31, 64, uint64(d.below(1<<31))<<33|uint64(d.below(1<<31))<<15|uint64(d.below(1<<15)))
	}
}

func choiceWaits(t *testing.T, base uint32, window int, choice uint64) {
	t.Helper()
	o, many := newOrder(t, base, window), 0
	for i := range window {
		if choice>>i&1 == 1 {
			many++
			if is := o.Put(more(base, i), bodyOf(i)); is != waiting {
				t.Fatalf("window %d, choice %b: Put of place %d: %d", window, choice, i, is)
			}
		}
	}
	if o.Len() != many || o.Base() != base {
		t.Fatalf("window %d, choice %b: Len %d, Base %d, want %d, %d", window, choice, o.Len(), o.Base(), many, base)
	}
	for i := range window {
		if o.Has(more(base, i)) != (choice>>i&1 == 1) {
			t.Fatalf("window %d, choice %b: Has of place %d", window, choice, i)
		}
	}
	out := 0
	for choice>>out&1 == 1 && out < window {
		if body, is := o.Next(99); body != bodyOf(out) || !is {
			t.Fatalf("window %d, choice %b: Next: %q, %t", window, choice, body, is)
		}
		out++
	}
	if body, is := o.Next(99); body != "" || is || o.Len() != many-out || o.Base() != more(base, out) {
		t.Fatalf("window %d, choice %b: Next %q, %t, Len %d, Base %d", window, choice, body, is, o.Len(), o.Base())
	}
}

// Promise 23.1: many calls of all kinds.

// one makes one of the kinds of calls.
func (b *both) one(i int) {
	b.t.Helper()
	base, window := b.want.base, b.want.window
	switch i {
	case 0:
		b.put(base, "ab")
	case 1:
		b.put(more(base, 1), "c")
	case 2:
		b.put(more(base, window-1), "defg")
	case 3:
		b.put(more(base, window), "x")
	case 4:
		b.put(more(base, -1), "x")
	case 5:
		b.put(base, "")
	case 6:
		b.next(1)
	case 7:
		b.next(4)
	}
	b.counts()
}

func TestEachRowOfCalls(t *testing.T) {
	const kinds = 8
	for _, x := range []struct {
		base           uint32
		window, length int
	}{{0, 1, 4}, {0, 2, 5}, {math.MaxUint32, 2, 5}, {math.MaxUint32 - 1, 3, 5}, {1<<31 - 1, 3, 5}, {5, 64, 4}} {
		many := 1
		for range x.length {
			many *= kinds
		}
		for row := range many {
			b := newBoth(t, x.base, x.window)
			for range x.length {
				b.one(row % kinds)
				row /= kinds
			}
			b.look()
			for range x.length {
				b.next(4)
			}
			b.end()
		}
	}
}

// mix makes many calls, the next one by chance of a fixed seed.
func mix(t *testing.T, base uint32, window, many int, seed uint64) {
	t.Helper()
	b, d := newBoth(t, base, window), dice(seed)
	fars, some, comes := farAway(), rooms(4), 5
	for range many {
		near := more(b.want.base, d.below(window+6)-3)
		switch turn := d.below(20); {
		case turn < comes:
			b.put(near, d.text(1+d.below(20)))
		case turn < 9:
			b.put(b.want.base, d.text(d.below(9)))
		case turn < 13:
			b.next(d.below(22))
		case turn < 15:
			b.has(near)
		case turn == 15:
			b.put(near, "")
		case turn == 16:
			b.put(more(b.want.base, fars[d.below(len(fars))]), d.text(d.below(3)))
		case turn == 17:
			b.next(some[d.below(len(some))])
		case turn == 18:
			b.has(more(b.want.base, fars[d.below(len(fars))]))
		default:
			comes = 1 + d.below(8)
		}
		if d.below(2) == 0 {
			b.counts()
		}
	}
	b.end()
}

func TestMixed(t *testing.T) {
	for seed := range uint64(12) {
		for _, window := range windows() {
			for _, base := range []uint32{0, 1<<31 - 20, math.MaxUint32 - 20, uint32(seed * 99991)} {
				mix(t, base, window, 300, seed+1)
			}
		}
	}
}

// Promise 23.2: bodies come out in order, each once, and none behind one that lacks.

// bodyAt is the body of the number that is so many behind the first one: it tells which one it is.
func bodyAt(place int) string { return "body " + strconv.Itoa(place) + "." }

// out is an order, whose base is known, and how many bodies came out of it.
type out struct {
	t     *testing.T
	o     *order.Order
	base  uint32
	many  int
	comes map[int]struct{}
	told  string
}

func newOut(t *testing.T, base uint32, window int) *out {
	t.Helper()
	return &out{t, newOrder(t, base, window), base, 0, map[int]struct{}{}, "base " + number(base) + ", window " + strconv.Itoa(window) + ":"}
}

// put hands the body of that place in, and notes whether it came.
func (o *out) put(place int) int {
	o.told += " " + strconv.Itoa(place)
	is := o.o.Put(more(o.base, place), bodyAt(place))
	if is == waiting {
		o.comes[place] = struct{}{}
	}
	return is
}

// next asks for one more: it is the next one, just if that one came.
func (o *out) next() bool {
	o.t.Helper()
	body, is := o.o.Next(1000)
	_, comes := o.comes[o.many]
	if is != comes || is && body != bodyAt(o.many) || !is && body != "" {
		o.t.Fatalf("%s: Next: %q, %t, though %d came out", o.told, body, is, o.many)
	}
	if is {
		o.many++
		o.told += " next"
	}
	return is
}

// drain asks until none comes any more; then all came out that lie ahead of the first one that lacks.
func (o *out) drain() {
	o.t.Helper()
	for o.next() {
	}
	if o.o.Base() != more(o.base, o.many) || o.o.Len() != len(o.comes)-o.many {
		o.t.Fatalf("%s: Base %d, Len %d, want %d, %d", o.told, o.o.Base(), o.o.Len(), more(o.base, o.many), len(o.comes)-o.many)
	}
}

// Every order of up to five numbers, with Next asked for behind each once, until none comes, and at the end alone; and with each one that comes twice, or that lacks.
func TestEachOrderOfAFew(t *testing.T) {
	for _, base := range []uint32{0, 7, 1<<31 - 3, math.MaxUint32, math.MaxUint32 - 1, math.MaxUint32 - 3} {
		for many := 1; many <= 5; many++ {
			for _, window := range []int{many, many + 1, 64} {
				orders(many, func(l []int) {
					for asked := range 3 {
						inOrder(t, base, window, l, asked)
						for i := range l {
							inOrder(t, base, window, append(slices.Clone(l), l[i]), asked)
							inOrder(t, base, window, slices.Insert(slices.Clone(l), i, l[len(l)-1]), asked)
							inOrder(t, base, window, slices.Delete(slices.Clone(l), i, i+1), asked)
						}
					}
				})
			}
		}
	}
}

// inOrder hands in those places one by one, and asks behind each as often as asked tells: not at all, once, or until none comes.
func inOrder(t *testing.T, base uint32, window int, l []int, asked int) {
	t.Helper()
	o, once := newOut(t, base, window), map[int]struct{}{}
	for _, place := range l {
		_, ahead := once[place]
		want := waiting
		switch {
		case ahead && place < o.many:
			want = old
		case ahead:
			want = twice
		}
		once[place] = struct{}{}
		if is := o.put(place); is != want {
			t.Fatalf("%s: Put: %d, want %d", o.told, is, want)
		}
		switch asked {
		case 1:
			o.next()
		case 2:
			o.drain()
		}
	}
	o.drain()
	first := 0
	for _, come := once[first]; come; _, come = once[first] {
		first++
	}
	if o.many != first {
		t.Fatalf("%s: %d came out, want %d", o.told, o.many, first)
	}
}

// All orders of five numbers go through windows that are smaller: what is past the window comes anew later.
func TestEachOrderThroughASmallWindow(t *testing.T) {
	for _, base := range []uint32{0, math.MaxUint32 - 2, 1<<31 - 2} {
		for window := 1; window <= 5; window++ {
			orders(5, func(l []int) {
				o := newOut(t, base, window)
				for range 5 {
					for _, place := range l {
						want := waiting
						_, comes := o.comes[place]
						switch {
						case place < o.many:
							want = old
						case place >= o.many+window:
							want = beyond
						case comes:
							want = twice
						}
						if is := o.put(place); is != want {
							t.Fatalf("%s: Put: %d, want %d", o.told, is, want)
						}
					}
					o.drain()
				}
				if o.many != 5 {
					t.Fatalf("%s: %d came out, want 5", o.told, o.many)
				}
			})
		}
	}
}

// Many orders of up to 64 numbers, with ones that come again, and with Next asked for now and then: all of them come out.
func TestManyOrdersOfMany(t *testing.T) {
	for seed := range uint64(400) {
		d := dice(seed)
		many := 1 + d.below(64)
		o := newOut(t, more([]uint32{0, 1<<31 - 9, math.MaxUint32 - 30}[seed%3], d.below(40)), many+d.below(65-many))
		l := d.shuffled(many)
		for range d.below(60) {
			l = slices.Insert(l, d.below(len(l)), d.below(many))
		}
		for _, place := range l {
			_, comes := o.comes[place]
			if is := o.put(place); (is == waiting) == comes {
				t.Fatalf("%s: Put: %d", o.told, is)
			}
			switch d.below(4) {
			case 0:
				o.next()
			case 1:
				o.drain()
			}
		}
		o.drain()
		if o.many != many {
			t.Fatalf("%s: %d came out, want %d", o.told, o.many, many)
		}
	}
}

// With one or two that never come: those ahead of them come out, and none behind, however often it is asked.
func TestNoneBehindOneThatLacks(t *testing.T) {
	for _, base := range []uint32{0, math.MaxUint32 - 31, 1<<31 - 31} {
		for lacks := range 64 {
			for _, other := range []int{lacks, 63, (lacks*11 + 5) % 64} {
				d := dice(lacks*64 + other)
				o := newOut(t, base, 64)
				for _, place := range append(d.shuffled(64), d.shuffled(64)...) {
					if place != lacks && place != other {
						o.put(place)
					}
					if d.below(3) == 0 {
						o.drain()
					}
				}
				o.drain()
				if first := min(lacks, other); o.many != first {
					t.Fatalf("%s: %d came out, want %d", o.told, o.many, first)
				}
				o.put(lacks)
				o.put(other)
				o.drain()
				if o.many < 64 {
					t.Fatalf("%s: %d came out, want 64 or more", o.told, o.many)
				}
			}
		}
	}
}

// A long stream of numbers, of which each is handed in until it waits, as a socket that mixes up and repeats would: all of it comes out once.
func TestLongStreams(t *testing.T) {
	for seed := range uint64(12) {
		d := dice(seed + 50)
		window := windows()[seed%6]
		o := newOut(t, math.MaxUint32-uint32(d.below(3000)), window)
		for o.many < 2000 {
			o.put(max(0, o.many+d.below(window+8)-4))
			if d.below(3) == 0 {
				o.next()
			}
			o.told = o.told[max(0, len(o.told)-300):]
		}
		o.drain()
	}
}

// R4 and R5: what was answered stays as it was, and hangs on what was done to the same order alone.

func TestTwoOrdersShareNothing(t *testing.T) {
	for _, x := range []struct {
		base, other uint32
		window, one int
	}{{0, 0, 1, 1}, {0, 0, 64, 64}, {math.MaxUint32, 5, 3, 7}, {1 << 31, 1<<31 + 1, 2, 64}} {
		first, second := newBoth(t, x.base, x.window), newBoth(t, x.other, x.one)
		d := dice(2)
		for range 200 {
			first.put(more(first.want.base, d.below(x.window)), d.text(3))
			second.look()
			second.put(more(second.want.base, d.below(x.one)), d.text(4))
			first.look()
			if d.below(2) == 0 {
				first.next(9)
				second.look()
				second.next(9)
				first.look()
			}
		}
		first.end()
		second.end()
	}
}

func TestAnswersStay(t *testing.T) {
	b, d := newBoth(t, math.MaxUint32-100, 8), dice(4)
	var bodies, copies []string
	for range 2000 {
		b.put(more(b.want.base, d.below(9)), d.text(1+d.below(9)))
		body, _ := b.next(d.below(12))
		bodies, copies = append(bodies, body), append(copies, strings.Clone(body))
	}
	b.end()
	if !slices.Equal(bodies, copies) {
		t.Error("what was answered is another now")
	}
}

// R5: the same calls are answered alike, however often they are made.
func TestTheSameOnceMore(t *testing.T) {
	row := func() string {
		o, d, told := newOrder(t, math.MaxUint32-100, 16), dice(9), ""
		for range 500 {
			told += strconv.Itoa(o.Put(more(o.Base(), d.below(20)-2), d.text(d.below(5)))) + ","
			body, is := o.Next(d.below(6))
			told += short(body) + strconv.FormatBool(is) + "," + strconv.FormatBool(o.Has(o.Base())) + strconv.Itoa(o.Len()) + ";"
		}
		return told
	}
	if first := row(); row() != first || row() != first {
		t.Error("the same calls were answered in another way")
	}
}

// held is how many bytes of memory are in use.
func held() int {
	var m runtime.MemStats
	runtime.GC()
	runtime.ReadMemStats(&m)
	return int(m.HeapAlloc)
}

// Bodies that are gone are not kept: their memory is free for others.
func TestGoneBodiesAreNotKept(t *testing.T) {
	const size = 1 << 20
	o := newOrder(t, math.MaxUint32-20, 64)
	before := held()
	for i := range 64 {
		o.Put(more(o.Base(), i), string(make([]byte, size)))
	}
	if many := held() - before; many < 60*size {
		t.Fatalf("%d bytes are held of 64 bodies of %d", many, size)
	}
	for range 63 {
		if _, is := o.Next(size); !is {
			t.Fatal("none comes, though all wait")
		}
	}
	if many := held() - before; many > 8*size {
		t.Errorf("%d bytes are held of one body of %d", many, size)
	}
	if o.Len() != 1 {
		t.Errorf("Len: %d, want 1", o.Len())
	}
}

// Bodies that were refused are not kept either.
func TestRefusedBodiesAreNotKept(t *testing.T) {
	const size = 1 << 20
	o := newOrder(t, 5, 3)
	o.Put(6, "x")
	before := held()
	for i := range uint32(20) {
		for _, x := range []uint32{4, 6, 8, i + 8, 3 - i} {
			if is := o.Put(x, string(make([]byte, size))); is == waiting {
				t.Fatalf("Put(%d): 3", x)
			}
		}
	}
	if many := held() - before; many > 8*size {
		t.Errorf("%d bytes are held of none", many)
	}
	if o.Len() != 1 {
		t.Errorf("Len: %d, want 1", o.Len())
	}
}

// However many bodies went through, from the last place on or from the first one on, no more is held than of an order that is new.
func TestWhatIsHeldDoesNotGrow(t *testing.T) {
	for _, down := range []bool{false, true} {
		o := newOrder(t, 9, 64)
		before := held()
		for range 10000 {
			for i := range 64 {
				if down {
					i = 63 - i
				}
				o.Put(more(o.Base(), i), "x")
			}
			for range 64 {
				o.Next(1)
			}
		}
		if many := held() - before; many > 1<<19 || o.Base() != 640009 || o.Len() != 0 {
			t.Errorf("%d bytes are held; Base %d, Len %d, want 640009, 0", many, o.Base(), o.Len())
		}
	}
}

// R1: on nil nothing happens, and all answers are none; of Put it is 4, whatever is handed in.

func wantNothing(t *testing.T, o *order.Order) {
	t.Helper()
	l := append(bases(), 3, 1<<31+2, 1<<31+64)
	for _, x := range l {
		for _, body := range []string{"", "\x00", "a", "\xff\x80\x00", strings.Repeat("x", 40000)} {
			if is := o.Put(x, body); is != 4 {
				t.Errorf("nil: Put(%d, %s): %d, want 4", x, short(body), is)
			}
		}
		if o.Has(x) {
			t.Errorf("nil: Has(%d): true, want false", x)
		}
	}
	for _, room := range rooms(1) {
		if body, is := o.Next(room); body != "" || is {
			t.Errorf("nil: Next(%d): %q, %t, want none", room, body, is)
		}
	}
	if o.Base() != 0 || o.Len() != 0 {
		t.Errorf("nil: Base %d, Len %d, want 0, 0", o.Base(), o.Len())
	}
}

func TestNil(t *testing.T) {
	wantNothing(t, nil)
	refused, _ := order.New(7, 0)
	wantNothing(t, refused)
	b := newBoth(t, 2, 3)
	b.lay(0, 2)
	wantNothing(t, nil)
	b.end()
}

// The chapter lists five calls on an order, and it has no others.
func TestNoOtherCalls(t *testing.T) {
	var got []string
	is := reflect.TypeFor[*order.Order]()
	for i := range is.NumMethod() {
		got = append(got, is.Method(i).Name)
	}
	if want := []string{"Base", "Has", "Len", "Next", "Put"}; !slices.Equal(got, want) {
		t.Errorf("%v, want %v", got, want)
	}
}
