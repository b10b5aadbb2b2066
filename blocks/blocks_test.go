package blocks_test

import (
	"math"
	"reflect"
	"slices"
	"strconv"
	"strings"
	"testing"
	"unsafe"

	"lightship/api"
	"lightship/blocks"
)

// Promise 21.1: New.

// wantNone: there are no blocks of that size with that room.
func wantNone(t *testing.T, size, room int) {
	t.Helper()
	if b, err := blocks.New(size, room); b != nil || err != api.ErrArg {
		t.Errorf("New(%d, %d): %v, %d, want nil, ErrArg", size, room, b, err)
	}
}

// wantEmpty: there are blocks of that size with that room, and none wait.
func wantEmpty(t *testing.T, size, room int) {
	t.Helper()
	b := newBlocks(t, size, room)
	for _, flush := range []bool{false, true, false} {
		if b.Len() != 0 || b.Room() != room {
			t.Errorf("New(%d, %d): Len %d, Room %d, want 0, %d", size, room, b.Len(), b.Room(), room)
		}
		if s, is := b.Next(flush); s != "" || is {
			t.Errorf("New(%d, %d): Next(%t): %s, %t, want none", size, room, flush, short(s), is)
		}
	}
}

// At the edges of the sizes: which rooms may be is written out.
func TestNewAtTheEdges(t *testing.T) {
	for _, size := range []int{-1, 0, 32769, math.MaxInt, math.MinInt} {
		for _, room := range []int{size - 1, size, size + 1, -1, 0, 1, 2, 32767, 32768, 32769, 32770, 1<<20 - 1, 1 << 20, 1<<20 + 1, math.MaxInt, math.MinInt} {
			wantNone(t, size, room)
		}
	}
	for _, size := range []int{1, 2, 3, 1024, 32767, 32768} {
		for _, room := range []int{size, size + 1, 2 * size, 32768, 32769, 1<<20 - 1, 1 << 20} {
			wantEmpty(t, size, room)
		}
		for _, room := range []int{size - 1, size - 2, -size, 0, -1, 1<<20 + 1, 1<<20 + size, 1 << 21, math.MaxInt, math.MaxInt - 1, math.MinInt, math.MinInt + 1} {
			wantNone(t, size, room)
		}
	}
}

// farInts are the greatest and the least ints, and those whose last 8, 16, 20 or 32 bits are small.
func farInts() []int {
	l := []int{math.MaxInt, math.MaxInt - 1, math.MinInt, math.MinInt + 1}
	for _, low := range []int{-1, 0, 1, 2, 3, 7} {
		for _, base := range []int{-1 << 62, -1 << 32, -1 << 31, -1 << 20, -1 << 16, -256, 1 << 21, 1 << 31, 1 << 32, 1 << 62} {
			l = append(l, base+low)
		}
	}
	return l
}

// All these sizes beside all these rooms.
func TestNewOfEachSizeAndRoom(t *testing.T) {
	l := append(farInts(), -3, -2, -1, 0, 1, 2, 3, 4, 7, 8, 255, 256, 257, 1023, 1024, 1025, 32766, 32767, 32768, 32769, 32770, 65535, 65536, 65537, most-1, most, most+1, most+2)
	for _, size := range l {
		for _, room := range append([]int{size - 1, size, size + 1}, l...) {
			if may(size, room) {
				wantEmpty(t, size, room)
			} else {
				wantNone(t, size, room)
			}
		}
	}
	for size := -2; size <= 40; size++ {
		for room := -2; room <= 40; room++ {
			if may(size, room) {
				newBoth(t, size, room).end()
			} else {
				wantNone(t, size, room)
			}
		}
	}
}

// Each size that may be, with as much room: one block of just that size.
func TestNewOfEachSize(t *testing.T) {
	text := bytesFrom(3, longest+1)
	for size := 1; size <= longest; size += 1 + size/200 {
		b := newBlocks(t, size, size)
		if n := b.Write(text[:size-1]); n != size-1 {
			t.Fatalf("size %d: Write of %d: %d", size, size-1, n)
		}
		if s, is := b.Next(false); s != "" || is {
			t.Fatalf("size %d: Next of one too few: %s, %t", size, short(s), is)
		}
		if n := b.Write(text[size-1:]); n != 1 {
			t.Fatalf("size %d: Write where there is room for one: %d", size, n)
		}
		if s, is := b.Next(false); s != text[:size] || !is {
			t.Fatalf("size %d: Next: %s, %t", size, short(s), is)
		}
	}
}

// Promise 21.1: the chapter's example, and some answers written out.

// hand are blocks whose answers are written out.
type hand struct {
	t *testing.T
	b *blocks.Blocks
}

func (h hand) write(s string, want int) {
	h.t.Helper()
	if got := h.b.Write(s); got != want {
		h.t.Errorf("Write(%q): %d, want %d", s, got, want)
	}
}

func (h hand) next(flush bool, want string, is bool) {
	h.t.Helper()
	if s, got := h.b.Next(flush); s != want || got != is {
		h.t.Errorf("Next(%t): %q, %t, want %q, %t", flush, s, got, want, is)
	}
}

func (h hand) counts(many, room int) {
	h.t.Helper()
	if h.b.Len() != many || h.b.Room() != room {
		h.t.Errorf("Len %d, Room %d, want %d, %d", h.b.Len(), h.b.Room(), many, room)
	}
}

// The example names no room: it holds for each that has place for the three bytes.
func TestExample(t *testing.T) {
	for _, room := range []int{3, 4, 5, 100, most} {
		h := hand{t, newBlocks(t, 2, room)}
		h.write("abc", 3)
		h.next(false, "ab", true)
		h.next(false, "", false)
		h.next(true, "c", true)
		h.next(true, "", false)
		h.counts(0, room)
	}
}

func TestByHand(t *testing.T) {
	h := hand{t, newBlocks(t, 3, 7)}
	h.counts(0, 7)
	h.next(false, "", false)
	h.next(true, "", false)
	h.write("", 0)
	h.next(true, "", false)
	h.write("ab", 2)
	h.counts(2, 5)
	h.next(false, "", false)
	h.counts(2, 5)
	h.next(true, "ab", true)
	h.counts(0, 7)
	h.write("cde", 3)
	h.next(false, "cde", true)
	h.next(false, "", false)
	h.write("fghi", 4)
	h.next(true, "fgh", true)
	h.counts(1, 6)
	h.write("jklmnopqr", 6)
	h.counts(7, 0)
	h.write("s", 0)
	h.write("", 0)
	h.next(false, "ijk", true)
	h.counts(4, 3)
	h.write("tu", 2)
	h.next(true, "lmn", true)
	h.next(false, "otu", true)
	h.next(false, "", false)
	h.counts(0, 7)
	h.write("v", 1)
	h.next(false, "", false)
	h.write("\x00", 1)
	h.next(false, "", false)
	h.write("\xff", 1)
	h.next(false, "v\x00\xff", true)
	h.write("wx", 2)
	h.b.Clear()
	h.counts(0, 7)
	h.next(true, "", false)
	h.write("yz0123456789", 7)
	h.next(false, "yz0", true)
	h.next(true, "123", true)
	h.next(false, "", false)
	h.next(true, "4", true)
	h.next(true, "", false)
	h.counts(0, 7)
}

func TestByHandOfSizeOne(t *testing.T) {
	h := hand{t, newBlocks(t, 1, 1)}
	h.next(false, "", false)
	h.next(true, "", false)
	h.write("ab", 1)
	h.counts(1, 0)
	h.write("b", 0)
	h.next(false, "a", true)
	h.next(false, "", false)
	h.write("\x00", 1)
	h.next(true, "\x00", true)
	h.next(true, "", false)
	h.counts(0, 1)
}

// Promise 21.1: Write, Next, Len, Room and Clear, where none wait, some, and as many as there is room for.

// sizes are sizes and rooms: small ones with all that may wait, and the greatest ones.
func sizes() [][2]int {
	return [][2]int{{1, 1}, {1, 2}, {1, 3}, {1, 10}, {2, 2}, {2, 3}, {2, 4}, {2, 5}, {2, 9}, {3, 3}, {3, 4}, {3, 5}, {3, 6}, {3, 7}, {3, 9}, {3, 20}, {7, 7}, {7, 8}, {7, 50}, {100, 100}, {100, 101}, {100, 256}}
}

func TestWrite(t *testing.T) {
	for _, x := range sizes() {
		size, room := x[0], x[1]
		for _, many := range fills(size, room) {
			left := room - many
			for _, n := range []int{0, 1, size - 1, size, size + 1, left - 1, left, left + 1, left + 2, room, room + 1, 2*room + 3, 1000} {
				laid(t, size, room, many, func(b *both) {
					b.writeNew(max(0, n))
					b.end()
				})
			}
		}
	}
}

// Texts of some bytes that come in one behind the other stand one behind the other, and none come in where there is no room.
func TestWriteOneBehindTheOther(t *testing.T) {
	for _, x := range sizes() {
		for n := 1; n <= min(x[1], 20); n++ {
			b := newBoth(t, x[0], x[1])
			for range x[1]/n + 2 {
				b.writeNew(n)
				b.counts()
				b.write("")
				b.counts()
			}
			b.end()
		}
	}
}

// Next where none wait, fewer than size, just size, and more: told as often as one likes.
func TestNext(t *testing.T) {
	for _, x := range sizes() {
		size, room := x[0], x[1]
		for _, many := range fills(size, room) {
			for _, flushes := range [][]bool{{false}, {true}, {false, false}, {false, true}, {true, false}, {true, true}, {false, false, false, true, false}, {true, true, true, false, true}} {
				laid(t, size, room, many, func(b *both) {
					for _, flush := range flushes {
						b.next(flush)
						b.counts()
					}
					b.end()
				})
			}
			laid(t, size, room, many, func(b *both) { b.flushed(); b.end() })
		}
	}
}

// A Next that tells none changes nothing: what waits is a block once the bytes that lacked have come.
func TestNextOfTooFew(t *testing.T) {
	for _, x := range sizes() {
		size, room := x[0], x[1]
		for _, many := range fills(size, room) {
			if many >= size {
				continue
			}
			laid(t, size, room, many, func(b *both) {
				for range size - many {
					b.next(false)
					b.counts()
					b.writeNew(1)
				}
				if s, is := b.next(false); len(s) != size || !is {
					t.Errorf("%s: %s, %t", b.told(), short(s), is)
				}
				b.end()
			})
		}
	}
}

// With a flush less than size is told once it is all that waits, and not more than size ever.
func TestNextWithFlush(t *testing.T) {
	for _, size := range []int{1, 2, 3, 7, 64} {
		for many := range 5*size + 2 {
			b := newBoth(t, size, 5*size+1)
			b.writeNew(many)
			for left := many; left > 0; {
				s, is := b.next(true)
				if !is || len(s) != min(left, size) {
					t.Fatalf("%s: %s, %t, where %d wait", b.told(), short(s), is, left)
				}
				left -= len(s)
				b.counts()
			}
			b.next(true)
			b.end()
		}
	}
}

func TestClear(t *testing.T) {
	for _, x := range sizes() {
		size, room := x[0], x[1]
		for _, many := range fills(size, room) {
			laid(t, size, room, many, func(b *both) {
				b.clear()
				b.counts()
				b.next(false)
				b.next(true)
				b.clear()
				b.counts()
				b.writeNew(many)
				b.counts()
				b.end()
				b.clear()
				b.end()
			})
			for _, n := range []int{1, size - 1, size, room, room + 1} {
				laid(t, size, room, many, func(b *both) {
					b.clear()
					b.writeNew(n)
					b.next(false)
					b.writeNew(2)
					b.end()
				})
			}
		}
	}
}

// What waits and what there is room for are the whole room, however bytes come and go.
func TestLenAndRoom(t *testing.T) {
	for _, x := range [][2]int{{1, 1}, {1, most}, {2, 3}, {3, 100}, {100, 256}, {1024, 4096}, {longest, longest}, {longest, longest + 1}, {longest, most - 1}, {longest, most}} {
		size, room := x[0], x[1]
		b, many := newBlocks(t, size, room), 0
		want := func(call string) {
			t.Helper()
			if b.Len() != many || b.Room() != room-many {
				t.Fatalf("size %d, room %d, %s: Len %d, Room %d, want %d, %d", size, room, call, b.Len(), b.Room(), many, room-many)
			}
		}
		want("New")
		for _, n := range []int{1, 0, 2, size - 1, size, room / 2, room, 1} {
			many += b.Write(bytesFrom(0, n))
			want("Write")
			for _, flush := range []bool{false, true} {
				s, _ := b.Next(flush)
				many -= len(s)
				want("Next")
			}
		}
		many += b.Write(bytesFrom(0, room))
		want("Write")
		if many != room {
			t.Errorf("size %d, room %d: %d bytes wait once all came in", size, room, many)
		}
		b.Clear()
		many = 0
		want("Clear")
	}
}

// The greatest sizes and rooms.
func TestGreatBlocks(t *testing.T) {
	for _, size := range []int{longest - 1, longest} {
		for _, room := range []int{size, size + 1, 2*size - 1, 2 * size, 2*size + 1, 100000, most - 1, most} {
			for _, many := range []int{0, 1, size - 1, size, size + 1, room - 1, room, room + 1} {
				b := newBoth(t, size, room)
				b.writeNew(many)
				b.counts()
				b.next(false)
				b.counts()
				b.writeNew(size)
				b.next(true)
				b.counts()
				b.end()
				b.writeNew(1)
				b.clear()
				b.counts()
				b.writeNew(size - 1)
				b.next(false)
				b.writeNew(2)
				b.end()
			}
		}
	}
}

// Promise 21.1: what is written comes out in blocks, one behind the other.

// taken are the blocks that were told.
type taken struct {
	t    *testing.T
	b    *blocks.Blocks
	size int
	list []string
}

// take takes at most so many blocks.
func (l *taken) take(many int, flush bool) {
	for range many {
		s, is := l.b.Next(flush)
		if !is {
			return
		}
		l.list = append(l.list, s)
	}
}

// passed writes s in pieces of these sizes, round and round, and takes at most so many blocks behind each; of a piece that does not come in wholly the rest is written later.
func passed(t *testing.T, size, room int, s string, pieces []int, takes int) {
	t.Helper()
	b := newBlocks(t, size, room)
	l := taken{t: t, b: b, size: size}
	for i, left := 0, s; left != ""; i++ {
		n := b.Write(left[:min(pieces[i%len(pieces)], len(left))])
		left = left[n:]
		l.take(takes, false)
		if i > 4*len(s)+4 {
			t.Fatalf("size %d, room %d, pieces %v: no end, %d bytes are left", size, room, pieces, len(left))
		}
	}
	l.take(len(s)+1, true)
	if got := strings.Join(l.list, ""); got != s {
		t.Fatalf("size %d, room %d, pieces %v: %s, want %s", size, room, pieces, short(got), short(s))
	}
	for i, block := range l.list {
		if want := min(size, len(s)-i*size); len(block) != want {
			t.Fatalf("size %d, room %d, pieces %v: the block at place %d of %d has %d bytes, want %d", size, room, pieces, i, len(l.list), len(block), want)
		}
	}
	if b.Len() != 0 || b.Room() != room {
		t.Fatalf("size %d, room %d, pieces %v: Len %d, Room %d at the end", size, room, pieces, b.Len(), b.Room())
	}
}

func TestPiecesPass(t *testing.T) {
	d := dice(1)
	for _, x := range sizes() {
		size, room := x[0], x[1]
		for _, many := range []int{1, size, 10*room - 1, 10 * room, 10*room + 1, 10*room + size} {
			s := d.text(many)
			for piece := 1; piece <= min(room+2, 24); piece++ {
				for _, takes := range []int{1, 2, room + 1} {
					passed(t, size, room, s, []int{piece}, takes)
				}
			}
			for _, pieces := range [][]int{{1, room}, {room, 1, 1}, {size, size + 1, 2*size + 1}, {1, 2, 3, 4, 5, 6, 7}, {room + 5}, {size + 1, 1, room - size + 1}} {
				passed(t, size, room, s, pieces, 1)
				passed(t, size, room, s, pieces, room)
			}
		}
	}
}

func TestManyBytesPass(t *testing.T) {
	d := dice(2)
	for _, x := range []struct{ size, room, many, piece int }{
		{1, 1, 20000, 1}, {1, 3, 20000, 2}, {2, 3, 20000, 3}, {3, 5, 40000, 2}, {7, 7, 40000, 3}, {1024, 1500, 200000, 77}, {32000, 65536, 1000000, 9999},
		{longest, longest, 300000, 1000}, {longest, longest + 1, 300001, 32769}, {longest, 100000, 1 << 21, 70001}, {longest, most, 3 << 20, 1 << 19}, {longest - 1, most - 1, 3 << 20, most},
	} {
		passed(t, x.size, x.room, d.text(x.many), []int{x.piece}, 1)
		passed(t, x.size, x.room, d.text(x.many), []int{x.piece, 1 + x.piece/3, x.piece + 1}, 3)
	}
}

// Promise 21.1: many calls of all kinds.

// one makes one of the calls: a Write of each number of bytes up to one more than the room, Next with flush and without, Clear.
func (b *both) one(i int) {
	b.t.Helper()
	switch n := b.want.room + 1; {
	case i < n:
		b.writeNew(i + 1)
	case i == n:
		b.next(false)
	case i == n+1:
		b.next(true)
	default:
		b.clear()
	}
	b.counts()
}

// rows are all rows of so many of these calls.
func rows(t *testing.T, size, room, length int) {
	t.Helper()
	kinds, all := room+4, 1
	for range length {
		all *= kinds
	}
	for row := range all {
		b := newBoth(t, size, room)
		for range length {
			b.one(row % kinds)
			row /= kinds
		}
		b.end()
	}
}

func TestEachRowOfCalls(t *testing.T) {
	for _, x := range [][3]int{{1, 1, 6}, {1, 2, 5}, {2, 2, 5}, {1, 3, 5}, {2, 3, 5}, {3, 3, 5}, {2, 4, 4}, {3, 4, 4}, {4, 4, 4}, {2, 5, 4}, {3, 5, 4}, {3, 7, 4}, {2, 8, 3}} {
		rows(t, x[0], x[1], x[2])
	}
}

// mix makes many calls, the next one by chance of a fixed seed.
func mix(t *testing.T, size, room, many int, seed uint64) {
	t.Helper()
	b, d := newBoth(t, size, room), dice(seed)
	// So long as bytes come rather than go there is no room most of the time, and then the other way round.
	comes := 5
	for range many {
		switch turn := d.below(12); {
		case turn < comes:
			n := d.below(2*size + 2)
			if d.below(4) == 0 {
				n = d.below(room + 3)
			}
			b.write(d.text(n))
		case turn < 10:
			b.next(d.below(3) == 0)
		case turn < 11:
			b.next(true)
		case d.below(8) == 0:
			b.clear()
		default:
			comes = 2 + d.below(7)
		}
		if d.below(2) == 0 {
			b.counts()
		}
	}
	b.end()
}

func TestMixed(t *testing.T) {
	for seed := range uint64(20) {
		for _, x := range append(sizes(), [][2]int{{4, 31}, {5, 64}, {16, 257}, {33, 1000}, {255, 255}, {256, 1025}}...) {
			mix(t, x[0], x[1], 400, seed+1)
		}
	}
	for seed := range uint64(3) {
		for _, x := range [][2]int{{1000, 4096}, {1024, 65536}, {longest, longest}, {longest, 65537}, {longest - 1, 200000}} {
			mix(t, x[0], x[1], 150, seed+100)
		}
	}
}

// Promise 21.1: bytes are bytes.

func TestBytesOfEveryValue(t *testing.T) {
	for i := range 256 {
		for _, s := range []string{string([]byte{byte(i)}), string([]byte{byte(i), 0}), string([]byte{0, byte(i), 255}), strings.Repeat(string([]byte{byte(i)}), 7)} {
			for size := 1; size <= 4; size++ {
				b := newBoth(t, size, 6)
				b.write(s)
				b.next(false)
				b.write(s)
				b.all()
				b.write(s)
				b.flushed()
				b.end()
			}
		}
	}
}

// Bytes 0 count as any others, where they are all that waits, too.
func TestNulls(t *testing.T) {
	for size := 1; size <= 5; size++ {
		for many := range 12 {
			b := newBoth(t, size, 11)
			b.write(strings.Repeat("\x00", many))
			b.counts()
			b.next(false)
			b.next(true)
			b.end()
		}
	}
}

// Runes of two, three and four bytes are cut like any bytes, and bytes that are no rune stay.
func TestRunesAreBytes(t *testing.T) {
	for _, s := range []string{"\u00e4\u00f6\u00fc\u00df", "\u20ac\u20ac\u20ac", "\U0001f6a2\U0001f30a", "\xff\xfe\xc3\x28\xe2\x82", "a\u00e4\u20ac\U0001f6a2\x80z", "\x00\x00a\x00", "\r\n\t \"\\'"} {
		for size := 1; size <= len(s); size++ {
			for room := size; room <= len(s)+1; room++ {
				b := newBoth(t, size, room)
				b.write(s)
				b.next(false)
				b.write(s)
				b.next(true)
				b.write(s)
				b.end()
			}
		}
	}
}

// R4 and R5: what was answered stays as it was, and hangs on what was done to the same blocks alone.

func TestAnswersStay(t *testing.T) {
	for _, x := range [][2]int{{1, 3}, {2, 3}, {3, 8}, {16, 64}, {1000, 1024}} {
		var got, want []string
		b, d := newBoth(t, x[0], x[1]), dice(x[1])
		for range 2000 {
			b.writeNew(d.below(x[1] + 2))
			s, _ := b.next(d.below(2) == 0)
			got, want = append(got, s), append(want, strings.Clone(s))
			if d.below(40) == 0 {
				b.clear()
			}
		}
		b.end()
		if !slices.Equal(got, want) {
			t.Errorf("size %d, room %d: what was answered is another now", x[0], x[1])
		}
	}
}

// What comes in is copied: whoever handed a text in may lose its memory.
func TestTextsAreNotKept(t *testing.T) {
	for begin := range 8 {
		b := newBlocks(t, 3, 8)
		b.Write(bytesFrom(0, begin))
		for range 8 {
			b.Next(true)
		}
		memory := []byte("abcdef")
		b.Write(unsafe.String(&memory[0], len(memory)))
		first, _ := b.Next(false)
		copy(memory, "uvwxyz")
		if s, is := b.Next(true); first != "abc" || s != "def" || !is {
			t.Errorf("beginning at %d: %q and %q, %t, want abc and def", begin, first, s, is)
		}
	}
}

// No text can be written to, but whoever holds one is not to hold the others by it.
func TestAnswersAreNewMemory(t *testing.T) {
	for _, size := range []int{8, 64} {
		b := newBlocks(t, size, 3*size)
		s := bytesFrom(0, 2*size+2)
		l := []string{s, s[size:]}
		for range 5 {
			b.Write(s)
			for range 3 {
				block, _ := b.Next(true)
				l = append(l, block)
			}
		}
		for at, s := range l {
			for _, other := range l[:at] {
				if unsafe.StringData(s) == unsafe.StringData(other) {
					t.Errorf("size %d: the text at place %d, %s, shares memory with another one", size, at, short(s))
				}
			}
		}
	}
}

func TestTwoBlocksShareNothing(t *testing.T) {
	for _, x := range [][4]int{{1, 1, 1, 1}, {2, 3, 2, 3}, {2, 8, 3, 8}, {3, 7, 1, 64}, {100, 1000, 7, 1000}} {
		first, second := newBoth(t, x[0], x[1]), newBoth(t, x[2], x[3])
		second.count = 100
		first.writeNew(x[1])
		second.counts()
		second.writeNew(x[3] - 1)
		for i := range x[1] + x[3] {
			first.next(i%3 == 0)
			second.counts()
			second.writeNew(1)
			first.counts()
			first.writeNew(2)
			second.next(i%2 == 0)
			first.counts()
		}
		first.clear()
		second.counts()
		first.writeNew(1)
		second.end()
		first.end()
		second.clear()
		first.end()
		second.end()
	}
}

// What one told another one may take, and neither sees what becomes of it.
func TestFromOneToTheOther(t *testing.T) {
	first, second := newBoth(t, 3, 7), newBoth(t, 2, 5)
	for i := range 100 {
		first.writeNew(4)
		s, _ := first.next(i%2 == 0)
		second.write(s)
		second.counts()
		s, _ = second.next(i%3 == 0)
		first.write(s)
		first.counts()
		second.next(true)
	}
	first.end()
	second.end()
}

// R5: the same calls are answered alike, however often they are made.
func TestTheSameOnceMore(t *testing.T) {
	row := func() string {
		b, d, told := newBlocks(t, 5, 23), dice(9), ""
		for range 500 {
			told += strconv.Itoa(b.Write(d.text(d.below(9)))) + ","
			s, is := b.Next(d.below(4) == 0)
			told += strconv.Quote(s) + strconv.FormatBool(is) + strconv.Itoa(b.Len()) + ";"
		}
		return told
	}
	if first := row(); row() != first || row() != first {
		t.Error("the same calls were answered in another way")
	}
}

// R1: on nil nothing happens, and all answers are none.

func wantNothing(t *testing.T, b *blocks.Blocks) {
	t.Helper()
	for range 2 {
		if b.Len() != 0 || b.Room() != 0 {
			t.Errorf("nil: Len %d, Room %d, want 0, 0", b.Len(), b.Room())
		}
		for _, s := range []string{"", "a", "\x00", "\xff", "abc", bytesFrom(0, 1000), bytesFrom(0, most+1)} {
			if n := b.Write(s); n != 0 {
				t.Errorf("nil: Write(%s): %d, want 0", short(s), n)
			}
			for _, flush := range []bool{false, true} {
				if s, is := b.Next(flush); s != "" || is {
					t.Errorf("nil: Next(%t): %s, %t, want none", flush, short(s), is)
				}
			}
			if b.Len() != 0 || b.Room() != 0 {
				t.Errorf("nil, behind a Write: Len %d, Room %d, want 0, 0", b.Len(), b.Room())
			}
		}
		b.Clear()
	}
}

func TestNil(t *testing.T) {
	wantNothing(t, nil)
	refused, _ := blocks.New(0, 1)
	wantNothing(t, refused)
	b := newBoth(t, 2, 3)
	b.writeNew(3)
	wantNothing(t, nil)
	b.end()
}

// The chapter lists five calls on blocks: what waits has others, and they are not to be had from outside.
func TestNoOtherCalls(t *testing.T) {
	var got []string
	is := reflect.TypeFor[*blocks.Blocks]()
	for i := range is.NumMethod() {
		got = append(got, is.Method(i).Name)
	}
	if want := []string{"Clear", "Len", "Next", "Room", "Write"}; !slices.Equal(got, want) {
		t.Errorf("%v, want %v", got, want)
	}
}
