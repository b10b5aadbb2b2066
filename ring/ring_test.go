package ring_test

import (
	"math"
	"slices"
	"strconv"
	"strings"
	"testing"
	"unsafe"

	"lightship/api"
	"lightship/ring"
)

// most is the greatest room that a ring may have.
const most = 1 << 20

// plain is what a ring is held against: a text, and how many bytes it may have.
type plain struct {
	room int
	text string
}

func (p *plain) put(s string) int {
	n := p.room - len(p.text)
	if n > len(s) {
		n = len(s)
	}
	p.text += s[:n]
	return n
}

func (p *plain) peek(n int) string {
	switch {
	case n < 0:
		return ""
	case n > len(p.text):
		return p.text
	}
	return p.text[:n]
}

func (p *plain) take(n int) string {
	s := p.peek(n)
	p.text = p.text[len(s):]
	return s
}

// call is a call that was made, and what was handed in: a number, or how many bytes.
type call struct {
	name string
	n    int
}

// both are a ring and the text that it is held against, to which the same is done; and what was done so far.
type both struct {
	t     *testing.T
	ring  *ring.Ring
	want  plain
	calls []call
	count int
}

// newRing is a ring of so much room.
func newRing(t *testing.T, room int) *ring.Ring {
	t.Helper()
	r, err := ring.New(room)
	if r == nil || err != api.OK {
		t.Fatalf("New(%d): %v, %d, want a ring, OK", room, r, err)
	}
	return r
}

func newBoth(t *testing.T, room int) *both {
	t.Helper()
	return &both{t: t, ring: newRing(t, room), want: plain{room: room}}
}

// bytesFrom are so many bytes, the next one always one more, but behind 250 comes 0: no two that stand apart by a power of 2 are alike.
func bytesFrom(from, many int) string {
	made := make([]byte, many)
	for i := range made {
		made[i] = byte((from + i) % 251)
	}
	return string(made)
}

// fresh are so many bytes that go on behind those that were fresh ahead.
func (b *both) fresh(many int) string {
	s := bytesFrom(b.count, many)
	b.count += many
	return s
}

// told is what was done so far, the last calls alone if there were many.
func (b *both) told() string {
	var l []string
	for _, c := range b.calls[max(0, len(b.calls)-40):] {
		l = append(l, c.name+" "+strconv.Itoa(c.n))
	}
	return "room " + strconv.Itoa(b.want.room) + ": " + strings.Join(l, ", ")
}

// short is a text as it is told: its beginning, and how many bytes it has.
func short(s string) string {
	return strconv.Quote(s[:min(len(s), 40)]) + " (" + strconv.Itoa(len(s)) + " bytes)"
}

// put puts s into both.
func (b *both) put(s string) {
	b.t.Helper()
	b.calls = append(b.calls, call{"Put", len(s)})
	before := strings.Clone(s)
	if got, want := b.ring.Put(s), b.want.put(s); got != want {
		b.t.Fatalf("%s: %d, want %d", b.told(), got, want)
	}
	if s != before {
		b.t.Fatalf("%s: changed its text", b.told())
	}
}

// putNew puts so many bytes that go on behind those put ahead.
func (b *both) putNew(many int) {
	b.t.Helper()
	b.put(b.fresh(many))
}

func (b *both) take(n int) string {
	b.t.Helper()
	b.calls = append(b.calls, call{"Take", n})
	got, want := b.ring.Take(n), b.want.take(n)
	if got != want {
		b.t.Fatalf("%s: %s, want %s", b.told(), short(got), short(want))
	}
	return got
}

func (b *both) peek(n int) string {
	b.t.Helper()
	b.calls = append(b.calls, call{"Peek", n})
	got, want := b.ring.Peek(n), b.want.peek(n)
	if got != want {
		b.t.Fatalf("%s: %s, want %s", b.told(), short(got), short(want))
	}
	return got
}

func (b *both) clear() {
	b.calls = append(b.calls, call{"Clear", 0})
	b.ring.Clear()
	b.want.text = ""
}

// counts asks how many bytes there are, and come in still.
func (b *both) counts() {
	b.t.Helper()
	if got, want := b.ring.Len(), len(b.want.text); got != want {
		b.t.Fatalf("%s; Len: %d, want %d", b.told(), got, want)
	}
	if got, want := b.ring.Room(), b.want.room-len(b.want.text); got != want {
		b.t.Fatalf("%s; Room: %d, want %d", b.told(), got, want)
	}
}

// look asks how many bytes there are, and come in still, and which are there, and that they are there yet.
func (b *both) look() {
	b.t.Helper()
	b.counts()
	for range 2 {
		if got := b.ring.Peek(b.want.room + 1); got != b.want.text {
			b.t.Fatalf("%s; there are %s, want %s", b.told(), short(got), short(b.want.text))
		}
	}
	b.counts()
}

// end looks, takes all that is there one by one, fills the whole room, and takes it at once.
func (b *both) end() {
	b.t.Helper()
	b.look()
	for range min(len(b.want.text), 300) {
		b.take(1)
		b.counts()
	}
	b.putNew(b.want.room + 1)
	b.look()
	b.take(b.want.room)
	b.look()
	b.take(1)
	b.look()
}

// pass lets so many bytes come and go.
func pass(b *both, many int) {
	b.putNew(many)
	b.take(many)
}

// slide lets bytes come and go one by one: as many wait behind it as did ahead.
func slide(b *both, steps int) {
	for range steps {
		if len(b.want.text) < b.want.room {
			b.putNew(1)
			b.take(1)
		} else {
			b.take(1)
			b.putNew(1)
		}
	}
}

// ways are how so many bytes come to be in a ring that had none, so many places behind where its first byte ever stood.
func ways() []func(b *both, begin, many int) {
	return []func(b *both, begin, many int){
		func(b *both, begin, many int) { pass(b, begin); b.putNew(many) },
		func(b *both, begin, many int) { pass(b, b.want.room); pass(b, begin); b.putNew(many) },
		func(b *both, begin, many int) {
			b.putNew(b.want.room)
			b.take(1)
			b.clear()
			pass(b, begin)
			b.putNew(many)
		},
		func(b *both, begin, many int) {
			for range begin {
				pass(b, 1)
			}
			for range many {
				b.putNew(1)
			}
		},
		func(b *both, begin, many int) { b.putNew(many); slide(b, begin) },
		func(b *both, begin, many int) { b.putNew(many); slide(b, begin+2*b.want.room) },
		func(b *both, begin, many int) {
			b.putNew(b.want.room)
			b.take(b.want.room - many)
			slide(b, begin)
		},
		func(b *both, begin, many int) {
			pass(b, begin)
			b.putNew(b.want.room)
			b.take(b.want.room - many)
		},
	}
}

// laid does something with rings of so much room and so many bytes, one for each way and each of the places at which the bytes may begin.
func laid(t *testing.T, room, many int, begins []int, do func(b *both)) {
	t.Helper()
	for _, lay := range ways() {
		for _, begin := range begins {
			// Whoever looks may set right what a call finds wrong: nobody looks the first time.
			for _, look := range []bool{false, true} {
				b := newBoth(t, room)
				lay(b, begin, many)
				if look {
					b.look()
				}
				do(b)
			}
		}
	}
}

// upTo are the numbers from 0 to n - 1.
func upTo(n int) []int {
	l := make([]int, n)
	for i := range l {
		l[i] = i
	}
	return l
}

// farNumbers are the greatest and the least ints, and those whose last 8, 16, 20 or 32 bits are small.
func farNumbers() []int {
	l := []int{math.MaxInt, math.MaxInt - 1, math.MinInt, math.MinInt + 1}
	for _, low := range []int{-1, 0, 1, 2, 3, 7} {
		for _, base := range []int{-1 << 62, -1 << 32, -1 << 31, -1 << 20, -1 << 16, -256, 1 << 16, 1 << 31, 1 << 32, 1 << 62} {
			l = append(l, base+low)
		}
	}
	return l
}

// someN are numbers of bytes that may be asked for where so many are there, and some that may not be.
func someN(many int) []int {
	return append(farNumbers(), -3, -2, -1, 0, 1, 2, many/2, many-1, many, many+1, many+2, 2*many+1, most, most+1)
}

// dice are numbers in no order, another row for each seed.
type dice uint64

// below is a number from 0 to n - 1.
func (d *dice) below(n int) int {
	*d = *d*6364136223846793005 + 1442695040888963407
	return int(uint64(*d)>>33) % n
}

// text is a text of so many bytes in no order.
func (d *dice) text(size int) string {
	made := make([]byte, size)
	for i := range made {
		made[i] = byte(d.below(256))
	}
	return string(made)
}

// Promise 12.1: New.

func TestNew(t *testing.T) {
	for _, room := range []int{1, 2, 3, 4, 7, 8, 9, 255, 256, 257, 1000, 32767, 32768, 65535, 65536, 65537, 1<<20 - 1, 1 << 20} {
		b := newBoth(t, room)
		b.look()
		if b.ring.Len() != 0 || b.ring.Room() != room || b.ring.Peek(1) != "" || b.ring.Take(1) != "" {
			t.Errorf("New(%d): not without bytes", room)
		}
		b.end()
	}
}

// As many bytes come in as there is room for, and none more, whatever room there is.
func TestNewOfEachRoom(t *testing.T) {
	for room := 1; room <= 600; room++ {
		newBoth(t, room).end()
	}
}

func TestNewOfNoRoom(t *testing.T) {
	l := []int{0, -1, -2, -3, -255, -256, -most, -most - 1, most + 1, most + 2, most + 255, 2 * most, 2*most + 1, 1 << 24, math.MaxInt32, math.MinInt32, math.MaxInt, math.MaxInt - 1, math.MinInt, math.MinInt + 1}
	for _, base := range []int{-1 << 62, -1 << 32, -1 << 24, 1 << 21, 1 << 24, 1 << 31, 1 << 32, 1 << 62} {
		l = append(l, base, base+1, base+3, base+255)
	}
	for _, room := range l {
		if r, err := ring.New(room); r != nil || err != api.ErrArg {
			t.Errorf("New(%d): %v, %d, want nil, ErrArg", room, r, err)
		}
	}
}

// Promise 12.1: the chapter's example, and some answers written out.

func TestExample(t *testing.T) {
	r := newRing(t, 3)
	if n := r.Put("abcd"); n != 3 {
		t.Errorf("Put(abcd): %d, want 3", n)
	}
	if s := r.Take(2); s != "ab" {
		t.Errorf("Take(2): %q, want ab", s)
	}
	if n := r.Put("ef"); n != 2 {
		t.Errorf("Put(ef): %d, want 2", n)
	}
	if s := r.Take(9); s != "cef" {
		t.Errorf("Take(9): %q, want cef", s)
	}
}

func TestByHand(t *testing.T) {
	r := newRing(t, 5)
	wantCounts := func(many, room int) {
		t.Helper()
		if r.Len() != many || r.Room() != room {
			t.Errorf("Len %d, Room %d, want %d, %d", r.Len(), r.Room(), many, room)
		}
	}
	wantPut := func(s string, want int) {
		t.Helper()
		if got := r.Put(s); got != want {
			t.Errorf("Put(%q): %d, want %d", s, got, want)
		}
	}
	wantText := func(name, got, want string) {
		t.Helper()
		if got != want {
			t.Errorf("%s: %q, want %q", name, got, want)
		}
	}
	wantCounts(0, 5)
	wantPut("", 0)
	wantPut("ab", 2)
	wantCounts(2, 3)
	wantText("Peek(1)", r.Peek(1), "a")
	wantText("Peek(9)", r.Peek(9), "ab")
	wantText("Peek(-1)", r.Peek(-1), "")
	wantCounts(2, 3)
	wantPut("cd", 2)
	wantText("Take(3)", r.Take(3), "abc")
	wantCounts(1, 4)
	wantText("Take(0)", r.Take(0), "")
	wantText("Take(-1)", r.Take(-1), "")
	wantPut("efghij", 4)
	wantCounts(5, 0)
	wantPut("k", 0)
	wantPut("", 0)
	wantText("Peek(5)", r.Peek(5), "defgh")
	wantText("Peek(2)", r.Peek(2), "de")
	wantText("Take(2)", r.Take(2), "de")
	wantCounts(3, 2)
	wantText("Take(4)", r.Take(4), "fgh")
	wantCounts(0, 5)
	wantText("Take(1)", r.Take(1), "")
	wantPut("lmn", 3)
	r.Clear()
	wantCounts(0, 5)
	wantText("Peek(5)", r.Peek(5), "")
	wantPut("opqrst", 5)
	wantText("Take(5)", r.Take(5), "opqrs")
	wantCounts(0, 5)
}

// Promise 12.1: Put, into rings of no bytes, of some and of full ones.

// rooms are those of which each call is tried on rings of no bytes, of some and of full ones.
func rooms() []int { return []int{1, 2, 3, 5, 8, 17, 100, 256} }

// fills are how many bytes there may be in a ring of so much room, or some of them.
func fills(room int) []int {
	if room <= 8 {
		return upTo(room + 1)
	}
	return []int{0, 1, 2, room / 2, room - 2, room - 1, room}
}

// begins are some places at which the bytes of a ring of so much room may begin.
func begins(room int) []int {
	if room <= 8 {
		return upTo(room)
	}
	return []int{0, 1, room / 2, room - 1}
}

func TestPut(t *testing.T) {
	for _, room := range rooms() {
		for _, many := range fills(room) {
			left := room - many
			for _, size := range []int{0, 1, 2, left - 1, left, left + 1, left + 2, room, room + 1, 2*room + 3, 1000} {
				laid(t, room, many, begins(room), func(b *both) {
					b.putNew(max(0, size))
					b.end()
				})
			}
		}
	}
}

// Bytes that come in one behind the other stand one behind the other, whatever sizes they come in.
func TestPutOneBehindTheOther(t *testing.T) {
	for _, room := range rooms() {
		for size := 1; size <= min(room, 20); size++ {
			b := newBoth(t, room)
			for range room/size + 2 {
				b.putNew(size)
				b.look()
				b.put("")
				b.look()
			}
			b.end()
		}
	}
}

// Promise 12.1: Take and Peek, of rings of no bytes, of some and of full ones.

func TestTake(t *testing.T) {
	for _, room := range rooms() {
		for _, many := range fills(room) {
			laid(t, room, many, begins(room)[:1], func(b *both) {
				// What takes none changes nothing: one ring does for all of these.
				for _, n := range someN(many) {
					if n <= 0 {
						b.take(n)
						b.look()
					}
				}
				b.end()
			})
			for _, n := range []int{1, 2, many / 2, many - 1, many, many + 1, many + 2, room, room + 1, most, 1 << 31, 1 << 32, 1<<32 + 1, math.MaxInt - 1, math.MaxInt} {
				laid(t, room, many, begins(room), func(b *both) {
					b.take(n)
					b.end()
				})
			}
			laid(t, room, many, begins(room), func(b *both) {
				b.take(-1)
				b.look()
				b.take(math.MinInt)
				b.look()
				b.take(0)
				b.end()
			})
		}
	}
}

// Behind a Take the bytes are gone: the next one takes those behind them.
func TestTakeOneBehindTheOther(t *testing.T) {
	for _, room := range rooms() {
		for size := 1; size <= min(room, 20); size++ {
			laid(t, room, room, begins(room), func(b *both) {
				for range room/size + 2 {
					b.take(size)
					b.look()
				}
				b.end()
			})
		}
	}
}

func TestPeek(t *testing.T) {
	for _, room := range rooms() {
		for _, many := range fills(room) {
			laid(t, room, many, begins(room), func(b *both) {
				for _, n := range someN(many) {
					b.peek(n)
					b.counts()
					b.peek(n)
				}
				b.look()
				for n := -2; n <= many+2; n++ {
					b.peek(n)
				}
				b.end()
			})
		}
	}
}

// Promise 12.1: Len and Room.

// However bytes come and go, what there is and what there is room for are the whole room.
func TestLenAndRoom(t *testing.T) {
	for _, room := range []int{1, 2, 3, 8, 100, 256, most} {
		r := newRing(t, room)
		many := 0
		want := func(call string) {
			t.Helper()
			if r.Len() != many || r.Room() != room-many {
				t.Fatalf("room %d, %s: Len %d, Room %d, want %d, %d", room, call, r.Len(), r.Room(), many, room-many)
			}
		}
		want("New")
		for _, size := range []int{1, 0, 2, room / 2, room, 1} {
			many += r.Put(bytesFrom(0, size))
			want("Put")
			r.Peek(size)
			want("Peek")
			r.Peek(-1)
			want("Peek")
			many -= len(r.Take(size / 2))
			want("Take")
			r.Take(-size)
			want("Take")
		}
		many -= len(r.Take(math.MaxInt))
		want("Take")
		if many != 0 {
			t.Errorf("room %d: %d bytes once all were taken", room, many)
		}
		many += r.Put(bytesFrom(0, room))
		want("Put")
		if many != room {
			t.Errorf("room %d: %d bytes once all came in", room, many)
		}
		r.Clear()
		many = 0
		want("Clear")
	}
}

// Promise 12.1: Clear.

func TestClear(t *testing.T) {
	for _, room := range rooms() {
		for _, many := range fills(room) {
			laid(t, room, many, begins(room), func(b *both) {
				b.clear()
				b.look()
				b.take(1)
				b.peek(room)
				b.clear()
				b.look()
				b.putNew(many)
				b.look()
				b.end()
				b.clear()
				b.end()
			})
			for _, size := range []int{1, room - 1, room, room + 1} {
				laid(t, room, many, begins(room), func(b *both) {
					b.clear()
					b.putNew(size)
					b.look()
					b.take(1)
					b.putNew(2)
					b.end()
				})
			}
		}
	}
}

// Promise 12.1: bytes go round.

// Each place at which bytes may begin, each number of them, and each Put, Take and Peek there.
func TestRound(t *testing.T) {
	for _, room := range []int{1, 2, 3, 7, 8} {
		for many := range room + 1 {
			for size := range room + 3 {
				laid(t, room, many, upTo(room), func(b *both) { b.putNew(size); b.end() })
				laid(t, room, many, upTo(room), func(b *both) { b.take(size); b.end() })
				laid(t, room, many, upTo(room), func(b *both) { b.peek(size); b.end() })
				laid(t, room, many, upTo(room), func(b *both) { b.peek(size); b.take(size); b.putNew(size); b.end() })
				laid(t, room, many, upTo(room), func(b *both) { b.take(size); b.putNew(room); b.look(); b.end() })
				laid(t, room, many, upTo(room), func(b *both) { b.putNew(size); b.take(many); b.look(); b.end() })
			}
			for _, n := range []int{-1, math.MaxInt, math.MinInt} {
				laid(t, room, many, upTo(room), func(b *both) { b.take(n); b.end() })
				laid(t, room, many, upTo(room), func(b *both) { b.peek(n); b.end() })
			}
		}
	}
}

// one makes one of the calls that a ring is tried with, Put and Take of each size up to one more than its room, and Clear.
func (b *both) one(i int) {
	b.t.Helper()
	sizes := b.want.room + 1
	switch {
	case i < sizes:
		b.putNew(i + 1)
	case i < 2*sizes:
		b.take(i - sizes + 1)
	default:
		b.clear()
	}
	b.counts()
}

// rows are all rows of so many of these calls.
func rows(t *testing.T, room, length int) {
	t.Helper()
	kinds, all := 2*room+3, 1
	for range length {
		all *= kinds
	}
	for row := range all {
		b := newBoth(t, room)
		for range length {
			b.one(row % kinds)
			row /= kinds
		}
		b.end()
	}
}

func TestEachRowOfCalls(t *testing.T) {
	rows(t, 1, 6)
	rows(t, 2, 5)
	rows(t, 3, 4)
	rows(t, 4, 4)
	rows(t, 5, 4)
	rows(t, 7, 3)
	rows(t, 8, 3)
}

// mix makes many calls on a ring of so much room, the next one by chance of a fixed seed.
func mix(t *testing.T, room, many int, seed uint64) {
	t.Helper()
	b, d := newBoth(t, room), dice(seed)
	// So long as bytes come rather than go it is full most of the time, and then the other way round.
	comes := 5
	for range many {
		size := d.below(room + room/4 + 2)
		if d.below(3) > 0 {
			size = d.below(min(room, 9) + 1)
		}
		switch turn := d.below(12); {
		case turn < comes:
			b.put(d.text(size))
		case turn < 10:
			b.take(size - d.below(2))
		case turn < 11:
			b.peek(size - d.below(2))
		case d.below(10) == 0:
			b.clear()
		default:
			comes = 2 + d.below(7)
		}
		if b.counts(); d.below(2) == 0 {
			b.look()
		}
	}
	b.end()
}

func TestMixed(t *testing.T) {
	for seed := range uint64(20) {
		for _, room := range []int{1, 2, 3, 4, 5, 7, 8, 9, 15, 16, 17, 31, 64, 100, 255, 256, 257, 1000} {
			mix(t, room, 500, seed+1)
		}
	}
	for seed := range uint64(3) {
		for _, room := range []int{4096, 32768, 65535, 65536, 65537} {
			mix(t, room, 300, seed+100)
		}
	}
}

// The greatest rings, full and gone round.
func TestGreatRings(t *testing.T) {
	for _, room := range []int{most - 1, most} {
		mix(t, room, 60, 7)
		for _, begin := range []int{1, 65536, room / 2, room - 1} {
			b := newBoth(t, room)
			pass(b, begin)
			b.putNew(room - 1)
			b.look()
			b.take(begin - 1)
			b.putNew(room)
			b.look()
			b.putNew(1)
			b.end()
		}
	}
}

// Many bytes go through a ring, of which few wait.
func TestManyBytesPass(t *testing.T) {
	for _, x := range []struct{ room, waits, size int }{{1, 0, 1}, {2, 1, 1}, {3, 1, 2}, {7, 3, 4}, {10, 9, 1}, {255, 250, 5}, {1000, 500, 7}, {65537, 1000, 9999}} {
		b := newBoth(t, x.room)
		b.putNew(x.waits)
		for range 150000/x.size + 1 {
			b.putNew(x.size)
			b.take(x.size)
			b.calls = b.calls[:0]
		}
		b.end()
	}
}

// Promise 12.1: bytes are bytes.

func TestBytesOfEveryValue(t *testing.T) {
	for _, room := range []int{1, 2, 3, 256, 300} {
		b := newBoth(t, room)
		for i := range 256 {
			for _, s := range []string{string([]byte{byte(i)}), string([]byte{byte(i), 0}), string([]byte{255, byte(i), byte(i)})} {
				b.put(s)
				b.look()
				b.take(1)
				b.look()
			}
		}
		b.end()
	}
	every := make([]byte, 256)
	for i := range every {
		every[i] = byte(255 - i)
	}
	for begin := range 256 {
		b := newBoth(t, 256)
		pass(b, begin)
		b.put(string(every))
		b.look()
		for _, c := range every {
			if s := b.take(1); len(s) != 1 || s[0] != c {
				t.Fatalf("beginning at %d: byte %d came out as %q", begin, c, s)
			}
		}
	}
}

// Runes of two, three and four bytes are cut like any bytes, and bytes that are no rune stay.
func TestRunesAreBytes(t *testing.T) {
	for _, s := range []string{"\u00e4\u00f6\u00fc\u00df", "\u20ac\u20ac\u20ac", "\U0001f6a2\U0001f30a", "\xff\xfe\xc3\x28\xe2\x82", "a\u00e4\u20ac\U0001f6a2\x80z", "\x00\x00a\x00", "\r\n\t \"\\'"} {
		for room := 1; room <= len(s)+1; room++ {
			for n := range room + 1 {
				b := newBoth(t, room)
				b.put(s)
				b.look()
				b.take(n)
				b.put(s)
				b.look()
				b.end()
			}
		}
	}
}

// R4 and R5: what was answered stays as it was, and hangs on what was done to the same ring alone.

// answers are what Take and Peek answer, each with a copy made at once.
type answers struct{ got, want []string }

func (a *answers) keep(l ...string) {
	for _, s := range l {
		a.got = append(a.got, s)
		a.want = append(a.want, strings.Clone(s))
	}
}

func TestAnswersStay(t *testing.T) {
	for _, room := range []int{1, 2, 3, 7, 8, 64, 1000} {
		var kept answers
		b, d := newBoth(t, room), dice(room)
		for range 2000 {
			b.putNew(d.below(room + 2))
			kept.keep(b.peek(d.below(room+2)), b.take(d.below(room+2)), b.peek(1), b.take(1))
			if d.below(40) == 0 {
				b.clear()
			}
			b.look()
		}
		b.end()
		if !slices.Equal(kept.got, kept.want) {
			t.Errorf("room %d: what was answered is another now", room)
		}
	}
}

// No text can be written to, but whoever holds one is not to hold the ring, or another one, by it.
func TestAnswersAreNewMemory(t *testing.T) {
	for _, room := range []int{8, 64} {
		r := newRing(t, room)
		s := bytesFrom(0, room)
		l := []string{s}
		for range 5 {
			r.Put(s)
			l = append(l, r.Peek(room), r.Peek(room), r.Peek(3), r.Peek(3), r.Take(3), r.Take(room))
		}
		for at, s := range l {
			for _, other := range l[:at] {
				// Texts of one byte are the language's own, whoever makes them.
				if len(s) > 1 && unsafe.StringData(s) == unsafe.StringData(other) {
					t.Errorf("room %d: the text at place %d, %q, shares memory with another one", room, at, s)
				}
			}
		}
	}
}

// What comes in is copied: a ring does not hold the text that was handed in.
func TestTextsAreNotKept(t *testing.T) {
	for begin := range 8 {
		r := newRing(t, 8)
		r.Put(bytesFrom(0, begin))
		r.Take(begin)
		memory := []byte("abcdef")
		r.Put(unsafe.String(&memory[0], len(memory)))
		first := r.Take(2)
		copy(memory, "uvwxyz")
		if s := r.Take(8); first != "ab" || s != "cdef" {
			t.Errorf("beginning at %d: %q and %q, want ab and cdef", begin, first, s)
		}
	}
}

func TestTwoRingsShareNoBytes(t *testing.T) {
	for _, x := range [][2]int{{1, 1}, {2, 3}, {8, 8}, {7, 64}, {1000, 1000}} {
		first, second := newBoth(t, x[0]), newBoth(t, x[1])
		second.count = 100
		first.look()
		first.putNew(x[0])
		second.look()
		second.putNew(x[1] - 1)
		for range x[0] + x[1] {
			first.take(1)
			second.look()
			second.putNew(1)
			first.look()
			first.putNew(2)
			second.look()
			second.take(2)
			first.look()
		}
		first.clear()
		second.look()
		first.putNew(1)
		second.end()
		first.end()
		second.clear()
		first.end()
		second.end()
	}
}

// What one ring gave another one may take, and neither sees what becomes of it.
func TestFromRingToRing(t *testing.T) {
	first, second := newBoth(t, 7), newBoth(t, 5)
	for range 100 {
		first.putNew(3)
		second.put(first.peek(2))
		second.look()
		second.put(first.take(3))
		first.look()
		first.put(second.take(2))
		second.look()
		first.put(first.peek(9))
		first.look()
		first.take(4)
		second.take(1)
	}
	first.end()
	second.end()
}

// R1: nil has nothing, and nothing happens to it.

func wantNothing(t *testing.T, r *ring.Ring) {
	t.Helper()
	for range 2 {
		if r.Len() != 0 || r.Room() != 0 {
			t.Errorf("nil: Len %d, Room %d, want 0, 0", r.Len(), r.Room())
		}
		for _, s := range []string{"", "a", "\x00", "abc", bytesFrom(0, 1000)} {
			if n := r.Put(s); n != 0 {
				t.Errorf("nil: Put(%s): %d, want 0", short(s), n)
			}
		}
		for _, n := range append(farNumbers(), -1, 0, 1, 2, 3, most) {
			if s := r.Take(n); s != "" {
				t.Errorf("nil: Take(%d): %s, want none", n, short(s))
			}
			if s := r.Peek(n); s != "" {
				t.Errorf("nil: Peek(%d): %s, want none", n, short(s))
			}
		}
		r.Clear()
	}
}

func TestNil(t *testing.T) {
	wantNothing(t, nil)
	refused, _ := ring.New(0)
	wantNothing(t, refused)
	b := newBoth(t, 3)
	b.putNew(2)
	wantNothing(t, nil)
	b.end()
}
