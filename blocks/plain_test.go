package blocks_test

import (
	"strconv"
	"strings"
	"testing"

	"lightship/api"
	"lightship/blocks"
)

// most is the greatest room that there may be, and longest the greatest size.
const (
	most    = 1 << 20
	longest = 32768
)

// plain is what blocks are held against: a text, how many bytes of it are a block, and how many may wait.
type plain struct {
	size, room int
	text       string
}

func (p *plain) write(s string) int {
	n := p.room - len(p.text)
	if n > len(s) {
		n = len(s)
	}
	p.text += s[:n]
	return n
}

func (p *plain) next(flush bool) (string, bool) {
	n := p.size
	switch {
	case len(p.text) >= n:
	case flush && len(p.text) > 0:
		n = len(p.text)
	default:
		return "", false
	}
	s := p.text[:n]
	p.text = p.text[n:]
	return s, true
}

// may: whether there are blocks of that size with that room.
func may(size, room int) bool {
	return 1 <= size && size <= longest && size <= room && room <= most
}

// both are blocks and the text that they are held against, to which the same is done; and what was done so far.
type both struct {
	t      *testing.T
	blocks *blocks.Blocks
	want   plain
	calls  []string
	count  int
}

// newBlocks are blocks of so many bytes, with so much room.
func newBlocks(t *testing.T, size, room int) *blocks.Blocks {
	t.Helper()
	b, err := blocks.New(size, room)
	if b == nil || err != api.OK {
		t.Fatalf("New(%d, %d): %v, %d, want blocks, OK", size, room, b, err)
	}
	return b
}

func newBoth(t *testing.T, size, room int) *both {
	t.Helper()
	return &both{t: t, blocks: newBlocks(t, size, room), want: plain{size: size, room: room}}
}

// bytesFrom are so many bytes, the next one always one more, but behind 250 comes 0: no two that stand apart by a power of 2 are alike.
func bytesFrom(from, many int) string {
	made := make([]byte, many)
	for i := range made {
		made[i] = byte((from + i) % 251)
	}
	return string(made)
}

// short is a text as it is told: its beginning, and how many bytes it has.
func short(s string) string {
	return strconv.Quote(s[:min(len(s), 40)]) + " (" + strconv.Itoa(len(s)) + " bytes)"
}

// told is what was done so far, the last calls alone if there were many.
func (b *both) told() string {
	return "size " + strconv.Itoa(b.want.size) + ", room " + strconv.Itoa(b.want.room) + ": " + strings.Join(b.calls[max(0, len(b.calls)-40):], ", ")
}

// did notes a call; the first ones of many are forgotten.
func (b *both) did(call string) {
	if len(b.calls) > 200 {
		b.calls = append(b.calls[:0], b.calls[160:]...)
	}
	b.calls = append(b.calls, call)
}

// counts asks how many bytes wait, and how many come in still, and whether they are the room together.
func (b *both) counts() {
	b.t.Helper()
	many, left := b.blocks.Len(), b.blocks.Room()
	if want := len(b.want.text); many != want {
		b.t.Fatalf("%s; Len: %d, want %d", b.told(), many, want)
	}
	if want := b.want.room - len(b.want.text); left != want {
		b.t.Fatalf("%s; Room: %d, want %d", b.told(), left, want)
	}
	if many+left != b.want.room {
		b.t.Fatalf("%s; Len %d and Room %d are not %d", b.told(), many, left, b.want.room)
	}
}

// write writes s into both.
func (b *both) write(s string) int {
	b.t.Helper()
	b.did("Write of " + strconv.Itoa(len(s)))
	before := strings.Clone(s)
	got, want := b.blocks.Write(s), b.want.write(s)
	if got != want {
		b.t.Fatalf("%s: %d, want %d", b.told(), got, want)
	}
	if s != before {
		b.t.Fatalf("%s: changed its text", b.told())
	}
	return got
}

// writeNew writes so many bytes that go on behind those written ahead.
func (b *both) writeNew(many int) int {
	b.t.Helper()
	s := bytesFrom(b.count, many)
	b.count += many
	return b.write(s)
}

func (b *both) next(flush bool) (string, bool) {
	b.t.Helper()
	b.did("Next(" + strconv.FormatBool(flush) + ")")
	got, is := b.blocks.Next(flush)
	want, may := b.want.next(flush)
	if got != want || is != may {
		b.t.Fatalf("%s: %s, %t, want %s, %t", b.told(), short(got), is, short(want), may)
	}
	return got, is
}

func (b *both) clear() {
	b.t.Helper()
	b.did("Clear")
	b.blocks.Clear()
	b.want.text = ""
}

// all takes all that wait: the whole blocks, and the rest with a flush.
func (b *both) all() {
	b.t.Helper()
	for {
		if _, is := b.next(false); !is {
			break
		}
	}
	b.next(false)
	b.next(true)
}

// flushed takes all that wait with flushes alone.
func (b *both) flushed() {
	b.t.Helper()
	for {
		if _, is := b.next(true); !is {
			break
		}
	}
}

// end asks how many bytes wait, takes all of them, fills the whole room, and takes all anew.
func (b *both) end() {
	b.t.Helper()
	b.counts()
	b.all()
	b.counts()
	b.next(true)
	b.writeNew(b.want.room + 1)
	b.counts()
	b.all()
	b.counts()
}

// ways are how so many bytes come to wait where none did, so many places behind where the first byte ever stood.
func ways() []func(b *both, begin, many int) {
	pass := func(b *both, many int) { b.writeNew(many); b.flushed() }
	return []func(b *both, begin, many int){
		func(b *both, begin, many int) { pass(b, begin); b.writeNew(many) },
		func(b *both, begin, many int) { pass(b, b.want.room); pass(b, begin); b.writeNew(many) },
		func(b *both, begin, many int) {
			b.writeNew(b.want.room)
			b.next(false)
			b.clear()
			pass(b, begin)
			b.writeNew(many)
		},
		func(b *both, begin, many int) {
			for range begin {
				pass(b, 1)
			}
			for range many {
				b.writeNew(1)
			}
		},
		// Some came in with the block ahead of them, and the others behind it.
		func(b *both, begin, many int) {
			pass(b, b.want.room)
			pass(b, begin)
			ahead := min(b.want.size+many/2, b.want.room)
			b.writeNew(ahead)
			b.next(false)
			b.writeNew(many - (ahead - b.want.size))
		},
	}
}

// laid does something with blocks of that size and room of which so many bytes wait, one for each way and some of the places at which the bytes may begin.
func laid(t *testing.T, size, room, many int, do func(b *both)) {
	t.Helper()
	for _, lay := range ways() {
		for _, begin := range begins(room) {
			// Whoever counts may set right what a call finds wrong: nobody counts the first time.
			for _, count := range []bool{false, true} {
				b := newBoth(t, size, room)
				lay(b, begin, many)
				if len(b.want.text) != many {
					t.Fatalf("%s: %d bytes wait, and %d should", b.told(), len(b.want.text), many)
				}
				if count {
					b.counts()
				}
				do(b)
			}
		}
	}
}

// begins are the places at which the bytes may begin where there is so much room, or some of them.
func begins(room int) []int {
	if room <= 8 {
		return upTo(room)
	}
	return []int{0, 1, room / 2, room - 1}
}

// upTo are the numbers from 0 to n - 1.
func upTo(n int) []int {
	l := make([]int, n)
	for i := range l {
		l[i] = i
	}
	return l
}

// fills are how many bytes may wait, all numbers of them or those at the edges.
func fills(size, room int) []int {
	if room <= 9 {
		return upTo(room + 1)
	}
	var l []int
	for _, many := range []int{0, 1, size - 1, size, size + 1, 2*size - 1, 2 * size, 2*size + 1, room - size, room - 1, room} {
		if many >= 0 && many <= room {
			l = append(l, many)
		}
	}
	return l
}

// dice are numbers in no order, another row for each seed.
type dice uint64

// below is a number from 0 to n - 1.
func (d *dice) below(n int) int {
	*d = *d*6364136223846793005 + 1442695040888963407
	return int(uint64(*d)>>33) % n
}

// text is a text of so many bytes in no order, of all values.
func (d *dice) text(size int) string {
	made := make([]byte, size)
	for i := range made {
		made[i] = byte(d.below(256))
	}
	return string(made)
}
