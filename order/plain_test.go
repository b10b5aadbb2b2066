package order_test

import (
	"math"
	"slices"
	"strconv"
	"strings"
	"testing"

	"lightship/api"
	"lightship/order"
)

// around is how many numbers there are.
const around = 1 << 32

// What Put answers.
const (
	old     = 0
	beyond  = 1
	twice   = 2
	waiting = 3
	noBody  = 4
)

// plainBody is a body that waits.
type plainBody struct {
	x    uint32
	body string
}

// plain is an order that goes by the chapter's words, against which the others are held.
type plain struct {
	window int
	base   uint32
	waits  []plainBody
}

// behind is how many numbers there are from a on till b comes: 0 to around - 1.
func behind(a, b uint32) int64 { return (int64(b) - int64(a) + around) % around }

// less: whether b is ahead of a, by less than half of all numbers.
func less(a, b uint32) bool { return behind(a, b) > 0 && behind(a, b) < around/2 }

// more is the number that is so many behind x.
func more(x uint32, many int) uint32 {
	return uint32(((int64(x)+int64(many))%around + around) % around)
}

// find is the place of x among those that wait, or -1.
func (p *plain) find(x uint32) int {
	for i, b := range p.waits {
		if b.x == x {
			return i
		}
	}
	return -1
}

func (p *plain) put(x uint32, body string) int {
	if less(x, p.base) {
		return old
	}
	if behind(p.base, x) >= int64(p.window) {
		return beyond
	}
	if p.find(x) >= 0 {
		return twice
	}
	if len(body) == 0 {
		return noBody
	}
	p.waits = append(p.waits, plainBody{x, body})
	return waiting
}

func (p *plain) next(room int) (string, bool) {
	i := p.find(p.base)
	if i < 0 || len(p.waits[i].body) > room {
		return "", false
	}
	body := p.waits[i].body
	p.waits = append(p.waits[:i:i], p.waits[i+1:]...)
	p.base = more(p.base, 1)
	return body, true
}

// call is one that was made: of Put with a number and a body, or of Next with room.
type call struct {
	puts bool
	n    int
	body string
}

// both are an order and the plain one that it is held against, to which the same is done; and what was done so far.
type both struct {
	t     *testing.T
	got   *order.Order
	want  plain
	first uint32
	calls []call
}

func newOrder(t *testing.T, base uint32, window int) *order.Order {
	t.Helper()
	o, err := order.New(base, window)
	if o == nil || err != api.OK {
		t.Fatalf("New(%d, %d): %v, %d, want an order, OK", base, window, o, err)
	}
	return o
}

func newBoth(t *testing.T, base uint32, window int) *both {
	t.Helper()
	return &both{t: t, got: newOrder(t, base, window), want: plain{window: window, base: base}, first: base}
}

// told is what was done so far, the last calls alone if there were many.
func (b *both) told() string {
	var l []string
	for _, c := range b.calls[max(0, len(b.calls)-30):] {
		if c.puts {
			l = append(l, "Put("+strconv.Itoa(c.n)+", "+short(c.body)+")")
		} else {
			l = append(l, "Next("+strconv.Itoa(c.n)+")")
		}
	}
	return "base " + number(b.first) + ", window " + strconv.Itoa(b.want.window) + ": " + strings.Join(l, ", ")
}

// did notes a call; the first ones of many are forgotten.
func (b *both) did(c call) {
	if len(b.calls) > 200 {
		b.calls = append(b.calls[:0], b.calls[160:]...)
	}
	b.calls = append(b.calls, c)
}

// number is a block's number as a text.
func number(x uint32) string { return strconv.FormatUint(uint64(x), 10) }

// short is a text as it is told: its beginning, and how many bytes it has.
func short(s string) string {
	return strconv.Quote(s[:min(len(s), 16)]) + " (" + strconv.Itoa(len(s)) + " bytes)"
}

// Helper is asked only where a call fails, here and below: it takes more time than the call.
func (b *both) put(x uint32, body string) int {
	b.did(call{true, int(x), body})
	before := strings.Clone(body)
	got, want := b.got.Put(x, body), b.want.put(x, body)
	if got != want {
		b.t.Helper()
		b.t.Fatalf("%s: %d, want %d", b.told(), got, want)
	}
	if body != before {
		b.t.Helper()
		b.t.Fatalf("%s: changed its body", b.told())
	}
	return got
}

func (b *both) next(room int) (string, bool) {
	b.did(call{false, room, ""})
	got, is := b.got.Next(room)
	want, has := b.want.next(room)
	if got != want || is != has {
		b.t.Helper()
		b.t.Fatalf("%s: %s, %t, want %s, %t", b.told(), short(got), is, short(want), has)
	}
	return got, is
}

func (b *both) has(x uint32) {
	if got, want := b.got.Has(x), b.want.find(x) >= 0; got != want {
		b.t.Helper()
		b.t.Fatalf("%s; Has(%d): %t, want %t", b.told(), x, got, want)
	}
}

// counts asks the base, and how many bodies wait.
func (b *both) counts() {
	if got, want := b.got.Base(), b.want.base; got != want {
		b.t.Helper()
		b.t.Fatalf("%s; Base: %d, want %d", b.told(), got, want)
	}
	if got, want := b.got.Len(), len(b.want.waits); got != want {
		b.t.Helper()
		b.t.Fatalf("%s; Len: %d, want %d", b.told(), got, want)
	}
}

// look asks all that changes nothing: of each number of the window, some ahead of it and behind it, and some that are far away.
func (b *both) look() {
	b.t.Helper()
	b.counts()
	for far := -3; far < b.want.window+4; far++ {
		b.has(more(b.want.base, far))
	}
	for _, far := range farAway() {
		b.has(more(b.want.base, far))
	}
	b.has(b.first)
	b.counts()
}

// end lays a body wherever one lacks, and has all of them come out, so that each is seen that waits; then it does so once more.
func (b *both) end() {
	b.t.Helper()
	b.look()
	for range 2 {
		for far := range b.want.window {
			b.put(more(b.want.base, far), "end "+strconv.Itoa(far))
		}
		b.counts()
		for range b.want.window {
			if _, is := b.next(math.MaxInt); !is {
				b.t.Fatalf("%s: none, where %d wait", b.told(), len(b.want.waits))
			}
		}
		b.next(math.MaxInt)
		b.look()
	}
}

// lay puts a body of its own at each of those places of the window, in that order.
func (b *both) lay(places ...int) {
	b.t.Helper()
	for _, place := range places {
		if is := b.put(more(b.want.base, place), bodyOf(place)); is != waiting {
			b.t.Fatalf("%s: %d, want 3", b.told(), is)
		}
	}
}

// bodyOf are bytes as no other i below 256 has them.
func bodyOf(i int) string {
	return strings.Repeat(string([]byte{byte(i), byte(255 - i), byte(i * 7)}), 1+i%4) + strings.Repeat("\x00", i%3)
}

// moved does something with orders of that base and window in which nothing waits: with as many bodies ahead that are gone, and that came in one by one or all at once.
func moved(t *testing.T, base uint32, window int, do func(b *both)) {
	t.Helper()
	for _, ahead := range []int{0, 1, window, window + 1, 2*window + 3} {
		for _, atOnce := range []int{1, window} {
			b := newBoth(t, more(base, -ahead), window)
			for left := ahead; left > 0; left -= atOnce {
				for far := min(left, atOnce) - 1; far >= 0; far-- {
					b.put(more(b.want.base, far), "ahead")
				}
				for range min(left, atOnce) {
					b.next(5)
				}
			}
			if b.want.base != base || len(b.want.waits) != 0 {
				t.Fatalf("%s: base %d, %d wait, and there should be %d, 0", b.told(), b.want.base, len(b.want.waits), base)
			}
			do(b)
		}
	}
}

// bases are numbers at which an order may begin: at the edges, and so that its window goes round at half of all numbers, and at all of them.
func bases() []uint32 {
	return []uint32{0, 1, 2, 5, 255, 256, 65535, 1 << 30, 1<<31 - 64, 1<<31 - 3, 1<<31 - 1, 1 << 31, 1<<31 + 1, math.MaxUint32 - 63, math.MaxUint32 - 2, math.MaxUint32 - 1, math.MaxUint32}
}

// windows are how many numbers may wait.
func windows() []int { return []int{1, 2, 3, 7, 63, 64} }

// may: whether there may be such a window.
func may(window int) bool { return 1 <= window && window <= 64 }

// farAway are how far from base a number may be.
func farAway() []int {
	l := []int{5, 62, 63, 64, 65, 66, 127, 128, 255, 256, 65535, 65536, 1 << 24, 1 << 30, 1<<31 - 65, 1<<31 - 64, 1<<31 - 2, 1<<31 - 1, 1 << 31, 1<<31 + 1, 1<<31 + 2, 1<<31 + 64, 1<<31 + 65, 3 << 30}
	for _, far := range l[:len(l):len(l)] {
		l = append(l, -far)
	}
	return l
}

// farInts are the greatest and the least ints, and those whose last 8, 16, 20, 32 or 40 bits are small.
func farInts() []int {
	l := []int{math.MaxInt, math.MaxInt - 1, math.MinInt, math.MinInt + 1}
	for _, low := range []int{-1, 0, 1, 2, 64} {
		for _, base := range []int{-1 << 62, -1 << 41, -1 << 32, -1 << 31, -1 << 16, -256, 256, 1 << 16, 1 << 31, 1 << 32, 1 << 41, 1 << 62} {
			l = append(l, base+low)
		}
	}
	return l
}

// rooms are rooms at the edges, beside a body of so many bytes.
func rooms(size int) []int {
	return append(farInts(), -2, -1, 0, 1, 2, size-1, size, size+1, size+2, 2*size, 1<<32+size, 1<<32+size-1, -size)
}

// orders does something with all orders of so many places.
func orders(many int, do func(l []int)) {
	l := make([]int, many)
	for i := range l {
		l[i] = i
	}
	var from func(i int)
	from = func(i int) {
		if i == many {
			do(slices.Clone(l))
			return
		}
		for j := i; j < many; j++ {
			l[i], l[j] = l[j], l[i]
			from(i + 1)
			l[i], l[j] = l[j], l[i]
		}
	}
	from(0)
}

// dice are numbers in no order, another row for each seed.
type dice uint64

// below is a number from 0 to n - 1.
func (d *dice) below(n int) int {
	*d = *d*6364136223846793005 + 1442695040888963407
	return int(uint64(*d)>>33) % n
}

// text is a text of so many bytes in no order, of all values.
func (d *dice) text(size int) string {
	made := make([]byte, size)
	for i := range made {
		made[i] = byte(d.below(256))
	}
	return string(made)
}

// shuffled are the places 0 to many - 1 in no order.
func (d *dice) shuffled(many int) []int {
	l := make([]int, many)
	for i := range l {
		j := d.below(i + 1)
		l[i], l[j] = l[j], i
	}
	return l
}
