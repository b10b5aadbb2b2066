package flight_test

import (
	"math"
	"slices"
	"strconv"
	"strings"
	"testing"

	"lightship/api"
	"lightship/flight"
)

// lastTime is the last time that there may be, and around how many numbers there are.
const (
	lastTime = 1 << 40
	around   = 1 << 32
)

// plainBlock is a block that was sent.
type plainBlock struct {
	number uint32
	body   string
	n, at  int
}

// plain is a flight that goes by the chapter's words, against which the others are held.
type plain struct {
	window int
	next   uint32
	blocks []plainBlock
}

// above: whether b is ahead of a, by less than half of all numbers.
func above(a, b uint32) bool {
	far := (int64(b) - int64(a) + around) % around
	return far > 0 && far < around/2
}

// isTime: whether that may be a time.
func isTime(at int) bool { return 0 <= at && at <= lastTime }

// refused: whether there may be no such block.
func refused(body string, n, at int) bool {
	return len(body) == 0 || n < 1 || n > 255 || !isTime(at)
}

func (p *plain) add(body string, n, at int) (uint32, api.Errno) {
	if refused(body, n, at) {
		return 0, api.ErrArg
	}
	if len(p.blocks) == p.window {
		return 0, api.ErrFull
	}
	b := plainBlock{p.next, body, n, at}
	p.blocks = append(p.blocks, b)
	p.next = uint32((int64(p.next) + 1) % around)
	return b.number, api.OK
}

func (p *plain) ack(next uint32) int {
	if above(p.next, next) {
		return 0
	}
	var stay []plainBlock
	for _, b := range p.blocks {
		if !above(b.number, next) {
			stay = append(stay, b)
		}
	}
	gone := len(p.blocks) - len(stay)
	p.blocks = stay
	return gone
}

// at is the block with that number, or nil.
func (p *plain) at(number uint32) *plainBlock {
	for i := range p.blocks {
		if p.blocks[i].number == number {
			return &p.blocks[i]
		}
	}
	return nil
}

// marked are the marks, false or true, and whether have is marks.
func marked(have string) ([256]bool, bool) {
	var l [256]bool
	if len(have) != 32 {
		return l, false
	}
	for i := range l {
		l[i] = have[i/8]>>(i%8)&1 == 1
	}
	return l, true
}

func (p *plain) wants(number uint32, have string, need int) []api.Send {
	b := p.at(number)
	marks, are := marked(have)
	if b == nil || !are {
		return nil
	}
	for _, mark := range marks {
		if mark && need > math.MinInt {
			need--
		}
	}
	var l []api.Send
	for place := 0; place < b.n; place++ {
		if !marks[place] && len(l) < need {
			l = append(l, api.Send{Block: number, Index: place})
		}
	}
	return l
}

func (p *plain) due(now, wait int) []uint32 {
	if !isTime(now) || !isTime(wait) {
		return nil
	}
	var l []uint32
	for i, b := range p.blocks {
		if b.at+wait <= now {
			l = append(l, b.number)
			p.blocks[i].at = now
		}
	}
	return l
}

func (p *plain) body(number uint32) (string, int, bool) {
	if b := p.at(number); b != nil {
		return b.body, b.n, true
	}
	return "", 0, false
}

func (p *plain) base() uint32 {
	if len(p.blocks) == 0 {
		return p.next
	}
	return p.blocks[0].number
}

// may: whether there may be so many blocks.
func may(window int) bool { return 1 <= window && window <= 64 }

// both are a flight and the plain one that it is held against, to which the same is done; and what was done so far.
type both struct {
	t     *testing.T
	got   *flight.Flight
	want  plain
	first uint32
	calls []string
}

func newFlight(t *testing.T, base uint32, window int) *flight.Flight {
	t.Helper()
	f, err := flight.New(base, window)
	if f == nil || err != api.OK {
		t.Fatalf("New(%d, %d): %v, %d, want a flight, OK", base, window, f, err)
	}
	return f
}

func newBoth(t *testing.T, base uint32, window int) *both {
	t.Helper()
	return &both{t: t, got: newFlight(t, base, window), want: plain{window: window, next: base}, first: base}
}

// told is what was done so far, the last calls alone if there were many.
func (b *both) told() string {
	return "base " + number(b.first) + ", window " + strconv.Itoa(b.want.window) + ": " + strings.Join(b.calls[max(0, len(b.calls)-30):], ", ")
}

// did notes a call; the first ones of many are forgotten.
func (b *both) did(call string) {
	if len(b.calls) > 200 {
		b.calls = append(b.calls[:0], b.calls[160:]...)
	}
	b.calls = append(b.calls, call)
}

// number is a block's number as a text.
func number(x uint32) string { return strconv.FormatUint(uint64(x), 10) }

// ints are some ints as a text.
func ints(l ...int) string {
	var told []string
	for _, i := range l {
		told = append(told, strconv.Itoa(i))
	}
	return strings.Join(told, ", ")
}

// short is a text as it is told: its beginning, and how many bytes it has.
func short(s string) string {
	return strconv.Quote(s[:min(len(s), 32)]) + " (" + strconv.Itoa(len(s)) + " bytes)"
}

func (b *both) add(body string, n, at int) (uint32, api.Errno) {
	b.t.Helper()
	b.did("Add(" + short(body) + ", " + ints(n, at) + ")")
	before := strings.Clone(body)
	x, err := b.got.Add(body, n, at)
	y, want := b.want.add(body, n, at)
	if x != y || err != want {
		b.t.Fatalf("%s: %d, %d, want %d, %d", b.told(), x, err, y, want)
	}
	if body != before {
		b.t.Fatalf("%s: changed its body", b.told())
	}
	return x, err
}

func (b *both) ack(next uint32) int {
	b.t.Helper()
	b.did("Ack(" + number(next) + ")")
	got, want := b.got.Ack(next), b.want.ack(next)
	if got != want {
		b.t.Fatalf("%s: %d, want %d", b.told(), got, want)
	}
	return got
}

func (b *both) wants(block uint32, have string, need int) []api.Send {
	b.t.Helper()
	before := strings.Clone(have)
	got, want := b.got.Wants(block, have, need), b.want.wants(block, have, need)
	if !slices.Equal(got, want) {
		b.t.Fatalf("%s; Wants(%d, %s, %d): %v, want %v", b.told(), block, short(have), need, got, want)
	}
	if have != before {
		b.t.Fatalf("%s; Wants(%d, %s, %d) changed its marks", b.told(), block, short(have), need)
	}
	return got
}

func (b *both) due(now, wait int) []uint32 {
	b.t.Helper()
	b.did("Due(" + ints(now, wait) + ")")
	got, want := b.got.Due(now, wait), b.want.due(now, wait)
	if !slices.Equal(got, want) {
		b.t.Fatalf("%s: %v, want %v", b.told(), got, want)
	}
	return got
}

func (b *both) body(block uint32) {
	b.t.Helper()
	body, n, is := b.got.Body(block)
	want, many, has := b.want.body(block)
	if body != want || n != many || is != has {
		b.t.Fatalf("%s; Body(%d): %s, %d, %t, want %s, %d, %t", b.told(), block, short(body), n, is, short(want), many, has)
	}
}

// counts asks the next number, the first one, and how many blocks there are.
func (b *both) counts() {
	b.t.Helper()
	if got, want := b.got.Next(), b.want.next; got != want {
		b.t.Fatalf("%s; Next: %d, want %d", b.told(), got, want)
	}
	if got, want := b.got.Base(), b.want.base(); got != want {
		b.t.Fatalf("%s; Base: %d, want %d", b.told(), got, want)
	}
	if got, want := b.got.Len(), len(b.want.blocks); got != want {
		b.t.Fatalf("%s; Len: %d, want %d", b.told(), got, want)
	}
}

// near are the numbers from two ahead of the first block's to two behind the next one, and some that are far away.
func (b *both) near() []uint32 {
	var l []uint32
	for x := b.want.base() - 2; x != b.want.next+3; x++ {
		l = append(l, x)
	}
	for _, far := range []uint32{1 << 8, 1 << 16, 1<<31 - 66, 1<<31 - 65, 1<<31 - 64, 1<<31 - 2, 1<<31 - 1, 1 << 31, 1<<31 + 1, 1<<31 + 2, 1<<31 + 64, 1<<31 + 65, 1<<32 - 1<<16, 1<<32 - 1<<8} {
		l = append(l, b.want.next+far, b.want.base()+far)
	}
	return l
}

// look asks all that changes nothing: each block that is there, and some that are not.
func (b *both) look() {
	b.t.Helper()
	b.counts()
	for _, x := range b.near() {
		b.body(x)
	}
	for _, x := range []uint32{b.want.base() - 1, b.want.base(), b.want.next - 1, b.want.next} {
		b.wants(x, someHad, 5)
	}
	b.counts()
}

// end asks all blocks, and what is due at each time at which one is, and lets them go one by one.
func (b *both) end() {
	b.t.Helper()
	b.look()
	times := []int{0}
	for _, x := range b.want.blocks {
		times = append(times, max(0, x.at-1), x.at, min(x.at+1, lastTime))
	}
	slices.Sort(times)
	for _, now := range slices.Compact(times) {
		b.due(now, 0)
	}
	b.look()
	for len(b.want.blocks) > 0 {
		if gone := b.ack(b.want.base() + 1); gone != 1 {
			b.t.Fatalf("%s: %d, want 1", b.told(), gone)
		}
		b.counts()
	}
	b.look()
}

// fill adds as many blocks, unlike in their bodies, in how many shards they have, and in when they were sent.
func (b *both) fill(many int) {
	b.t.Helper()
	for i := range many {
		b.add(bodyOf(i), 1+i*37%255, 10*((i*7+3)%11))
	}
}

// bodyOf are bytes as no other i below 300 has them.
func bodyOf(i int) string {
	return strings.Repeat(string([]byte{byte(i), byte(255 - i), byte(i * 7)}), 1+i/50) + strings.Repeat("\x00", i%3)
}

// laid does something with flights of that base and window with so many blocks: with as many ones ahead of them that are gone.
func laid(t *testing.T, base uint32, window, many int, do func(b *both)) {
	t.Helper()
	for _, ahead := range []int{0, 1, window, window + 1, 2*window + 3} {
		b := newBoth(t, base-uint32(ahead), window)
		for range ahead {
			b.add("ahead", 9, 3)
			b.ack(b.want.next)
		}
		b.fill(many)
		if len(b.want.blocks) != many || b.want.base() != base {
			t.Fatalf("%s: there are %d blocks from %d on, and there should be %d from %d on", b.told(), len(b.want.blocks), b.want.base(), many, base)
		}
		do(b)
	}
}

// bases are numbers at which a flight may begin: at the edges, and so that blocks go round at half of all numbers, and at all of them.
func bases() []uint32 {
	return []uint32{0, 1, 2, 5, 255, 256, 65535, 1 << 30, 1<<31 - 64, 1<<31 - 3, 1<<31 - 1, 1 << 31, 1<<31 + 1, math.MaxUint32 - 63, math.MaxUint32 - 2, math.MaxUint32 - 1, math.MaxUint32}
}

// windows are how many blocks there may be.
func windows() []int { return []int{1, 2, 3, 7, 63, 64} }

// fills are how many blocks there are where there may be window.
func fills(window int) []int {
	l := []int{0, 1, 2, window / 2, window - 1, window}
	slices.Sort(l)
	l = slices.Compact(l)
	return slices.DeleteFunc(l, func(many int) bool { return many > window })
}

// someHad are the marks 0, 3 and 255.
const someHad = "\x09\x00\x00\x00\x00\x00\x00\x00\x00\x00\x00\x00\x00\x00\x00\x00\x00\x00\x00\x00\x00\x00\x00\x00\x00\x00\x00\x00\x00\x00\x00\x80"

// marks are those of these places.
func marks(places ...int) string {
	made := make([]byte, 32)
	for _, i := range places {
		made[i/8] |= 1 << (i % 8)
	}
	return string(made)
}

// marksTo are the marks of the places from first to last - 1.
func marksTo(first, last int) string {
	var l []int
	for i := first; i < last; i++ {
		l = append(l, i)
	}
	return marks(l...)
}

// farInts are the greatest and the least ints, and those whose last 8, 16, 20, 32 or 40 bits are small.
func farInts() []int {
	l := []int{math.MaxInt, math.MaxInt - 1, math.MinInt, math.MinInt + 1}
	for _, low := range []int{-1, 0, 1, 2, 64} {
		for _, base := range []int{-1 << 62, -1 << 41, -1 << 32, -1 << 31, -1 << 16, -256, 1 << 41, 1 << 42, 1 << 48, 1 << 62} {
			l = append(l, base+low)
		}
	}
	return l
}

// dice are numbers in no order, another row for each seed.
type dice uint64

// below is a number from 0 to n - 1.
func (d *dice) below(n int) int {
	*d = *d*6364136223846793005 + 1442695040888963407
	return int(uint64(*d)>>33) % n
}

// text is a text of so many bytes in no order, of all values.
func (d *dice) text(size int) string {
	made := make([]byte, size)
	for i := range made {
		made[i] = byte(d.below(256))
	}
	return string(made)
}
