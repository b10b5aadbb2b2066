package inbound_test

import (
	"math"
	"slices"
	"strconv"
	"strings"
	"testing"

	"lightship/api"
	"lightship/inbound"
)

// around is how many numbers there are.
const around = 1 << 32

// What Saw and Put answer.
const (
	old    = 0
	beyond = 1
	twice  = 2
	wanted = 3
	noBody = 4
)

// plainBody is a body that waits.
type plainBody struct {
	x    uint32
	body string
}

// plain is what a stream takes by the chapter's words, against which the others are held.
type plain struct {
	c      api.Config
	base   uint32
	bodies []plainBody
	// known are the numbers that were seen or put, those that are gone left out.
	known  []uint32
	text   string
	fin    uint32
	hasFin bool
}

// behind is how many numbers there are from a on till b comes: 0 to around - 1.
func behind(a, b uint32) int64 { return (int64(b) - int64(a) + around) % around }

// less: whether b is ahead of a, by less than half of all numbers.
func less(a, b uint32) bool { return behind(a, b) > 0 && behind(a, b) < around/2 }

// more is the number that is so many behind x.
func more(x uint32, many int) uint32 {
	return uint32(((int64(x)+int64(many))%around + around) % around)
}

// find is the place of x among the bodies that wait, or -1.
func (p *plain) find(x uint32) int {
	for i, b := range p.bodies {
		if b.x == x {
			return i
		}
	}
	return -1
}

func (p *plain) saw(x uint32) int {
	if less(x, p.base) {
		return old
	}
	if behind(p.base, x) >= int64(p.c.Window) {
		return beyond
	}
	if p.hasFin && !less(x, p.fin) {
		return beyond
	}
	if p.find(x) >= 0 {
		return twice
	}
	p.known = append(p.known, x)
	return wanted
}

func (p *plain) put(x uint32, body string) int {
	if less(x, p.base) {
		return old
	}
	if p.hasFin && !less(x, p.fin) {
		return beyond
	}
	if behind(p.base, x) >= int64(p.c.Window) {
		return beyond
	}
	if p.find(x) >= 0 {
		return twice
	}
	if len(body) == 0 {
		return noBody
	}
	p.bodies = append(p.bodies, plainBody{x, body})
	p.known = append(p.known, x)
	return wanted
}

func (p *plain) end(x uint32) api.Errno {
	if behind(p.base, x) > int64(p.c.Window) {
		return api.ErrRange
	}
	for _, b := range p.bodies {
		if !less(b.x, x) {
			return api.ErrRange
		}
	}
	if p.hasFin && p.fin != x {
		return api.ErrUnlike
	}
	p.fin, p.hasFin = x, true
	return api.OK
}

func (p *plain) deliver() int {
	came := 0
	for i := p.find(p.base); i >= 0 && len(p.text)+len(p.bodies[i].body) <= p.c.Queue; i = p.find(p.base) {
		body := p.bodies[i].body
		p.bodies = slices.Delete(p.bodies, i, i+1)
		p.base = more(p.base, 1)
		p.text += body
		came += len(body)
	}
	p.known = slices.DeleteFunc(p.known, func(x uint32) bool { return less(x, p.base) })
	return came
}

func (p *plain) read(n int) (string, api.Errno) {
	if n < 1 {
		return "", api.ErrArg
	}
	if p.text != "" {
		read := p.text[:min(n, len(p.text))]
		p.text = p.text[len(read):]
		return read, api.OK
	}
	if p.ended() {
		return "", api.ErrEOF
	}
	return "", api.OK
}

func (p *plain) ended() bool { return p.hasFin && p.fin == p.base }

func (p *plain) ack() uint32 {
	if p.ended() {
		return more(p.base, 1)
	}
	return p.base
}

func (p *plain) lacks() []uint32 {
	most := int64(-1)
	for _, x := range p.known {
		most = max(most, behind(p.base, x))
	}
	var l []uint32
	for far := range most + 1 {
		if x := more(p.base, int(far)); p.find(x) < 0 {
			l = append(l, x)
		}
	}
	return l
}

func (p *plain) held() int {
	n := len(p.text)
	for _, b := range p.bodies {
		n += len(b.body)
	}
	return n
}

// both are what a stream takes and the plain one that it is held against, to which the same is done; and what was done so far.
type both struct {
	t     *testing.T
	got   *inbound.In
	want  plain
	calls []string
}

func newIn(t *testing.T, c api.Config, stream int) *inbound.In {
	t.Helper()
	i, err := inbound.New(c, stream)
	if i == nil || err != api.OK {
		t.Fatalf("New of %v, %d: %v, %d, want one, OK", c, stream, i, err)
	}
	return i
}

func newBoth(t *testing.T, c api.Config) *both {
	t.Helper()
	b := &both{t: t, got: newIn(t, c, 3), want: plain{c: c}}
	b.state()
	return b
}

// told is what was done so far, the last calls alone if there were many.
func (b *both) told() string {
	return "Window " + strconv.Itoa(b.want.c.Window) + ", Queue " + strconv.Itoa(b.want.c.Queue) + ", base " + number(b.want.base) + ": " + strings.Join(b.calls[max(0, len(b.calls)-40):], ", ")
}

// did notes a call; the first ones of many are forgotten.
func (b *both) did(call string) {
	if len(b.calls) > 200 {
		b.calls = append(b.calls[:0], b.calls[150:]...)
	}
	b.calls = append(b.calls, call)
}

// number is a block's number as a text.
func number(x uint32) string { return strconv.FormatUint(uint64(x), 10) }

// short is a text as it is told: its beginning, and how many bytes it has.
func short(s string) string {
	return strconv.Quote(s[:min(len(s), 24)]) + " (" + strconv.Itoa(len(s)) + " bytes)"
}

// Helper is asked only where a call fails, here and below: it takes more time than the call.
func (b *both) saw(x uint32) int {
	b.did("Saw(" + number(x) + ")")
	got, want := b.got.Saw(x), b.want.saw(x)
	if got != want {
		b.t.Helper()
		b.t.Fatalf("%s: %d, want %d", b.told(), got, want)
	}
	b.state()
	return got
}

func (b *both) put(x uint32, body string) int {
	b.did("Put(" + number(x) + ", " + short(body) + ")")
	before := strings.Clone(body)
	got, want := b.got.Put(x, body), b.want.put(x, body)
	if got != want {
		b.t.Helper()
		b.t.Fatalf("%s: %d, want %d", b.told(), got, want)
	}
	if body != before {
		b.t.Helper()
		b.t.Fatalf("%s: changed its body", b.told())
	}
	b.state()
	return got
}

func (b *both) fin(x uint32) api.Errno {
	b.did("Fin(" + number(x) + ")")
	got, want := b.got.Fin(x), b.want.end(x)
	if got != want {
		b.t.Helper()
		b.t.Fatalf("%s: %d, want %d", b.told(), got, want)
	}
	b.state()
	return got
}

func (b *both) deliver() int {
	b.did("Deliver")
	got, want := b.got.Deliver(), b.want.deliver()
	if got != want {
		b.t.Helper()
		b.t.Fatalf("%s: %d, want %d", b.told(), got, want)
	}
	b.state()
	return got
}

func (b *both) read(n int) (string, api.Errno) {
	b.did("Read(" + strconv.Itoa(n) + ")")
	got, err := b.got.Read(n)
	want, wantErr := b.want.read(n)
	if got != want || err != wantErr {
		b.t.Helper()
		b.t.Fatalf("%s: %s, %d, want %s, %d", b.told(), short(got), err, short(want), wantErr)
	}
	b.state()
	return got, err
}

// state asks all that changes nothing.
func (b *both) state() {
	if next, window := b.got.Ack(); next != b.want.ack() || window != b.want.c.Window {
		b.t.Helper()
		b.t.Fatalf("%s; Ack: %d, %d, want %d, %d", b.told(), next, window, b.want.ack(), b.want.c.Window)
	}
	if got, want := b.got.Lacks(), b.want.lacks(); !slices.Equal(got, want) {
		b.t.Helper()
		b.t.Fatalf("%s; Lacks: %v, want %v", b.told(), got, want)
	}
	if got, want := b.got.Ended(), b.want.ended(); got != want {
		b.t.Helper()
		b.t.Fatalf("%s; Ended: %t, want %t", b.told(), got, want)
	}
	if got, want := b.got.Held(), b.want.held(); got != want {
		b.t.Helper()
		b.t.Fatalf("%s; Held: %d, want %d", b.told(), got, want)
	}
}

// end sees what is kept: which blocks are wanted, and how far, which Fin there is, and all bytes, those of blocks that lack put in.
func (b *both) end() {
	b.t.Helper()
	window := b.want.c.Window
	for far := window + 1; far >= -2; far-- {
		b.put(more(b.want.base, far), "")
	}
	if b.want.hasFin {
		b.fin(more(b.want.base, 1))
		b.fin(b.want.fin)
	}
	for far := -1; far <= window; far++ {
		b.put(more(b.want.base, far), "e")
	}
	// A body that is longer than the queue stays.
	for range window + 2 {
		b.deliver()
		b.read(math.MaxInt)
	}
	for far := -1; far <= window; far++ {
		b.saw(more(b.want.base, far))
	}
	b.fin(b.want.base)
	b.read(1)
}

// lay puts a body of its own at each of those places behind the base.
func (b *both) lay(places ...int) {
	b.t.Helper()
	for _, place := range places {
		if told := b.put(more(b.want.base, place), bodyOf(place)); told != wanted {
			b.t.Fatalf("%s: %d, want 3", b.told(), told)
		}
	}
}

// bodyOf are some bytes, 1 to 3 of them, that others near it have not.
func bodyOf(place int) string {
	return strings.Repeat(string([]byte{byte('A' + place%59)}), 1+place%3)
}

// went is what a stream takes of which so many blocks are gone already; nothing waits, and nothing is known of the others.
func went(t *testing.T, c api.Config, ahead int) *both {
	t.Helper()
	b := newBoth(t, c)
	for range ahead {
		if b.got.Put(b.want.base, "a") != b.want.put(b.want.base, "a") || b.got.Deliver() != b.want.deliver() {
			t.Fatalf("%s: it does not go on by one", b.told())
		}
		b.got.Read(1)
		b.want.read(1)
	}
	b.did(strconv.Itoa(ahead) + " blocks were read")
	b.state()
	return b
}

// made are settings of that Window and that Queue: which blocks there are is asked by none of the calls.
func made(window, queue int) api.Config {
	return api.Config{K: 1, Repair: 0, Size: 1, Window: window, Buffer: 1, Queue: queue, Quantum: 1, Table: 1, Work: 1, Workers: 1, Timeout: 1}
}

// plainMade are the settings of chapter 26's Plain, written out.
func plainMade() api.Config {
	return api.Config{K: 4, Repair: 2, Size: 16, Window: 4, Buffer: 256, Queue: 256, Quantum: 64, Table: 4096, Work: 16, Workers: 2, Timeout: 8}
}

// small are several small settings.
func small() []api.Config {
	return []api.Config{made(1, 1), made(1, 5), made(2, 1), made(2, 4), made(3, 3), made(4, 9), made(7, 6), plainMade()}
}

// windows are Windows at the edges, and some between.
func windows() []int { return []int{1, 2, 3, 7, 63, 64} }

// aheads are how many blocks may be gone already: none, one, as many as the window, and many windows.
func aheads(window int) []int { return []int{0, 1, window, 5*window + 3} }

// farAway are how far from base a number may be, beyond what is near it.
func farAway() []int {
	l := []int{62, 63, 64, 65, 66, 127, 128, 255, 256, 65535, 65536, 1 << 24, 1 << 30, 1<<31 - 65, 1<<31 - 64, 1<<31 - 2, 1<<31 - 1, 1 << 31, 1<<31 + 1, 1<<31 + 2, 1<<31 + 64, 1<<31 + 65, 3 << 30}
	for _, far := range l[:len(l):len(l)] {
		l = append(l, -far)
	}
	return l
}

// near are the numbers from some below the base up to some beyond the window, by how far they are from it.
func near(window int) []int {
	var l []int
	for far := -4; far <= window+4; far++ {
		l = append(l, far)
	}
	return l
}

// somePlaces are some choices of places of the window: none, one, several, all.
func somePlaces(window int) [][]int {
	all := make([]int, window)
	for i := range all {
		all[i] = i
	}
	odd := slices.DeleteFunc(slices.Clone(all), func(place int) bool { return place%2 == 0 })
	return [][]int{nil, {0}, {window - 1}, {window / 2}, odd, all}
}

// farInts are the greatest and the least ints, and those whose last 8, 16, 20, 32 or 40 bits are small.
func farInts() []int {
	l := []int{math.MaxInt, math.MaxInt - 1, math.MinInt, math.MinInt + 1}
	for _, low := range []int{-1, 0, 1, 2, 64} {
		for _, base := range []int{-1 << 62, -1 << 41, -1 << 32, -1 << 31, -1 << 16, -256, 1 << 41, 1 << 42, 1 << 48, 1 << 62} {
			l = append(l, base+low)
		}
	}
	return l
}

// dice are numbers in no order, another row for each seed.
type dice uint64

// below is a number from 0 to n - 1.
func (d *dice) below(n int) int {
	*d = *d*6364136223846793005 + 1442695040888963407
	return int(uint64(*d)>>33) % n
}

// text is a text of so many bytes in no order, of all values.
func (d *dice) text(size int) string {
	made := make([]byte, size)
	for i := range made {
		made[i] = byte(d.below(256))
	}
	return string(made)
}

// letters are n bytes of which each piece of some is unlike the next one.
func letters(n int) string {
	made := make([]byte, n)
	for i := range made {
		made[i] = byte(1 + i%250 + i/250)
	}
	return string(made)
}
