package inbound_test

import (
	"math"
	"reflect"
	"runtime"
	"slices"
	"strconv"
	"strings"
	"testing"

	"lightship/api"
	"lightship/config"
	"lightship/inbound"
)

// hand is what a stream takes, of which the answers are written out.
type hand struct {
	t      *testing.T
	i      *inbound.In
	window int
}

func newHand(t *testing.T, c api.Config, stream int) hand {
	t.Helper()
	return hand{t, newIn(t, c, stream), c.Window}
}

func (h hand) saw(x uint32, want int) {
	h.t.Helper()
	if got := h.i.Saw(x); got != want {
		h.t.Errorf("Saw(%d): %d, want %d", x, got, want)
	}
}

func (h hand) put(x uint32, body string, want int) {
	h.t.Helper()
	if got := h.i.Put(x, body); got != want {
		h.t.Errorf("Put(%d, %s): %d, want %d", x, short(body), got, want)
	}
}

func (h hand) fin(x uint32, want api.Errno) {
	h.t.Helper()
	if err := h.i.Fin(x); err != want {
		h.t.Errorf("Fin(%d): %d, want %d", x, err, want)
	}
}

func (h hand) deliver(want int) {
	h.t.Helper()
	if came := h.i.Deliver(); came != want {
		h.t.Errorf("Deliver: %d, want %d", came, want)
	}
}

func (h hand) read(n int, want string, err api.Errno) {
	h.t.Helper()
	if got, is := h.i.Read(n); got != want || is != err {
		h.t.Errorf("Read(%d): %s, %d, want %s, %d", n, short(got), is, short(want), err)
	}
}

// state: what Ack names, how many bytes are held, whether it ended, and which blocks it lacks.
func (h hand) state(ack uint32, held int, ended bool, lacks ...uint32) {
	h.t.Helper()
	if next, window := h.i.Ack(); next != ack || window != h.window {
		h.t.Errorf("Ack: %d, %d, want %d, %d", next, window, ack, h.window)
	}
	if h.i.Held() != held || h.i.Ended() != ended {
		h.t.Errorf("Held %d, Ended %t, want %d, %t", h.i.Held(), h.i.Ended(), held, ended)
	}
	if l := h.i.Lacks(); !slices.Equal(l, lacks) {
		h.t.Errorf("Lacks: %v, want %v", l, lacks)
	}
}

// Promise 28.1: New.

// setting is one of a Config's fields: its name, the least and the greatest that it may be beside K 4 and Size 16, and where it stands.
type setting struct {
	name        string
	least, most int
	of          func(c *api.Config) *int
}

func settings() []setting {
	return []setting{
		{"K", 1, 32, func(c *api.Config) *int { return &c.K }},
		{"Repair", 0, 251, func(c *api.Config) *int { return &c.Repair }},
		{"Size", 1, 1024, func(c *api.Config) *int { return &c.Size }},
		{"Window", 1, 64, func(c *api.Config) *int { return &c.Window }},
		{"Buffer", 64, 1048576, func(c *api.Config) *int { return &c.Buffer }},
		{"Queue", 64, 1048576, func(c *api.Config) *int { return &c.Queue }},
		{"Quantum", 1, 65536, func(c *api.Config) *int { return &c.Quantum }},
		{"Table", 1, 65536, func(c *api.Config) *int { return &c.Table }},
		{"Work", 1, 4096, func(c *api.Config) *int { return &c.Work }},
		{"Workers", 1, 64, func(c *api.Config) *int { return &c.Workers }},
		{"Timeout", 1, 1048576, func(c *api.Config) *int { return &c.Timeout }},
	}
}

// wrongSettings are those of which chapter 26's Check has an error, by one setting that is too small or too great, or by several.
func wrongSettings() []api.Config {
	var l []api.Config
	for _, s := range settings() {
		for _, n := range append(farInts(), s.least-1, s.most+1) {
			if n < s.least || n > s.most {
				c := plainMade()
				*s.of(&c) = n
				l = append(l, c)
			}
		}
	}
	short := plainMade()
	short.K, short.Size, short.Queue = 8, 32, 255
	return append(l, api.Config{}, short, made(0, 0), made(65, 1<<20+1))
}

// noStreams are ints that are no stream.
func noStreams() []int {
	return append(farInts(), -2, -1, 256, 257, 511, 512, 65535, 65536)
}

// wantNone: nothing is there of these settings and that stream.
func wantNone(t *testing.T, c api.Config, stream int, want api.Errno) {
	t.Helper()
	if i, err := inbound.New(c, stream); i != nil || err != want {
		t.Errorf("New of %v, %d: %v, %d, want nil, %d", c, stream, i, err, want)
	}
}

func TestNewOfWrongSettings(t *testing.T) {
	for _, c := range wrongSettings() {
		if err := config.Check(c); err != api.ErrRange {
			t.Fatalf("Check of %v: %d, want ErrRange", c, err)
		}
		for _, stream := range []int{0, 7, 255} {
			wantNone(t, c, stream, config.Check(c))
		}
	}
}

func TestNewOfWrongStreams(t *testing.T) {
	for _, c := range small() {
		for _, stream := range noStreams() {
			wantNone(t, c, stream, api.ErrRange)
		}
	}
}

// Of both Check's error is answered: it is the one that is asked first.
func TestNewOfBothWrong(t *testing.T) {
	for _, c := range wrongSettings() {
		for _, stream := range []int{-1, 256, math.MaxInt, math.MinInt} {
			wantNone(t, c, stream, config.Check(c))
		}
	}
}

func TestNewOfEachStream(t *testing.T) {
	for stream := range 256 {
		for _, c := range small() {
			h := newHand(t, c, stream)
			for range 2 {
				h.state(0, 0, false)
				h.deliver(0)
				h.read(1, "", api.OK)
			}
			h.saw(0, wanted)
			h.state(0, 0, false, 0)
			h.put(0, "x", wanted)
			h.state(0, 1, false)
			h.fin(1, api.OK)
			h.deliver(1)
			h.state(2, 1, true)
			h.read(2, "x", api.OK)
			h.read(2, "", api.ErrEOF)
		}
	}
}

// Each setting may be its least and its greatest; only Window and Queue are to be seen in what is answered.
func TestNewAtTheEdgesOfSettings(t *testing.T) {
	for _, s := range settings() {
		for _, n := range []int{s.least, s.least + 1, s.most - 1, s.most} {
			c := plainMade()
			*s.of(&c) = n
			c.Buffer = max(c.Buffer, c.K*c.Size)
			c.Queue = max(c.Queue, c.K*c.Size)
			b := newBoth(t, c)
			b.put(0, strings.Repeat("q", c.Queue))
			b.put(uint32(c.Window-1), "x")
			b.put(uint32(c.Window), "x")
			b.fin(uint32(c.Window) + 1)
			b.saw(uint32(c.Window))
			b.deliver()
			b.saw(uint32(c.Window))
			b.saw(uint32(c.Window) + 1)
			b.end()
		}
	}
}

// Each Window: just as many numbers from the base on are wanted.
func TestEachWindow(t *testing.T) {
	for window := 1; window <= 64; window++ {
		for _, ahead := range aheads(window) {
			b := went(t, made(window, 100), ahead)
			for _, x := range []struct{ far, want int }{{-1, old}, {window, beyond}, {window + 1, beyond}, {0, wanted}, {window - 1, wanted}} {
				if told := b.saw(uint32(ahead + x.far)); told != x.want && x.far+ahead >= 0 {
					t.Fatalf("%s: %d, want %d", b.told(), told, x.want)
				}
			}
			if l := b.got.Lacks(); len(l) != window || l[0] != uint32(ahead) || l[window-1] != uint32(ahead+window-1) {
				t.Fatalf("%s; Lacks: %v", b.told(), l)
			}
			for far := window; far >= 0; far-- {
				if told := b.put(uint32(ahead+far), "x"); (told == wanted) != (far < window) {
					t.Fatalf("%s: %d", b.told(), told)
				}
			}
			if l := b.got.Lacks(); len(l) != 0 {
				t.Fatalf("%s; Lacks: %v", b.told(), l)
			}
			if err := b.fin(uint32(ahead + window)); err != api.OK {
				t.Fatalf("%s: %d", b.told(), err)
			}
			b.end()
		}
	}
}

// The chapter's example, and answers written out.

func TestExample(t *testing.T) {
	for _, stream := range []int{0, 1, 254, 255} {
		for window := 3; window <= 64; window++ {
			h := newHand(t, made(window, 9), stream)
			h.saw(2, wanted)
			h.state(0, 0, false, 0, 1, 2)
		}
		h := newHand(t, config.Plain(), stream)
		h.saw(2, wanted)
		h.state(0, 0, false, 0, 1, 2)
	}
}

func TestByHand(t *testing.T) {
	h := newHand(t, made(4, 8), 3)
	h.state(0, 0, false)
	h.saw(4, beyond)
	h.saw(4294967295, old)
	h.state(0, 0, false)
	h.saw(2, wanted)
	h.saw(2, wanted)
	h.state(0, 0, false, 0, 1, 2)
	h.put(1, "bc", wanted)
	h.state(0, 2, false, 0, 2)
	h.saw(1, twice)
	h.put(1, "bc", twice)
	h.put(1, "other", twice)
	h.put(1, "", twice)
	h.deliver(0)
	h.read(5, "", api.OK)
	h.state(0, 2, false, 0, 2)
	h.put(0, "a", wanted)
	h.state(0, 3, false, 2)
	h.deliver(3)
	h.state(2, 3, false, 2)
	h.saw(1, old)
	h.saw(0, old)
	h.put(1, "bc", old)
	h.put(0, "", old)
	h.saw(6, beyond)
	h.state(2, 3, false, 2)
	h.saw(5, wanted)
	h.state(2, 3, false, 2, 3, 4, 5)
	h.read(0, "", api.ErrArg)
	h.read(-1, "", api.ErrArg)
	h.read(2, "ab", api.OK)
	h.state(2, 1, false, 2, 3, 4, 5)
	h.fin(1, api.ErrRange)
	h.fin(7, api.ErrRange)
	h.put(3, "defg", wanted)
	h.state(2, 5, false, 2, 4, 5)
	h.fin(3, api.ErrRange)
	h.fin(2, api.ErrRange)
	h.put(2, "", noBody)
	h.fin(4, api.OK)
	h.fin(4, api.OK)
	h.fin(5, api.ErrUnlike)
	h.fin(6, api.ErrUnlike)
	h.fin(7, api.ErrRange)
	h.fin(3, api.ErrRange)
	h.saw(4, beyond)
	h.saw(5, beyond)
	h.put(4, "x", beyond)
	h.put(5, "", beyond)
	h.saw(3, twice)
	h.saw(2, wanted)
	h.state(2, 5, false, 2, 4, 5)
	h.put(2, "hi", wanted)
	h.state(2, 7, false, 4, 5)
	h.deliver(6)
	h.state(5, 7, true, 4, 5)
	h.saw(4, beyond)
	h.saw(3, old)
	h.put(4, "x", beyond)
	h.put(3, "x", old)
	h.put(8, "", beyond)
	h.fin(4, api.OK)
	h.fin(5, api.ErrUnlike)
	h.fin(8, api.ErrUnlike)
	h.fin(9, api.ErrRange)
	h.fin(3, api.ErrRange)
	h.deliver(0)
	h.read(3, "chi", api.OK)
	h.state(5, 4, true, 4, 5)
	h.read(math.MaxInt, "defg", api.OK)
	h.state(5, 0, true, 4, 5)
	h.read(1, "", api.ErrEOF)
	h.read(0, "", api.ErrArg)
	h.read(math.MaxInt, "", api.ErrEOF)
	h.deliver(0)
	h.state(5, 0, true, 4, 5)
}

// Room is made by reading alone, and the first body for which there is none holds up the others.
func TestRoomByHand(t *testing.T) {
	h := newHand(t, made(3, 4), 0)
	h.put(0, "abc", wanted)
	h.put(1, "de", wanted)
	h.put(2, "f", wanted)
	h.state(0, 6, false)
	h.deliver(3)
	h.state(1, 6, false)
	h.deliver(0)
	h.saw(1, twice)
	h.put(3, "ghij", wanted)
	h.saw(4, beyond)
	h.state(1, 10, false)
	h.read(1, "a", api.OK)
	h.state(1, 9, false)
	h.deliver(2)
	h.state(2, 9, false)
	h.deliver(0)
	h.fin(4, api.OK)
	h.read(3, "bcd", api.OK)
	h.deliver(1)
	h.state(3, 6, false)
	h.read(1, "e", api.OK)
	h.deliver(0)
	h.read(5, "f", api.OK)
	h.state(3, 4, false)
	h.read(5, "", api.OK)
	h.deliver(4)
	h.state(5, 4, true)
	h.read(5, "ghij", api.OK)
	h.state(5, 0, true)
	h.read(5, "", api.ErrEOF)
}

// A Fin at the base ends it at once.
func TestFinAtOnceByHand(t *testing.T) {
	h := newHand(t, made(2, 5), 1)
	h.fin(0, api.OK)
	h.state(1, 0, true)
	h.read(1, "", api.ErrEOF)
	h.saw(0, beyond)
	h.saw(1, beyond)
	h.saw(2, beyond)
	h.saw(4294967295, old)
	h.put(0, "x", beyond)
	h.put(1, "", beyond)
	h.put(4294967295, "x", old)
	h.fin(0, api.OK)
	h.fin(1, api.ErrUnlike)
	h.fin(2, api.ErrUnlike)
	h.fin(3, api.ErrRange)
	h.fin(4294967295, api.ErrRange)
	h.deliver(0)
	h.state(1, 0, true)
}

// What is more than half of all numbers away from the Fin's, and not as far from the base, is less than the base, though not less than the Fin's number.
func TestHalfAwayByHand(t *testing.T) {
	h := newHand(t, made(8, 5), 1)
	h.fin(5, api.OK)
	h.state(0, 0, false)
	for _, x := range []struct {
		block uint32
		want  int
	}{{1<<31 - 1, beyond}, {1 << 31, beyond}, {1<<31 + 1, old}, {1<<31 + 4, old}, {1<<31 + 5, old}, {1<<31 + 6, old}, {4294967295, old}, {1<<31 - 6, beyond}} {
		h.saw(x.block, x.want)
		h.put(x.block, "x", x.want)
		h.put(x.block, "", x.want)
		h.fin(x.block, api.ErrRange)
	}
	h.saw(4, wanted)
	h.saw(5, beyond)
	h.state(0, 0, false, 0, 1, 2, 3, 4)
}

// Promise 28.1: Saw and Put.

// places are a stream at some place: its settings, how many blocks are gone, which bodies wait, and which Fin there is, by how far it is from the base (-1: none).
type places struct {
	window, ahead int
	bodies        []int
	fin           int
}

// eachPlaces does something at each of many such places; a Fin that may not be there is left out.
func eachPlaces(windows []int, do func(p places)) {
	for _, window := range windows {
		for _, ahead := range aheads(window) {
			for _, bodies := range somePlaces(window) {
				for _, fin := range []int{-1, 0, 1, 2, window / 2, window - 1, window} {
					if fin >= 0 && len(bodies) > 0 && fin <= bodies[len(bodies)-1] || fin > window {
						continue
					}
					do(places{window, ahead, bodies, fin})
				}
			}
		}
	}
}

// at is a stream at that place.
func (p places) at(t *testing.T) *both {
	t.Helper()
	b := went(t, made(p.window, 200), p.ahead)
	b.lay(p.bodies...)
	if p.fin >= 0 {
		if err := b.fin(uint32(p.ahead + p.fin)); err != api.OK {
			t.Fatalf("%s: %d, want OK", b.told(), err)
		}
	}
	return b
}

// wantAt is what Saw tells there of a number that is so far from the base, reckoned from places alone.
func (p places) wantAt(far int) int {
	switch {
	case far < 0 && far > -1<<31:
		return old
	case far < 0 || far >= p.window || p.fin >= 0 && far >= p.fin:
		return beyond
	case slices.Contains(p.bodies, far):
		return twice
	}
	return wanted
}

func TestSaw(t *testing.T) {
	eachPlaces([]int{1, 2, 3, 7}, func(p places) {
		for _, far := range append(near(p.window), farAway()...) {
			b := p.at(t)
			x := more(b.want.base, far)
			if far <= 1<<31-1 && far >= -1<<31 {
				if told, want := b.saw(x), p.wantAt(far); told != want {
					t.Fatalf("%s: %d, want %d", b.told(), told, want)
				}
			}
			b.saw(x)
			b.saw(more(b.want.base, 1))
			b.put(x, "x")
			b.saw(x)
			b.deliver()
			b.saw(x)
			b.end()
		}
	})
}

func TestPut(t *testing.T) {
	eachPlaces([]int{1, 2, 3, 7}, func(p places) {
		for _, far := range append(near(p.window), farAway()...) {
			b := p.at(t)
			x := more(b.want.base, far)
			for _, body := range []string{"", "\x00\xff", "\x00\xff", "another", ""} {
				b.put(x, body)
			}
			b.saw(x)
			b.deliver()
			b.put(x, "late")
			b.put(x, "")
			b.end()
		}
	})
}

// Of the greatest Window, by places alone: what is told, and what lacks then.
func TestGreatestWindow(t *testing.T) {
	eachPlaces([]int{63, 64}, func(p places) {
		b := p.at(t)
		for _, far := range []int{-65, -64, -63, -2, -1, 0, 1, p.fin - 1, p.fin, p.fin + 1, 31, 61, 62, 63, 64, 65, 128} {
			x := more(b.want.base, far)
			if told, want := b.put(x, ""), p.wantAt(far); told != want && (told != noBody || want != wanted) {
				t.Fatalf("%s: %d, want %d or 4", b.told(), told, want)
			}
			if told, want := b.saw(x), p.wantAt(far); told != want {
				t.Fatalf("%s: %d, want %d", b.told(), told, want)
			}
		}
		b.end()
	})
}

// A block is seen where Saw tells 3, and nowhere else: Lacks reaches as far as that.
func TestSeenWhereItIsWanted(t *testing.T) {
	eachPlaces([]int{1, 2, 5}, func(p places) {
		for _, far := range append(near(p.window), farAway()...) {
			b := p.at(t)
			before := b.got.Lacks()
			upTo := 0
			for _, place := range p.bodies {
				upTo = place + 1
			}
			x := more(b.want.base, far)
			told, after := b.saw(x), b.got.Lacks()
			if told != wanted || far < upTo {
				if !slices.Equal(before, after) {
					t.Fatalf("%s; Lacks: %v, before %v", b.told(), after, before)
				}
				continue
			}
			want := before
			for place := upTo; place <= far; place++ {
				want = append(want, uint32(p.ahead+place))
			}
			if !slices.Equal(after, want) {
				t.Fatalf("%s; Lacks: %v, want %v", b.told(), after, want)
			}
		}
	})
}

// Bodies of each value of byte, and long ones, longer than a block or the queue too, wait as they are: as chapter 23's Put takes them.
func TestBodies(t *testing.T) {
	d := dice(3)
	var l []string
	for i := range 256 {
		l = append(l, string([]byte{byte(i)}), string([]byte{byte(i), 0}), string([]byte{0, byte(i), 255}))
	}
	for _, size := range []int{2, 255, 256, 1023, 1024, 1025, 32767, 32768, 32769, 1<<20 - 1, 1 << 20} {
		l = append(l, d.text(size), strings.Repeat("\x00", size))
	}
	l = append(l, "\u00e4\u20ac\U0001f6a2", "\xff\xfe\xc3\x28", "\r\n\t \"\\'", "a", "a")
	h := newHand(t, made(64, 1<<20), 9)
	for at, body := range l {
		h.put(uint32(at), body, wanted)
		h.put(uint32(at), body, twice)
		h.state(uint32(at), len(body), false)
		h.deliver(len(body))
		h.state(uint32(at)+1, len(body), false)
		h.read(math.MaxInt, body, api.OK)
		h.state(uint32(at)+1, 0, false)
	}
	h.put(uint32(len(l)), strings.Repeat("x", 1<<20+1), wanted)
	h.put(uint32(len(l))+1, "x", wanted)
	h.deliver(0)
	h.state(uint32(len(l)), 1<<20+2, false)
}

// Promise 28.1: Fin.

// finAt is what Fin answers of a number that is so far from the base, where there is none yet, reckoned from places alone.
func finAt(window int, bodies []int, far int) api.Errno {
	if far < 0 || far > window || len(bodies) > 0 && far <= bodies[len(bodies)-1] {
		return api.ErrRange
	}
	return api.OK
}

// Of each number, below, above and at bodies that wait; what has changed is seen in what ends it, and in what is wanted.
func TestFin(t *testing.T) {
	eachPlaces([]int{1, 2, 3, 7}, func(p places) {
		if p.fin >= 0 {
			return
		}
		for _, far := range append(near(p.window), farAway()...) {
			b := p.at(t)
			x := more(b.want.base, far)
			if err, want := b.fin(x), finAt(p.window, p.bodies, far); err != want {
				t.Fatalf("%s: %d, want %d", b.told(), err, want)
			}
			b.fin(x)
			for _, other := range []int{-1, 0, 1, p.window - 1, p.window, p.window + 1, far - 1, far + 1} {
				b.fin(more(b.want.base, other))
			}
			b.end()
		}
	})
}

// A second one, with the same number, and with each other one; the refusals are asked ahead of whether it is unlike.
func TestSecondFin(t *testing.T) {
	eachPlaces([]int{1, 2, 3, 7, 64}, func(p places) {
		if p.fin < 0 {
			return
		}
		for _, far := range append(near(p.window), farAway()...) {
			b := p.at(t)
			want := finAt(p.window, p.bodies, far)
			if want == api.OK && far != p.fin {
				want = api.ErrUnlike
			}
			for range 2 {
				if err := b.fin(more(b.want.base, far)); err != want {
					t.Fatalf("%s: %d, want %d", b.told(), err, want)
				}
			}
			if err := b.fin(uint32(p.ahead + p.fin)); err != api.OK {
				t.Fatalf("%s: %d, want OK", b.told(), err)
			}
			if p.window < 8 {
				b.end()
			}
		}
	})
}

// Above one body that waits, or several, of which some are above others, whichever came first.
func TestFinAboveBodies(t *testing.T) {
	for _, ahead := range []int{0, 1, 9} {
		for choice := range 1 << 5 {
			for far := -1; far <= 7; far++ {
				b := went(t, made(6, 50), ahead)
				last := -1
				for place := 4; place >= 0; place-- {
					if choice>>place&1 == 1 {
						b.lay(place)
						last = max(last, place)
					}
				}
				want := api.OK
				if far <= last || far < 0 || far > 6 {
					want = api.ErrRange
				}
				if err := b.fin(more(b.want.base, far)); err != want {
					t.Fatalf("%s: %d, want %d", b.told(), err, want)
				}
				b.end()
			}
		}
	}
}

// Blocks that were only seen hinder no Fin: it has only to be above bodies that wait.
func TestFinBelowWhatWasSeen(t *testing.T) {
	for seen := range 4 {
		for far := range 5 {
			h := newHand(t, made(4, 9), 0)
			h.saw(uint32(seen), wanted)
			h.fin(uint32(far), api.OK)
			ack := uint32(0)
			if far == 0 {
				ack = 1
			}
			h.state(ack, 0, far == 0, []uint32{0, 1, 2, 3}[:seen+1]...)
			for x := range uint32(5) {
				want := beyond
				if x < uint32(far) && x < 4 {
					want = wanted
				}
				h.saw(x, want)
			}
		}
	}
}

// A body that waited and was delivered hinders no Fin; one that waits still, as there is no room for it, does.
func TestFinBehindDeliver(t *testing.T) {
	h := newHand(t, made(3, 3), 0)
	h.put(0, "ab", wanted)
	h.put(1, "cd", wanted)
	h.fin(1, api.ErrRange)
	h.deliver(2)
	h.fin(0, api.ErrRange)
	h.fin(1, api.ErrRange)
	h.fin(5, api.ErrRange)
	h.fin(2, api.OK)
	h.state(1, 4, false)
	h.read(2, "ab", api.OK)
	h.deliver(2)
	h.state(3, 2, true)
	h.fin(1, api.ErrRange)
	h.fin(2, api.OK)
	h.fin(3, api.ErrUnlike)
	h.fin(5, api.ErrUnlike)
	h.fin(6, api.ErrRange)
}

// Promise 28.2: Deliver.

// Bodies at the base, none, one and several, and a gap, where so many bytes wait already: each length about what there is room for.
func TestDeliver(t *testing.T) {
	for _, queue := range []int{1, 2, 5, 9} {
		for waits := range queue + 1 {
			for _, bodies := range somePlaces(5) {
				for _, size := range []int{1, 2, queue - waits - 1, queue - waits, queue - waits + 1, queue, queue + 1} {
					if size < 1 {
						continue
					}
					b := newBoth(t, made(5, queue))
					if waits > 0 {
						b.put(0, letters(waits))
						b.deliver()
					}
					for _, place := range bodies {
						b.put(more(b.want.base, place), strings.Repeat(string([]byte{byte('A' + place)}), size))
					}
					b.deliver()
					b.deliver()
					b.read(1)
					b.deliver()
					b.read(size)
					b.deliver()
					b.read(queue)
					b.deliver()
					b.end()
				}
			}
		}
	}
}

// How many bytes are delivered, reckoned from places alone: of bodies of so many bytes each, of which one may lack.
func TestDeliverByPlaces(t *testing.T) {
	for _, size := range []int{1, 2, 3, 10} {
		for queue := 1; queue <= 40; queue++ {
			for lacks := range 8 {
				i := newIn(t, made(7, queue), 1)
				for place := range uint32(7) {
					if int(place) != lacks {
						i.Put(place, letters(size))
					}
				}
				blocks := min(queue/size, lacks, 7)
				if came := i.Deliver(); came != blocks*size {
					t.Fatalf("%d bytes each, Queue %d, block %d lacks: %d, want %d", size, queue, lacks, came, blocks*size)
				}
				if next, _ := i.Ack(); next != uint32(blocks) || i.Deliver() != 0 {
					t.Fatalf("%d bytes each, Queue %d, block %d lacks: Ack %d, want %d", size, queue, lacks, next, blocks)
				}
				bodies := 7
				if lacks < 7 {
					bodies = 6
				}
				if i.Held() != bodies*size {
					t.Fatalf("%d bytes each, Queue %d, block %d lacks: Held %d", size, queue, lacks, i.Held())
				}
			}
		}
	}
}

// A body that just fits is delivered, and one that is a byte longer is not, behind so many bytes that wait to be read.
func TestWhatJustFits(t *testing.T) {
	for _, queue := range []int{1, 2, 7, 256, 1 << 20} {
		for _, waits := range []int{0, 1, queue / 2, queue - 1} {
			if waits >= queue {
				continue
			}
			for more := range 2 {
				h := newHand(t, made(2, queue), 0)
				block := uint32(0)
				if waits > 0 {
					h.put(0, letters(waits), wanted)
					h.deliver(waits)
					block++
				}
				body := letters(queue - waits + more)
				h.put(block, body, wanted)
				if more == 0 {
					h.deliver(len(body))
					h.state(block+1, queue, false)
					h.read(math.MaxInt, letters(waits)+body, api.OK)
					continue
				}
				h.deliver(0)
				h.state(block, queue+1, false)
				if waits > 0 {
					h.read(1, letters(1), api.OK)
					h.deliver(len(body))
				}
			}
		}
	}
}

// The greatest Queue has room for 2^20 bytes.
func TestGreatestQueue(t *testing.T) {
	h := newHand(t, made(64, 1<<20), 0)
	for x := range uint32(64) {
		h.put(x, strings.Repeat("x", 1<<14), wanted)
	}
	h.deliver(1 << 20)
	h.put(64, "y", wanted)
	h.deliver(0)
	h.state(64, 1<<20+1, false)
	h.read(1, "x", api.OK)
	h.deliver(1)
	h.state(65, 1<<20, false)
	h.read(math.MaxInt, strings.Repeat("x", 1<<20-1)+"y", api.OK)
	h.state(65, 0, false)
}

// Promise 28.2: Read.

// numbers are ns of Read about so many bytes that wait.
func numbers(waits int) []int {
	return append(farInts(), -2, -1, 0, 1, 2, waits-1, waits, waits+1, -waits, 1<<32+waits, 1<<32+1)
}

// Each n where none, one and several bytes wait, ahead of the end and behind it.
func TestRead(t *testing.T) {
	for waits := range 12 {
		for _, end := range []int{-1, 0, 1} {
			for _, n := range numbers(waits) {
				b := newBoth(t, made(3, 20))
				if waits > 0 {
					b.put(0, letters(waits))
				}
				b.deliver()
				if end >= 0 {
					b.fin(more(b.want.base, end))
				}
				for range 3 {
					b.read(n)
				}
				b.read(1)
				b.read(2)
				b.read(math.MaxInt)
				b.end()
			}
		}
	}
}

// What is read, written out by how many bytes wait, and whether it ended.
func TestReadByPlaces(t *testing.T) {
	for waits := range 12 {
		for _, ended := range []bool{false, true} {
			for _, n := range numbers(waits) {
				h := newHand(t, made(2, 20), 0)
				ack := uint32(0)
				if waits > 0 {
					h.put(0, letters(waits), wanted)
					h.deliver(waits)
					ack++
				}
				if ended {
					h.fin(ack, api.OK)
					ack++
				}
				left, atEnd := waits, api.OK
				if ended {
					atEnd = api.ErrEOF
				}
				switch {
				case n < 1:
					h.read(n, "", api.ErrArg)
				case waits == 0:
					h.read(n, "", atEnd)
				default:
					left = waits - min(n, waits)
					h.read(n, letters(waits)[:waits-left], api.OK)
				}
				h.state(ack, left, ended)
				if left > 0 {
					h.read(math.MaxInt, letters(waits)[waits-left:], api.OK)
				}
				h.read(math.MaxInt, "", atEnd)
				h.state(ack, 0, ended)
			}
		}
	}
}

// In the order in which they were delivered, whatever the pieces: of blocks, and of reads.
func TestReadInPieces(t *testing.T) {
	for size := 1; size <= 7; size++ {
		for piece := 1; piece <= 9; piece++ {
			text := letters(100)
			i, read := newIn(t, made(4, 10), 2), ""
			for block := uint32(0); len(read) < len(text); {
				for far := range uint32(4) {
					if at := int(block+far) * size; at < len(text) {
						i.Put(block+far, text[at:min(at+size, len(text))])
					}
				}
				i.Deliver()
				s, err := i.Read(piece)
				if err != api.OK || s == "" {
					t.Fatalf("blocks of %d, reads of %d: %q, %d behind %d bytes", size, piece, s, err, len(read))
				}
				read += s
				block, _ = i.Ack()
			}
			if read != text {
				t.Fatalf("blocks of %d, reads of %d: %q", size, piece, read)
			}
		}
	}
}

// Promise 28.2: Ended and Ack.

// Ahead of a Fin and behind it, while blocks lack, while there is no room for the last one, and when it is delivered: the Fin comes behind each number of bodies, which come from the first one on, or from the last one on.
func TestEnded(t *testing.T) {
	for blocks := range uint32(5) {
		for at := range blocks + 1 {
			for _, down := range []bool{false, true} {
				h := newHand(t, made(4, 2), 7)
				putAll(h, blocks, at, down)
				for x := range blocks {
					h.state(x, 2*int(blocks-x), false)
					h.deliver(2)
					ended, ack := x+1 == blocks, x+1
					if ended {
						ack++
					}
					h.state(ack, 2*int(blocks-x), ended)
					h.read(2, "ab", api.OK)
				}
				h.state(blocks+1, 0, true)
				h.read(1, "", api.ErrEOF)
			}
		}
	}
}

// putAll puts so many bodies, of which none is delivered, and the Fin behind so many of them.
func putAll(h hand, blocks, at uint32, down bool) {
	h.t.Helper()
	for i := range blocks {
		if i == at {
			h.fin(blocks, api.OK)
		}
		x, lacks := i, []uint32(nil)
		if down {
			x = blocks - 1 - i
			lacks = []uint32{0, 1, 2, 3}[:x]
		}
		h.put(x, "ab", wanted)
		h.fin(x, api.ErrRange)
		h.state(0, 2*int(i)+2, false, lacks...)
		if x > 0 && down {
			h.deliver(0)
		}
	}
	if at == blocks {
		h.fin(blocks, api.OK)
	}
}

// Behind each kind of call: the base, one more when it ended, and Window.
func TestAckByHand(t *testing.T) {
	for _, window := range windows() {
		h := newHand(t, made(window, 9), 7)
		ack := func(want uint32) {
			t.Helper()
			for range 2 {
				if next, many := h.i.Ack(); next != want || many != window {
					t.Errorf("Ack: %d, %d, want %d, %d", next, many, want, window)
				}
			}
		}
		ack(0)
		h.saw(0, wanted)
		ack(0)
		h.put(0, "abc", wanted)
		ack(0)
		h.deliver(3)
		ack(1)
		h.read(2, "ab", api.OK)
		ack(1)
		h.put(1, "d", wanted)
		ack(1)
		h.fin(2, api.OK)
		ack(1)
		h.read(2, "c", api.OK)
		ack(1)
		h.deliver(1)
		ack(3)
		h.fin(2, api.OK)
		ack(3)
		h.read(1, "d", api.OK)
		ack(3)
		h.read(1, "", api.ErrEOF)
		h.deliver(0)
		ack(3)
	}
}

// Promise 28.2: Lacks.

// Each choice of what was seen, put, or neither, of a small window: just those lack that do not wait, up to the greatest one.
func TestLacksOfEachChoice(t *testing.T) {
	for window := 1; window <= 5; window++ {
		rows := 1
		for range window {
			rows *= 4
		}
		for _, ahead := range []int{0, 7} {
			for row := range rows {
				h := newHand(t, made(window, 50), 0)
				for x := range uint32(ahead) {
					h.put(x, "a", wanted)
					h.deliver(1)
				}
				var lacks []uint32
				known, choice := 0, row
				for place := range window {
					x := uint32(ahead + place)
					// Bit 0: it was seen; bit 1: it was put.
					if choice&1 == 1 {
						h.saw(x, wanted)
					}
					if choice&2 == 2 {
						h.put(x, "b", wanted)
					} else {
						lacks = append(lacks, x)
					}
					if choice&3 > 0 {
						known = place + 1
					}
					choice >>= 2
				}
				lacks = slices.DeleteFunc(lacks, func(x uint32) bool { return x >= uint32(ahead+known) })
				if l := h.i.Lacks(); !slices.Equal(l, lacks) {
					t.Fatalf("window %d, %d gone, choice %b: %v, want %v", window, ahead, row, l, lacks)
				}
			}
		}
	}
}

// Seen in whichever order: the greatest one tells how far it reaches.
func TestLacksOfEachPair(t *testing.T) {
	for first := range uint32(8) {
		for second := range uint32(8) {
			for _, puts := range []bool{false, true} {
				h := newHand(t, made(8, 50), 0)
				h.saw(first, wanted)
				if puts {
					h.put(second, "x", wanted)
				} else {
					h.saw(second, wanted)
				}
				var want []uint32
				for x := range max(first, second) + 1 {
					if !puts || x != second {
						want = append(want, x)
					}
				}
				h.state(0, h.i.Held(), false, want...)
			}
		}
	}
}

// When the base has passed what was seen, nothing of it is left, and what comes then is seen anew.
func TestLacksBehindDeliver(t *testing.T) {
	for seen := range uint32(4) {
		for put := range uint32(4) {
			h := newHand(t, made(4, 50), 0)
			h.saw(seen, wanted)
			for x := range put + 1 {
				h.put(x, "x", wanted)
			}
			h.deliver(int(put) + 1)
			var lacks []uint32
			for x := put + 1; x <= seen; x++ {
				lacks = append(lacks, x)
			}
			h.state(put+1, int(put)+1, false, lacks...)
			if seen <= put {
				h.saw(seen, old)
			} else {
				h.saw(seen, wanted)
			}
			h.state(put+1, int(put)+1, false, lacks...)
			h.saw(put+3, wanted)
			h.state(put+1, int(put)+1, false, put+1, put+2, put+3)
		}
	}
}

// Of the whole window: all of it, and all but the bodies that wait.
func TestLacksOfTheWholeWindow(t *testing.T) {
	for _, window := range windows() {
		for _, ahead := range aheads(window) {
			b := went(t, made(window, 100), ahead)
			b.saw(uint32(ahead + window - 1))
			for far := range window {
				if l := b.got.Lacks(); len(l) != window-far || l[0] != uint32(ahead+far) || l[len(l)-1] != uint32(ahead+window-1) {
					t.Fatalf("%s; Lacks: %v", b.told(), l)
				}
				b.put(uint32(ahead+far), "x")
			}
			b.deliver()
			b.saw(uint32(ahead + 2*window - 1))
			b.put(uint32(ahead+2*window-1), "y")
			if l := b.got.Lacks(); len(l) != window-1 {
				t.Fatalf("%s; Lacks: %v", b.told(), l)
			}
			b.end()
		}
	}
}

// Promise 28.2: Held.

// By places alone: bytes count from Put on until they are read, and those that were refused do not.
func TestHeld(t *testing.T) {
	for _, queue := range []int{1, 3, 10, 100} {
		i, put, read := newIn(t, made(5, queue), 0), 0, 0
		held := func(what string) {
			t.Helper()
			if i.Held() != put-read {
				t.Fatalf("Queue %d, %s: Held %d, want %d", queue, what, i.Held(), put-read)
			}
		}
		for turn := range 200 {
			next, _ := i.Ack()
			body := letters(1 + turn%min(queue, 7))
			if i.Put(next+uint32(turn%7)-1, body) == wanted {
				put += len(body)
			}
			held("Put")
			if turn%3 == 0 && i.Put(next, "x") == wanted {
				put++
			}
			held("Put of the base")
			i.Saw(next + 2)
			held("Saw")
			i.Fin(next - 1)
			held("Fin")
			i.Deliver()
			held("Deliver")
			s, _ := i.Read(1 + turn%5)
			read += len(s)
			held("Read")
		}
		if read == 0 || put == read {
			t.Fatalf("Queue %d: %d were put, and %d read", queue, put, read)
		}
	}
}

// The base moves on.

// Through many windows, by small settings: each block is seen, put, and read, others are refused, in an order by chance; then it ends.
func TestThroughManyWindows(t *testing.T) {
	for at, c := range []api.Config{made(1, 1), made(1, 4), made(2, 3), made(3, 3), made(4, 10), made(7, 9), made(64, 30), plainMade()} {
		d, b := dice(at+5), newBoth(t, c)
		last := uint32(60 * c.Window)
		if c.Window == 64 {
			last = 6 * 64
		}
		bodyAt := func(x uint32) string {
			body := bodyOf(int(x % 1024))
			return body[:min(len(body), c.Queue)]
		}
		read, want := "", ""
		for b.want.base < last {
			for range 2 * c.Window {
				x := more(b.want.base, d.below(c.Window+4)-2)
				b.saw(x)
				b.put(x, bodyAt(x))
			}
			b.put(b.want.base, bodyAt(b.want.base))
			b.deliver()
			s, _ := b.read(1 + d.below(c.Queue))
			read += s
		}
		for b.want.text != "" {
			s, _ := b.read(c.Queue)
			read += s
			b.deliver()
		}
		for x := range b.want.base {
			want += bodyAt(x)
		}
		if read != want {
			t.Fatalf("%s: %d bytes were read, want %d", b.told(), len(read), len(want))
		}
		b.fin(more(b.want.base, c.Window))
		b.end()
	}
}

// Past numbers of 16 bits: no number is taken for another one that has the same low bits.
func TestThroughVeryManyBlocks(t *testing.T) {
	for _, window := range []int{1, 3, 64} {
		h := newHand(t, made(window, 2), 0)
		for x := range uint32(140000) {
			if h.i.Saw(x) != wanted || h.i.Put(x, "x") != wanted || h.i.Saw(x) != twice || h.i.Deliver() != 1 || h.i.Saw(x) != old {
				t.Fatalf("window %d: block %d", window, x)
			}
			if s, err := h.i.Read(2); s != "x" || err != api.OK {
				t.Fatalf("window %d: block %d: %q, %d", window, x, s, err)
			}
			if x%1000 == 0 {
				h.state(x+1, 0, false)
				h.saw(x+1+65536, beyond)
				h.saw(x-65535, old)
				h.fin(x-65535, api.ErrRange)
				h.fin(x+65537, api.ErrRange)
			}
		}
		h.fin(140000, api.OK)
		h.state(140001, 0, true)
		h.saw(140000, beyond)
		h.saw(139999, old)
		h.saw(140000-65536, old)
	}
}

// Many calls of all kinds.

// one makes one of the kinds of calls.
func (b *both) one(i int) {
	b.t.Helper()
	base, window := b.want.base, b.want.c.Window
	switch i {
	case 0:
		b.saw(base)
	case 1:
		b.saw(more(base, window-1))
	case 2:
		b.put(base, "ab")
	case 3:
		b.put(more(base, 1), "c")
	case 4:
		b.put(more(base, window-1), "def")
	case 5:
		b.put(more(base, window), "")
	case 6:
		b.fin(more(base, 1))
	case 7:
		b.fin(more(base, window))
	case 8:
		b.deliver()
	case 9:
		b.read(1)
	case 10:
		b.read(3)
	case 11:
		b.put(more(base, -1), "x")
		b.saw(more(base, -1))
	case 12:
		b.fin(base)
	}
}

func TestEachRowOfCalls(t *testing.T) {
	const kinds = 13
	for _, x := range []struct {
		c             api.Config
		ahead, length int
	}{
		{made(1, 3), 0, 4},
		{made(2, 3), 0, 4},
		{made(2, 5), 5, 4},
		{made(3, 2), 0, 4},
		{made(3, 9), 7, 4},
		{plainMade(), 0, 3},
		{made(64, 9), 0, 3},
	} {
		all := 1
		for range x.length {
			all *= kinds
		}
		for row := range all {
			b := went(t, x.c, x.ahead)
			for range x.length {
				b.one(row % kinds)
				row /= kinds
			}
			b.end()
		}
	}
}

// mix makes many calls, the next one by chance of a fixed seed.
func mix(t *testing.T, c api.Config, many int, seed uint64) {
	t.Helper()
	d, b := dice(seed), newBoth(t, c)
	fars, longest, ends := farAway(), min(c.Queue, 9), 1+int(seed%3)
	ns := numbers(3)
	for range many {
		base := b.want.base
		near := more(base, d.below(c.Window+6)-3)
		switch turn := d.below(24); {
		case turn < 4:
			b.saw(near)
		case turn < 8:
			b.put(near, d.text(1+d.below(longest)))
		case turn < 12:
			b.put(base, d.text(1+d.below(longest)))
		case turn < 15:
			b.deliver()
		case turn < 19:
			b.read(1 + d.below(c.Queue+1))
		case turn == 19:
			b.put(near, "")
		case turn == 20:
			x := more(base, fars[d.below(len(fars))])
			b.saw(x)
			b.put(x, "far")
			b.fin(x)
		case turn == 21:
			b.read(ns[d.below(len(ns))])
		case turn == 22 && d.below(many/(8*ends)) == 0:
			b.fin(near)
		case turn == 23 && d.below(many/20) == 0:
			b.put(near, d.text(c.Queue+1))
		default:
			b.deliver()
			b.read(c.Queue)
		}
	}
	b.end()
}

func TestMixed(t *testing.T) {
	for at, c := range small() {
		for seed := range uint64(60) {
			mix(t, c, 300, seed+100*uint64(at)+1)
		}
	}
	d := dice(77)
	for range 150 {
		mix(t, made(1+d.below(8), 1+d.below(30)), 300, uint64(d.below(1<<30)))
	}
	for seed := range uint64(6) {
		mix(t, made(64, 200), 600, seed+5)
	}
}

// R4 and R5: what was answered stays as it was, and hangs on what was done to the same thing alone.

// Whoever got a list may write to it, and neither what is taken nor another list sees it.
func TestAnswersAreNewMemory(t *testing.T) {
	b := newBoth(t, made(8, 20))
	b.saw(6)
	b.put(3, "x")
	first := b.got.Lacks()
	second := b.got.Lacks()
	clear(append(first, 1, 2, 3)[:len(first)])
	for i := range first {
		first[i] = 77
	}
	if want := []uint32{0, 1, 2, 4, 5, 6}; !slices.Equal(second, want) || !slices.Equal(b.got.Lacks(), want) {
		t.Fatalf("%v, then %v, want %v", second, b.got.Lacks(), want)
	}
	b.state()
	b.end()
}

func TestAnswersStay(t *testing.T) {
	b, d := newBoth(t, made(6, 12)), dice(4)
	var lists, listCopies [][]uint32
	var texts, textCopies []string
	for range 1500 {
		b.saw(more(b.want.base, d.below(7)))
		b.put(more(b.want.base, d.below(4)), d.text(1+d.below(5)))
		b.deliver()
		s, _ := b.read(1 + d.below(6))
		l := b.got.Lacks()
		lists, listCopies = append(lists, l), append(listCopies, slices.Clone(l))
		texts, textCopies = append(texts, s), append(textCopies, strings.Clone(s))
	}
	b.end()
	for i := range lists {
		if !slices.Equal(lists[i], listCopies[i]) || texts[i] != textCopies[i] {
			t.Fatalf("what was answered at %d is another now", i)
		}
	}
}

// Settings that are changed behind New change nothing.
func TestSettingsAreNotKept(t *testing.T) {
	c := made(3, 4)
	h := newHand(t, c, 1)
	c.Window, c.Queue = 64, 100
	h.saw(3, beyond)
	h.put(0, "abcde", wanted)
	h.deliver(0)
	h.state(0, 5, false)
}

func TestTwoShareNothing(t *testing.T) {
	for _, x := range [][2]api.Config{{plainMade(), plainMade()}, {made(1, 1), made(3, 9)}, {made(4, 6), made(4, 6)}} {
		first, second := newBoth(t, x[0]), newBoth(t, x[1])
		d := dice(2)
		for turn := range 300 {
			first.saw(more(first.want.base, d.below(5)))
			second.state()
			second.put(more(second.want.base, d.below(3)), d.text(1+d.below(4)))
			first.state()
			first.put(first.want.base, d.text(1))
			second.deliver()
			first.deliver()
			second.state()
			second.read(1 + d.below(6))
			first.state()
			first.read(1 + d.below(3))
			if turn == 200 {
				first.fin(more(first.want.base, 1))
			}
			second.state()
		}
		first.end()
		second.end()
	}
}

// R5: the same calls are answered alike, however often they are made.
func TestTheSameOnceMore(t *testing.T) {
	row := func() string {
		i, d, told := newIn(t, made(6, 20), 6), dice(9), ""
		for turn := range 400 {
			next, _ := i.Ack()
			told += strconv.Itoa(i.Saw(next+uint32(d.below(8))-1)) + strconv.Itoa(i.Put(next+uint32(d.below(4)), d.text(d.below(6)))) + "," + strconv.Itoa(i.Deliver())
			s, err := i.Read(d.below(7))
			told += short(s) + strconv.Itoa(int(err)) + "/" + strconv.Itoa(i.Held()) + strconv.FormatBool(i.Ended())
			for _, x := range i.Lacks() {
				told += "," + number(x)
			}
			if turn == 350 {
				told += strconv.Itoa(int(i.Fin(next + 6)))
			}
		}
		return told
	}
	if first := row(); row() != first || row() != first {
		t.Error("the same calls were answered in another way")
	}
}

// heap is how many bytes are held by all.
func heap() int {
	var m runtime.MemStats
	runtime.GC()
	runtime.ReadMemStats(&m)
	return int(m.HeapAlloc)
}

// Bodies that were read, and those that were refused, are not kept: their memory is free for others.
func TestGoneBodiesAreNotKept(t *testing.T) {
	const size = 1 << 18
	i := newIn(t, made(64, 1<<20), 0)
	before := heap()
	for turn := range 3 {
		next, _ := i.Ack()
		for far := range uint32(64) {
			i.Put(next+far, strings.Repeat("x", size))
		}
		if many := heap() - before; many < 60*size {
			t.Fatalf("%d bytes are held of 64 bodies of %d", many, size)
		}
		for i.Held() > 0 {
			i.Deliver()
			i.Read(1 << 20)
		}
		i.Put(next+63, strings.Repeat("x", size))
		i.Put(next+64+64, strings.Repeat("x", size))
		if many := heap() - before; many > 8*size {
			t.Errorf("turn %d: %d bytes are held, though all was read", turn, many)
		}
	}
	runtime.KeepAlive(i)
}

// However many blocks went through, no more is held than of one that is new.
func TestWhatIsHeldDoesNotGrow(t *testing.T) {
	i := newIn(t, made(64, 200), 0)
	before := heap()
	for range 10000 {
		next, _ := i.Ack()
		for far := range uint32(64) {
			i.Saw(next + 63 - far)
			i.Put(next+63-far, "x")
		}
		i.Deliver()
		i.Read(64)
	}
	if next, _ := i.Ack(); next != 640000 || i.Held() != 0 {
		t.Errorf("Ack %d, Held %d, want 640000, 0", next, i.Held())
	}
	if many := heap() - before; many > 1<<19 {
		t.Errorf("%d bytes are held of none", many)
	}
	runtime.KeepAlive(i)
}

// R1: on nil nothing happens, and all answers are none.

func wantNothing(t *testing.T, i *inbound.In) {
	t.Helper()
	for _, x := range []uint32{0, 1, 2, 63, 64, 65, 1<<31 - 1, 1 << 31, 1<<31 + 1, math.MaxUint32} {
		if told := i.Saw(x); told != 0 {
			t.Errorf("nil: Saw(%d): %d, want 0", x, told)
		}
		for _, body := range []string{"", "\x00", "a", letters(40000)} {
			if told := i.Put(x, body); told != 0 {
				t.Errorf("nil: Put(%d, %s): %d, want 0", x, short(body), told)
			}
		}
		if err := i.Fin(x); err != api.ErrNil {
			t.Errorf("nil: Fin(%d): %d, want ErrNil", x, err)
		}
	}
	for _, n := range numbers(3) {
		if s, err := i.Read(n); s != "" || err != api.ErrNil {
			t.Errorf("nil: Read(%d): %q, %d, want none, ErrNil", n, s, err)
		}
	}
	if came := i.Deliver(); came != 0 {
		t.Errorf("nil: Deliver: %d, want 0", came)
	}
	if next, window := i.Ack(); next != 0 || window != 0 {
		t.Errorf("nil: Ack: %d, %d, want 0, 0", next, window)
	}
	if l := i.Lacks(); len(l) != 0 || i.Ended() || i.Held() != 0 {
		t.Errorf("nil: Lacks %v, Ended %t, Held %d, want none, false, 0", l, i.Ended(), i.Held())
	}
}

func TestNil(t *testing.T) {
	for range 2 {
		wantNothing(t, nil)
	}
	refused, _ := inbound.New(plainMade(), 256)
	wantNothing(t, refused)
	b := newBoth(t, plainMade())
	b.saw(3)
	b.put(1, "x")
	wantNothing(t, nil)
	b.end()
}

// The chapter lists nine calls on what a stream takes, and it has no others.
func TestNoOtherCalls(t *testing.T) {
	var got []string
	is := reflect.TypeFor[*inbound.In]()
	for i := range is.NumMethod() {
		got = append(got, is.Method(i).Name)
	}
	if want := []string{"Ack", "Deliver", "Ended", "Fin", "Held", "Lacks", "Put", "Read", "Saw"}; !slices.Equal(got, want) {
		t.Errorf("%v, want %v", got, want)
	}
}
