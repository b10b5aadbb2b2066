package window_test

import (
	"math"
	"os"
	"slices"
	"strconv"
	"strings"
	"testing"
	"time"

	"lightship/api"
	"lightship/window"
)

// most is the most numbers that a window may have; round is where numbers go round, and half is as far as one may be behind or ahead.
const (
	most  = 64
	round = 1 << 32
	half  = 1 << 31
)

// TestMain ends the tests, if a call does not end.
func TestMain(m *testing.M) {
	time.AfterFunc(2*time.Minute, func() { panic("a call does not end") })
	os.Exit(m.Run())
}

// number is the one that is so far from base on, or behind it if it is below 0.
func number(base uint32, far int) uint32 {
	return uint32(((int(base)+far)%round + round) % round)
}

// plain is what a window is held against: where it begins, and for each of its places whether it is marked.
type plain struct {
	base   uint32
	marked []bool
}

// far is how far x is from base on, from -2^31 to 2^31 - 1.
func (p *plain) far(x uint32) int {
	far := int(x) - int(p.base)
	if far < -half {
		far += round
	}
	if far >= half {
		far -= round
	}
	return far
}

func (p *plain) mark(x uint32) int {
	far := p.far(x)
	// Of two that are 2^31 apart neither is less.
	if far < 0 && far != -half {
		return 0
	}
	if far == -half || far >= len(p.marked) {
		return 1
	}
	if p.marked[far] {
		return 2
	}
	p.marked[far] = true
	return 3
}

func (p *plain) slide(times int) int {
	n := 0
	for n < times && p.marked[0] {
		p.marked = append(slices.Clone(p.marked[1:]), false)
		p.base = number(p.base, 1)
		n++
	}
	return n
}

func (p *plain) has(x uint32) bool {
	far := p.far(x)
	return far >= 0 && far < len(p.marked) && p.marked[far]
}

func (p *plain) missing() []uint32 {
	var l, found []uint32
	for i, marked := range p.marked {
		if marked {
			// Whoever lacked so far is less than this one.
			found = slices.Clone(l)
			continue
		}
		l = append(l, number(p.base, i))
	}
	return found
}

// told are numbers as they are told.
func told(l []uint32) string {
	s := make([]string, len(l))
	for i, x := range l {
		s[i] = strconv.FormatUint(uint64(x), 10)
	}
	return "[" + strings.Join(s[:min(len(s), 70)], " ") + "]"
}

// both are a window and the plain one that it is held against, to which the same is done; and what was done so far.
type both struct {
	t     *testing.T
	got   *window.Window
	want  plain
	calls []string
}

func newBoth(t *testing.T, base uint32, n int) *both {
	t.Helper()
	w, err := window.New(base, n)
	if err != api.OK || w == nil {
		t.Fatalf("New(%d, %d): %v, %d, want a window, OK", base, n, w, err)
	}
	return &both{t: t, got: w, want: plain{base: base, marked: make([]bool, n)}, calls: []string{"New " + told([]uint32{base, uint32(n)})}}
}

// fail ends the test, and tells what was done, the last calls alone if there were many.
func (b *both) fail(what string) {
	b.t.Helper()
	b.t.Fatalf("%s; %s: %s", b.calls[0], strings.Join(b.calls[max(1, len(b.calls)-80):], "; "), what)
}

func (b *both) mark(x uint32) int {
	b.t.Helper()
	b.calls = append(b.calls, "Mark "+told([]uint32{x}))
	got, want := b.got.Mark(x), b.want.mark(x)
	if got != want {
		b.fail(strconv.Itoa(got) + ", want " + strconv.Itoa(want))
	}
	return got
}

// markFar marks the one that is so far from base on.
func (b *both) markFar(far int) int {
	b.t.Helper()
	return b.mark(number(b.want.base, far))
}

func (b *both) slide(times int) int {
	b.t.Helper()
	b.calls = append(b.calls, "Slide "+strconv.Itoa(times))
	got, want := b.got.Slide(times), b.want.slide(times)
	if got != want {
		b.fail(strconv.Itoa(got) + ", want " + strconv.Itoa(want))
	}
	b.base()
	return got
}

func (b *both) base() {
	b.t.Helper()
	if got := b.got.Base(); got != b.want.base {
		b.fail("Base: " + told([]uint32{got, b.want.base}) + ", want the second one")
	}
}

func (b *both) has(x uint32) {
	b.t.Helper()
	if got := b.got.Has(x); got != b.want.has(x) {
		b.fail("Has " + told([]uint32{x}) + ": " + strconv.FormatBool(got))
	}
}

func (b *both) missing() []uint32 {
	b.t.Helper()
	got, want := b.got.Missing(), b.want.missing()
	if !slices.Equal(got, want) {
		b.fail("Missing: " + told(got) + ", want " + told(want))
	}
	return got
}

// near are places from base on: about the window, and far ones, some of them with the same last bits as one within.
func near(n int) []int {
	l := []int{-half, -half + 1, half - 1}
	for far := -3; far <= n+3; far++ {
		l = append(l, far)
	}
	for _, base := range []int{-1 << 30, -1 << 16, -256, -128, -64, 64, 128, 256, 1 << 16, 1 << 30} {
		for low := -1; low <= 2; low++ {
			l = append(l, base+low)
		}
	}
	return append(l, n-half-1, n-half, n-half+1, -n-1, -n, -n+1, 2*n-1, 2*n, 2*n+1)
}

// look asks for everything, twice, which would see whether asking changes something.
func (b *both) look() {
	b.t.Helper()
	for range 2 {
		b.base()
		b.missing()
		for _, far := range near(len(b.want.marked)) {
			b.has(number(b.want.base, far))
		}
	}
}

// end looks, marks what is missing, and slides up to the first one that was never marked.
func (b *both) end() {
	b.t.Helper()
	b.look()
	for _, x := range b.missing() {
		b.mark(x)
	}
	b.missing()
	b.slide(1)
	b.slide(math.MaxInt)
	b.look()
	b.slide(math.MaxInt)
	b.look()
}

// Whoever looks may set right what a call finds wrong: twice does something to a new window, nobody looks the first time.
func twice(t *testing.T, base uint32, n int, do func(b *both, look func())) {
	t.Helper()
	for _, looks := range []bool{false, true} {
		b := newBoth(t, base, n)
		do(b, func() {
			t.Helper()
			if looks {
				b.look()
			}
		})
		b.end()
	}
}

// bases are numbers at which a window may begin: about 0, about the middle, and so that it goes round or just does not.
func bases() []uint32 {
	return []uint32{0, 1, 2, 255, 256, 65535, 65536, half - 64, half - 1, half, half + 1, round - 256, round - 66, round - 65, round - 64, round - 63, round - 62, round - 5, round - 3, round - 2, round - 1}
}

// sizes are how many numbers a window may have.
func sizes() []int {
	return []int{1, 2, 3, 7, 8, 9, 31, 32, 33, 63, 64}
}

// noSizes are how many numbers no window may have: some are 1 to 64 in their last bits.
func noSizes() []int {
	l := []int{0, -1, -2, -63, -64, -65, 65, 66, 127, 128, 129, 255, 256, 257, 65535, 65537, math.MaxInt, math.MaxInt - 1, math.MinInt, math.MinInt + 1}
	for _, base := range []int{-1 << 62, -1 << 32, -1 << 31, -1 << 16, -1 << 8, 1 << 8, 1 << 16, 1 << 31, 1 << 32, 1 << 62} {
		for _, low := range []int{0, 1, 2, 8, 63, 64} {
			l = append(l, base+low)
		}
	}
	return l
}

// dice are numbers in no order, another row for each seed.
type dice uint64

// below is a number from 0 to n - 1.
func (d *dice) below(n int) int {
	*d = *d*6364136223846793005 + 1442695040888963407
	return int(uint64(*d)>>33) % n
}

// mixed are the places 0 to n - 1 in another order.
func (d *dice) mixed(n int) []int {
	l := make([]int, n)
	for i := range l {
		j := d.below(i + 1)
		l[i], l[j] = l[j], i
	}
	return l
}

// Promise 15.1: the chapter's example.

func TestExample(t *testing.T) {
	w, err := window.New(4294967295, 3)
	if err != api.OK {
		t.Fatalf("New: %d, want OK", err)
	}
	if got := w.Mark(1); got != 3 {
		t.Errorf("Mark(1): %d, want 3", got)
	}
	if got := w.Missing(); !slices.Equal(got, []uint32{4294967295, 0}) {
		t.Errorf("Missing: %s, want [4294967295 0]", told(got))
	}
}

// Promise 15.1: New.

func TestNew(t *testing.T) {
	for _, base := range bases() {
		for n := 1; n <= most; n++ {
			b := newBoth(t, base, n)
			b.look()
			// None is marked: it does not slide, whatever is asked.
			for _, times := range []int{math.MinInt, -1, 0, 1, 2, 64, math.MaxInt} {
				if got := b.slide(times); got != 0 {
					t.Errorf("New(%d, %d), Slide(%d): %d, want 0", base, n, times, got)
				}
			}
			if l := b.got.Missing(); len(l) != 0 {
				t.Errorf("New(%d, %d), Missing: %s, want none", base, n, told(l))
			}
			// It ends where n says.
			b.markFar(n)
			b.markFar(n - 1)
			b.end()
		}
	}
}

func TestNewRefuses(t *testing.T) {
	for _, base := range bases() {
		for _, n := range noSizes() {
			if w, err := window.New(base, n); w != nil || err != api.ErrArg {
				t.Errorf("New(%d, %d): %v, %d, want nil, ErrArg", base, n, w, err)
			}
		}
	}
}

// The edges of n, written out.
func TestNewByHand(t *testing.T) {
	for _, x := range []struct {
		n   int
		err api.Errno
	}{{math.MinInt, api.ErrArg}, {-1, api.ErrArg}, {0, api.ErrArg}, {1, api.OK}, {2, api.OK}, {63, api.OK}, {64, api.OK}, {65, api.ErrArg}, {math.MaxInt, api.ErrArg}} {
		for _, base := range []uint32{0, 1, 2147483647, 2147483648, 4294967232, 4294967295} {
			w, err := window.New(base, x.n)
			if err != x.err || (w == nil) != (x.err != api.OK) {
				t.Errorf("New(%d, %d): %v, %d, want %d", base, x.n, w, err, x.err)
			}
			if w.Base() != base && x.err == api.OK {
				t.Errorf("New(%d, %d), Base: %d", base, x.n, w.Base())
			}
		}
	}
}

// Promise 15.1: Mark.

// Answers written out: those below base, within, past it, and about 2^31 behind it; then the same ones again.
func TestMarkByHand(t *testing.T) {
	type marks struct {
		x            uint32
		first, again int
	}
	for _, c := range []struct {
		base uint32
		n    int
		l    []marks
	}{
		{100, 4, []marks{{99, 0, 0}, {100, 3, 2}, {101, 3, 2}, {103, 3, 2}, {104, 1, 1}, {102, 3, 2}, {0, 0, 0}, {2147483747, 1, 1}, {2147483748, 1, 1}, {2147483749, 0, 0}, {4294967295, 0, 0}}},
		{0, 64, []marks{{4294967295, 0, 0}, {0, 3, 2}, {63, 3, 2}, {64, 1, 1}, {2147483647, 1, 1}, {2147483648, 1, 1}, {2147483649, 0, 0}}},
		{4294967294, 4, []marks{{4294967293, 0, 0}, {4294967294, 3, 2}, {4294967295, 3, 2}, {0, 3, 2}, {1, 3, 2}, {2, 1, 1}, {2147483645, 1, 1}, {2147483646, 1, 1}, {2147483647, 0, 0}}},
		{4294967295, 1, []marks{{4294967294, 0, 0}, {4294967295, 3, 2}, {0, 1, 1}, {2147483646, 1, 1}, {2147483647, 1, 1}, {2147483648, 0, 0}}},
		{2147483648, 2, []marks{{2147483647, 0, 0}, {2147483648, 3, 2}, {2147483649, 3, 2}, {2147483650, 1, 1}, {4294967295, 1, 1}, {0, 1, 1}, {1, 0, 0}}},
		{2147483647, 64, []marks{{2147483646, 0, 0}, {2147483647, 3, 2}, {2147483710, 3, 2}, {2147483711, 1, 1}, {4294967294, 1, 1}, {4294967295, 1, 1}, {0, 0, 0}}},
		{4294967232, 64, []marks{{4294967231, 0, 0}, {4294967295, 3, 2}, {0, 1, 1}, {4294967232, 3, 2}, {2147483584, 1, 1}, {2147483585, 0, 0}}},
	} {
		w, _ := window.New(c.base, c.n)
		for _, m := range c.l {
			if got := w.Mark(m.x); got != m.first {
				t.Errorf("base %d, n %d: Mark(%d): %d, want %d", c.base, c.n, m.x, got, m.first)
			}
		}
		for _, m := range c.l {
			if got := w.Mark(m.x); got != m.again {
				t.Errorf("base %d, n %d: Mark(%d) again: %d, want %d", c.base, c.n, m.x, got, m.again)
			}
		}
		if w.Base() != c.base {
			t.Errorf("base %d, n %d: Base is %d now", c.base, c.n, w.Base())
		}
	}
}

// Each number alone in a new window, near and far, once and again.
func TestMarkOne(t *testing.T) {
	for _, base := range bases() {
		for _, n := range sizes() {
			for _, far := range near(n) {
				b := newBoth(t, base, n)
				b.markFar(far)
				b.base()
				b.has(number(base, far))
				b.missing()
				b.markFar(far)
				b.slide(math.MaxInt)
				b.missing()
			}
		}
	}
}

// All numbers about the window, rising, falling and mixed, with looks between.
func TestMarkAll(t *testing.T) {
	d := dice(5)
	for _, base := range bases() {
		for _, n := range sizes() {
			twice(t, base, n, func(b *both, look func()) {
				fars := near(n)
				for _, i := range d.mixed(len(fars)) {
					b.markFar(fars[i])
				}
				look()
				for _, far := range fars {
					b.markFar(far)
				}
				look()
			})
			rising, falling := newBoth(t, base, n), newBoth(t, base, n)
			for i := range n {
				rising.markFar(i)
				rising.missing()
				falling.markFar(n - 1 - i)
				falling.missing()
			}
			rising.end()
			falling.end()
		}
	}
}

// Marks that are refused change nothing, however many.
func TestMarkRefusedChangesNothing(t *testing.T) {
	for _, base := range bases() {
		b := newBoth(t, base, 5)
		b.markFar(1)
		b.markFar(3)
		for _, far := range near(5) {
			if far < 0 || far > 4 || far == 1 || far == 3 {
				b.markFar(far)
				b.missing()
			}
		}
		b.look()
		if l := b.got.Missing(); !slices.Equal(l, []uint32{base, base + 2}) {
			t.Errorf("base %d: Missing: %s, want the ones at 0 and 2", base, told(l))
		}
		b.end()
	}
}

// Promise 15.1: Slide.

// Answers written out: base 4294967294, of eight numbers those at 0, 1, 2 and 5 are marked.
func TestSlideByHand(t *testing.T) {
	for _, x := range []struct {
		times, want int
		base        uint32
	}{
		{math.MinInt, 0, 4294967294}, {-1, 0, 4294967294}, {0, 0, 4294967294}, {1, 1, 4294967295},
		{2, 2, 0}, {3, 3, 1}, {4, 3, 1}, {5, 3, 1}, {64, 3, 1}, {math.MaxInt, 3, 1},
	} {
		w, _ := window.New(4294967294, 8)
		for _, x := range []uint32{4294967295, 3, 0, 4294967294} {
			w.Mark(x)
		}
		if got := w.Slide(x.times); got != x.want || w.Base() != x.base {
			t.Errorf("Slide(%d): %d, base %d behind it, want %d, %d", x.times, got, w.Base(), x.want, x.base)
		}
	}
}

// timesOf are how often it may be asked to slide, where so many are marked from base on.
func timesOf(row int) []int {
	return []int{math.MinInt, math.MinInt + 1, -1 << 32, -1<<32 + 1, -row, -1, 0, 1, 2, row - 1, row, row + 1, row + 2, 63, 64, 65, 1 << 8, 1 << 16, 1 << 31, 1 << 32, 1<<32 + 1, math.MaxInt - 1, math.MaxInt}
}

// row is how many are marked from base on.
func (p *plain) row() int {
	n := 0
	for n < len(p.marked) && p.marked[n] {
		n++
	}
	return n
}

// Each way in which a small window may be marked, and each number of times; then once more, and up to the end.
func TestSlideSmall(t *testing.T) {
	for _, base := range []uint32{0, half - 2, round - 5, round - 3, round - 1} {
		for n := 1; n <= 5; n++ {
			for mask := range 1 << n {
				for _, times := range timesOf(bitsFromLow(mask)) {
					b := newBoth(t, base, n)
					for i := range n {
						if mask>>i&1 == 1 {
							b.markFar(i)
						}
					}
					b.slide(times)
					b.missing()
					b.slide(times)
					b.end()
				}
			}
		}
	}
}

// bitsFromLow is how many of its lowest bits are 1.
func bitsFromLow(mask int) int {
	n := 0
	for mask>>n&1 == 1 {
		n++
	}
	return n
}

// All sizes: those up to a gap are marked, and of those behind the gap none, the next ones, the last one, or all.
func TestSlideUpToAGap(t *testing.T) {
	for _, base := range []uint32{0, half - 10, round - 40} {
		for _, n := range []int{1, 2, 3, 8, 33, 64} {
			for gap := 0; gap <= n; gap++ {
				for kind := range 4 {
					times := timesOf(gap)
					twice(t, base, n, func(b *both, look func()) {
						for i := range n {
							if i < gap || i > gap && (kind == 3 || kind == 2 && i == n-1 || kind == 1 && i < gap+3) {
								b.markFar(i)
							}
						}
						if b.want.row() != gap {
							b.fail("the test marks others than it means")
						}
						look()
						b.slide(times[(gap+kind+n)%len(times)])
						look()
						b.slide(1)
						look()
					})
				}
			}
		}
	}
}

// A full window of 64, and each number of times that matters.
func TestSlideFull(t *testing.T) {
	for _, base := range bases() {
		for _, n := range []int{63, 64} {
			for _, times := range timesOf(n) {
				b := newBoth(t, base, n)
				for i := range n {
					b.markFar(n - 1 - i)
				}
				want := max(0, min(n, times))
				if got := b.slide(times); got != want || b.got.Base() != number(base, want) {
					t.Errorf("base %d, %d marked, Slide(%d): %d, base %d behind it, want %d", base, n, times, got, b.got.Base(), want)
				}
				b.end()
			}
		}
	}
}

// What was slid over is less than base, and marked no more; what comes within is not marked.
func TestSlidOver(t *testing.T) {
	for _, base := range bases() {
		for _, n := range sizes() {
			w, _ := window.New(base, n)
			for i := range n {
				w.Mark(number(base, i))
			}
			if w.Mark(number(base, n)) != 1 {
				t.Fatalf("base %d, n %d: the one past the window is within", base, n)
			}
			if got := w.Slide(n); got != n {
				t.Fatalf("base %d, n %d: Slide: %d", base, n, got)
			}
			for i := range n {
				old, fresh := number(base, i), number(base, n+i)
				if w.Has(old) || w.Mark(old) != 0 || w.Has(old) {
					t.Errorf("base %d, n %d: %d was slid over, and is there", base, n, old)
				}
				if w.Has(fresh) || w.Mark(fresh) != 3 || !w.Has(fresh) || w.Mark(fresh) != 2 {
					t.Errorf("base %d, n %d: %d came within, and is not fresh", base, n, fresh)
				}
			}
		}
	}
}

// It slides far, by few at a time, some ahead of others: by then base has gone round.
func TestSlideFar(t *testing.T) {
	for _, n := range []int{1, 2, 3, 33, 64} {
		b := newBoth(t, round-1000, n)
		d := dice(n)
		for range 3000 {
			for range d.below(n) {
				b.markFar(d.below(n))
			}
			b.markFar(0)
			b.slide(1 + d.below(3))
			b.missing()
			b.calls = b.calls[:1]
		}
		b.end()
		if b.got.Base() > 1<<20 {
			t.Errorf("n %d: Base: %d, and numbers have not gone round", n, b.got.Base())
		}
	}
}

// Promise 15.1: Has.

func TestHasByHand(t *testing.T) {
	w, _ := window.New(4294967294, 5)
	w.Mark(4294967295)
	w.Mark(2)
	w.Mark(3)
	for _, x := range []struct {
		x    uint32
		want bool
	}{{4294967293, false}, {4294967294, false}, {4294967295, true}, {0, false}, {1, false}, {2, true}, {3, false}, {4, false}, {2147483646, false}, {2147483647, false}, {2147483650, false}, {258, false}, {65538, false}} {
		if got := w.Has(x.x); got != x.want {
			t.Errorf("Has(%d): %t, want %t", x.x, got, x.want)
		}
	}
	// Asked for, none is marked by it.
	if got := w.Mark(0); got != 3 {
		t.Errorf("Mark(0): %d, want 3", got)
	}
}

// One is marked, and each of the others is not.
func TestHasOne(t *testing.T) {
	for _, base := range bases() {
		for _, n := range sizes() {
			for _, far := range []int{0, 1, n / 2, n - 2, n - 1} {
				b := newBoth(t, base, n)
				b.markFar(far)
				b.look()
				b.slide(1)
				b.look()
			}
		}
	}
}

// Promise 15.1: Missing.

func TestMissingByHand(t *testing.T) {
	for _, x := range []struct {
		base  uint32
		n     int
		marks []uint32
		want  []uint32
	}{
		{10, 5, nil, nil},
		{10, 5, []uint32{10}, nil},
		{10, 5, []uint32{11}, []uint32{10}},
		{10, 5, []uint32{14}, []uint32{10, 11, 12, 13}},
		{10, 5, []uint32{15, 9}, nil},
		{10, 5, []uint32{14, 10}, []uint32{11, 12, 13}},
		{10, 5, []uint32{12, 10}, []uint32{11}},
		{10, 5, []uint32{13, 11}, []uint32{10, 12}},
		{10, 5, []uint32{10, 11, 12}, nil},
		{10, 5, []uint32{12, 11, 10, 13, 14}, nil},
		{10, 1, []uint32{10}, nil},
		{4294967293, 6, []uint32{4294967293}, nil},
		{4294967293, 6, []uint32{2, 4294967294}, []uint32{4294967293, 4294967295, 0, 1}},
		{4294967293, 6, []uint32{4294967295}, []uint32{4294967293, 4294967294}},
		{4294967293, 6, []uint32{0}, []uint32{4294967293, 4294967294, 4294967295}},
		{4294967293, 6, []uint32{1, 4294967295, 4294967293}, []uint32{4294967294, 0}},
		{2147483646, 4, []uint32{2147483649}, []uint32{2147483646, 2147483647, 2147483648}},
	} {
		w, _ := window.New(x.base, x.n)
		for _, m := range x.marks {
			w.Mark(m)
		}
		if got := w.Missing(); !slices.Equal(got, x.want) {
			t.Errorf("base %d, n %d, marked %s: Missing: %s, want %s", x.base, x.n, told(x.marks), told(got), told(x.want))
		}
	}
}

// Each way in which a small window may be marked.
func TestMissingSmall(t *testing.T) {
	for _, base := range []uint32{0, 1, half - 3, round - 8, round - 7, round - 4, round - 1} {
		for n := 1; n <= 7; n++ {
			for mask := range 1 << n {
				b := newBoth(t, base, n)
				for i := range n {
					if mask>>i&1 == 1 {
						b.markFar(i)
					}
				}
				b.missing()
				b.end()
			}
		}
	}
}

// Greater windows: one is marked; all but one; each second one; each third one; halves.
func TestMissingGreat(t *testing.T) {
	for _, base := range bases() {
		for _, n := range []int{31, 32, 33, 63, 64} {
			for one := range n {
				for kind, is := range []func(i int) bool{
					func(i int) bool { return i == one },
					func(i int) bool { return i != one },
					func(i int) bool { return i%2 == one%2 && i <= one },
					func(i int) bool { return (i+one)%3 == 0 },
					func(i int) bool { return i >= one },
				} {
					b := newBoth(t, base, n)
					for i := range n {
						// Half of the windows are marked from their end on.
						if i = (i + (n-1-2*i)*(kind%2)); is(i) {
							b.markFar(i)
						}
					}
					b.missing()
				}
			}
		}
	}
}

// Behind a slide that stops for its number of times, none is missing that is marked, or was slid over.
func TestMissingBehindASlide(t *testing.T) {
	w, _ := window.New(4294967290, 16)
	for _, x := range []uint32{4294967290, 4294967291, 4294967292, 4294967294, 0, 5} {
		w.Mark(x)
	}
	for _, x := range []struct {
		times, slid int
		want        []uint32
	}{{0, 0, []uint32{4294967293, 4294967295, 1, 2, 3, 4}}, {2, 2, []uint32{4294967293, 4294967295, 1, 2, 3, 4}}, {9, 1, []uint32{4294967293, 4294967295, 1, 2, 3, 4}}} {
		if got := w.Slide(x.times); got != x.slid || !slices.Equal(w.Missing(), x.want) {
			t.Errorf("Slide(%d): %d, Missing %s, want %d, %s", x.times, got, told(w.Missing()), x.slid, told(x.want))
		}
	}
	w.Mark(4294967293)
	if got := w.Slide(9); got != 2 || !slices.Equal(w.Missing(), []uint32{4294967295, 1, 2, 3, 4}) {
		t.Errorf("Slide(9): %d, Missing %s", got, told(w.Missing()))
	}
	for _, x := range []uint32{4294967295, 1, 2, 3, 4} {
		w.Mark(x)
	}
	if got := w.Slide(99); got != 7 || w.Base() != 6 || len(w.Missing()) != 0 {
		t.Errorf("Slide(99): %d, Base %d, Missing %s, want 7, 6, none", got, w.Base(), told(w.Missing()))
	}
	// 6 to 21 are within now.
	if past, last := w.Mark(22), w.Mark(21); past != 1 || last != 3 || len(w.Missing()) != 15 {
		t.Errorf("Mark(22): %d, Mark(21): %d, Missing %s", past, last, told(w.Missing()))
	}
}

// Promise 15.1: all of it, against the chapter's words.

// step is one of the calls that each row has.
func (b *both) step(i int) {
	b.t.Helper()
	switch {
	case i < 5:
		b.markFar(i - 1)
	case i < 8:
		b.slide(i - 5)
	default:
		b.slide(math.MaxInt)
	}
}

// All rows of so many calls, with nobody looking till the end, and with looks.
func TestEachRowOfCalls(t *testing.T) {
	const kinds, length = 9, 5
	for row := range kinds * kinds * kinds * kinds * kinds {
		b := newBoth(t, []uint32{round - 2, half - 1, 0}[row%3], 3)
		for i, rest := 0, row; i < length; i, rest = i+1, rest/kinds {
			b.step(rest % kinds)
			if row%2 == 1 {
				b.missing()
				b.has(number(b.want.base, row%4))
			}
		}
		b.missing()
		b.slide(math.MaxInt)
		b.missing()
	}
}

// mix makes many calls, the next one by chance of a fixed seed; fresh are those that were told to be so.
func mix(t *testing.T, base uint32, n int, seed uint64) {
	t.Helper()
	b, d, fresh := newBoth(t, base, n), dice(seed), map[uint32]bool{}
	fars := near(n)
	// So long as marks come rather from the beginning on it slides, and then there are gaps.
	reach := n
	for range 2000 {
		var x uint32
		switch turn := d.below(12); {
		case turn < 6:
			x = number(b.want.base, d.below(reach))
		case turn < 8:
			x = number(b.want.base, fars[d.below(len(fars))])
		case turn < 9:
			x = b.want.base
		case turn < 11:
			b.slide(d.below(n+3) - 1)
			b.missing()
			continue
		default:
			reach = 1 + d.below(n)
			b.slide(math.MaxInt)
			continue
		}
		if b.mark(x) == 3 {
			if fresh[x] {
				b.fail("it was told to be fresh ahead")
			}
			fresh[x] = true
		}
		b.has(x)
		if d.below(20) == 0 {
			b.look()
		}
	}
	b.end()
}

func TestMixed(t *testing.T) {
	for seed := range uint64(3) {
		for _, base := range []uint32{0, half - 500, half, round - 1, round - 500} {
			for _, n := range sizes() {
				mix(t, base, n, seed*100+uint64(n))
			}
		}
	}
}

// A long row of numbers that come late, twice and mixed up, as long as they do not go round: each one is fresh once, and none is lost.
func TestFreshOnce(t *testing.T) {
	const many = 20000
	for _, n := range []int{1, 5, 64} {
		w, _ := window.New(round-many/2, n)
		d, fresh, slid := dice(7), map[uint32]int{}, 0
		for range 60 * many {
			if slid == many {
				break
			}
			x := number(w.Base(), d.below(n+6)-3)
			if w.Mark(x) == 3 {
				fresh[x]++
			}
			if d.below(4) == 0 {
				slid += w.Slide(min(d.below(70), many-slid))
			}
		}
		if slid != many || w.Base() != many/2 {
			t.Fatalf("n %d: it slid %d times, to %d, want %d, %d", n, slid, w.Base(), many, many/2)
		}
		for i := range many {
			if x := number(round-many/2, i); fresh[x] != 1 {
				t.Fatalf("n %d: %d was fresh %d times", n, x, fresh[x])
			}
		}
		for x, times := range fresh {
			if times != 1 {
				t.Fatalf("n %d: %d was fresh %d times", n, x, times)
			}
		}
	}
}

// R4 and R5: what was answered stays as it was, and hangs on what was done to the same window alone.

func TestAnswersStay(t *testing.T) {
	b, d := newBoth(t, round-100, 40), dice(9)
	var got, want [][]uint32
	for range 400 {
		for range 5 {
			b.markFar(d.below(40))
		}
		l := b.missing()
		got, want = append(got, l), append(want, slices.Clone(l))
		b.slide(d.below(4))
		if d.below(3) == 0 {
			b.markFar(0)
		}
	}
	b.end()
	for i := range got {
		if !slices.Equal(got[i], want[i]) {
			t.Fatalf("what was answered as %s is %s now", told(want[i]), told(got[i]))
		}
	}
}

// No two lists that are answered share memory, and the window none with them.
func TestAnswersAreNewMemory(t *testing.T) {
	b := newBoth(t, round-3, 20)
	var all [][]uint32
	for _, far := range []int{7, 12, 19, 3} {
		b.markFar(far)
		all = append(all, b.missing(), b.missing())
	}
	for i, l := range all {
		for j := range l[:cap(l)] {
			l[:cap(l)][j] = uint32(1000 + i)
		}
		b.look()
	}
	for i, l := range all {
		for _, x := range l {
			if x != uint32(1000+i) {
				t.Fatalf("the list answered at place %d shares memory with the one at place %d", i, x-1000)
			}
		}
	}
	b.end()
}

// The same numbers, marked in other orders, are missing in one order, each time.
func TestMissingAgain(t *testing.T) {
	d := dice(4)
	want := []uint32{4294967276, 4294967279, 4294967282, 4294967285, 4294967288, 4294967291, 4294967294, 1, 4, 7, 10, 13}
	for range 300 {
		w, _ := window.New(round-20, 36)
		for _, far := range d.mixed(36) {
			if far%3 != 0 {
				w.Mark(number(round-20, far))
			}
		}
		for range 3 {
			if got := w.Missing(); !slices.Equal(got, want) {
				t.Fatalf("Missing: %s, want %s", told(got), told(want))
			}
		}
	}
}

func TestTwoWindowsShareNothing(t *testing.T) {
	first, second := newBoth(t, round-5, 8), newBoth(t, round-5, 8)
	for i := range 60 {
		first.markFar(i * 3 % 8)
		second.look()
		second.markFar(i * 5 % 7)
		first.look()
		first.slide(i % 3)
		second.look()
		second.slide(i % 2)
		first.look()
	}
	first.end()
	second.end()
}

// R1: on nil.

func TestNil(t *testing.T) {
	var none *window.Window
	for _, base := range bases() {
		for _, far := range near(64) {
			x := number(base, far)
			if got := none.Mark(x); got != 0 {
				t.Fatalf("Mark(%d): %d, want 0", x, got)
			}
			if none.Has(x) {
				t.Fatalf("Has(%d): true", x)
			}
		}
	}
	for _, times := range timesOf(3) {
		if got := none.Slide(times); got != 0 {
			t.Errorf("Slide(%d): %d, want 0", times, got)
		}
	}
	if got := none.Base(); got != 0 {
		t.Errorf("Base: %d, want 0", got)
	}
	if l := none.Missing(); len(l) != 0 {
		t.Errorf("Missing: %s, want none", told(l))
	}
}
