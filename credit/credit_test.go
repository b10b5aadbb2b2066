package credit_test

import (
	"math"
	"os"
	"strconv"
	"strings"
	"testing"
	"time"

	"lightship/api"
	"lightship/credit"
)

// most is the greatest n that may be; round is where numbers go round, and half is as far as one may be behind or ahead.
const (
	most  = 65535
	round = 1 << 32
	half  = 1 << 31
)

// TestMain ends the tests, if a call does not end.
func TestMain(m *testing.M) {
	time.AfterFunc(2*time.Minute, func() { panic("a call does not end") })
	os.Exit(m.Run())
}

// number is the one that is so far from base on, or behind it if it is below 0.
func number(base uint32, far int) uint32 {
	return uint32(((int(base)+far)%round + round) % round)
}

// ahead is how far b is ahead of a, from -2^31 to 2^31 - 1.
func ahead(a, b uint32) int {
	far := int(b) - int(a)
	if far < -half {
		far += round
	}
	if far >= half {
		far -= round
	}
	return far
}

// plain is an edge that goes by the chapter's words, against which the other one is held.
type plain uint32

func (p *plain) grant(base uint32, n int) bool {
	if n < 0 || n > most {
		return false
	}
	to := number(base, n)
	if ahead(uint32(*p), to) < 1 {
		return false
	}
	*p = plain(to)
	return true
}

func (p plain) lets(x uint32) bool { return ahead(x, uint32(p)) > 0 }

// told is a number as it is told.
func told(x uint32) string { return strconv.FormatUint(uint64(x), 10) }

// both are an edge and the plain one that it is held against, to which the same is done; and what was done so far.
type both struct {
	t     *testing.T
	got   *credit.Edge
	want  plain
	calls []string
}

func newBoth(t *testing.T, base uint32, n int) *both {
	t.Helper()
	e, err := credit.New(base, n)
	if err != api.OK || e == nil {
		t.Fatalf("New(%d, %d): %v, %d, want an edge, OK", base, n, e, err)
	}
	return &both{t: t, got: e, want: plain(number(base, n)), calls: []string{"New(" + told(base) + ", " + strconv.Itoa(n) + ")"}}
}

// fail ends the test, and tells what was done, the last calls alone if there were many.
func (b *both) fail(what string) {
	b.t.Helper()
	b.t.Fatalf("%s; %s: %s", b.calls[0], strings.Join(b.calls[max(1, len(b.calls)-40):], "; "), what)
}

// at is the edge behind the last call.
func (b *both) at() uint32 {
	b.t.Helper()
	got := b.got.At()
	if got != uint32(b.want) {
		b.fail("At: " + told(got) + ", want " + told(uint32(b.want)))
	}
	return got
}

// grant grants, and holds promise 16.2 against what came of it.
func (b *both) grant(base uint32, n int) bool {
	b.t.Helper()
	first := b.got.At()
	got, want := b.got.Grant(base, n), b.want.grant(base, n)
	b.calls = append(b.calls, "Grant("+told(base)+", "+strconv.Itoa(n)+")")
	if got != want {
		b.fail(strconv.FormatBool(got) + ", want " + strconv.FormatBool(want))
	}
	then := b.at()
	if far := ahead(first, then); far < 0 || got != (far > 0) {
		b.fail("the edge was " + told(first) + ", and is " + told(then) + ", beside " + strconv.FormatBool(got))
	}
	return got
}

// grantFar grants with that n so that base and n is so far from the edge on.
func (b *both) grantFar(far, n int) bool {
	b.t.Helper()
	return b.grant(number(uint32(b.want), far-n), n)
}

func (b *both) lets(x uint32) {
	b.t.Helper()
	if got := b.got.Lets(x); got != b.want.lets(x) {
		b.fail("Lets(" + told(x) + "): " + strconv.FormatBool(got))
	}
}

// fars are how far from an edge on a number may be: about it, about 2^31 from it, and some between, with other last bits and the same ones.
func fars() []int {
	l := []int{0}
	for _, base := range []int{0, 8, 16, 24, 30} {
		for low := -2; low <= 2; low++ {
			l = append(l, 1<<base+low, -1<<base+low)
		}
	}
	for far := half - 3; far <= half+3; far++ {
		l = append(l, far, -far)
	}
	return append(l, 10, -10, most-1, most, 1-most, -most)
}

// look asks for everything, twice, which would see whether asking changes something.
func (b *both) look() {
	b.t.Helper()
	for range 2 {
		b.at()
		for _, far := range fars() {
			b.lets(number(uint32(b.want), far))
			b.lets(number(0, far))
		}
		b.at()
	}
}

// sizes are how far past base an edge may be: the least, the greatest, and some between.
func sizes() []int {
	return []int{0, 1, 2, 3, 127, 128, 255, 256, 257, 1000, 32767, 32768, 65534, most}
}

// noSizes are how far past base no edge may be: some are 0 to 65535 in their last bits.
func noSizes() []int {
	l := []int{-1, -2, -65535, -65536, -65537, 65536, 65537, 65538, 131071, 131072, math.MaxInt, math.MaxInt - 1, math.MinInt, math.MinInt + 1}
	for _, base := range []int{-1 << 62, -1 << 33, -1 << 32, -1 << 31, -1 << 17, 1 << 17, 1 << 31, 1 << 32, 1 << 33, 1 << 62} {
		for _, low := range []int{0, 1, 2, 256, most} {
			l = append(l, base+low)
		}
	}
	return l
}

// bases are numbers to begin from: about 0, about the middle, and such that base and n goes round or just does not.
func bases() []uint32 {
	return []uint32{0, 1, 2, 255, 256, most, most + 1, 1 << 30, half - most - 1, half - most, half - 2, half - 1, half, half + 1, 3 << 30, round - most - 2, round - most - 1, round - most, round - most + 1, round - 256, round - 2, round - 1}
}

// dice are numbers in no order, another row for each seed.
type dice uint64

// below is a number from 0 to n - 1.
func (d *dice) below(n int) int {
	*d = *d*6364136223846793005 + 1442695040888963407
	return int(uint64(*d)>>32) % n
}

// Promise 16.1: the chapter's example.

func TestExample(t *testing.T) {
	e, err := credit.New(0, 2)
	if err != api.OK || e == nil {
		t.Fatalf("New(0, 2): %v, %d, want an edge, OK", e, err)
	}
	if e.Grant(1, 0) {
		t.Error("Grant(1, 0): true, want false")
	}
	if got := e.At(); got != 2 {
		t.Errorf("At: %d, want 2", got)
	}
}

// Promise 16.1: New.

func TestNew(t *testing.T) {
	for _, base := range bases() {
		for _, n := range sizes() {
			newBoth(t, base, n).look()
		}
	}
}

// Each n that may be, and those about them.
func TestNewEachSize(t *testing.T) {
	for _, base := range []uint32{0, 1, half - 9, round - 32768, round - 1} {
		for n := -70000; n <= 140000; n++ {
			e, err := credit.New(base, n)
			if n < 0 || n > most {
				if e != nil || err != api.ErrArg {
					t.Fatalf("New(%d, %d): %v, %d, want nil, ErrArg", base, n, e, err)
				}
				continue
			}
			if err != api.OK || e == nil || e.At() != number(base, n) {
				t.Fatalf("New(%d, %d): %d, %d, want %d, OK", base, n, e.At(), err, number(base, n))
			}
		}
	}
}

func TestNewRefuses(t *testing.T) {
	for _, base := range bases() {
		for _, n := range noSizes() {
			if e, err := credit.New(base, n); e != nil || err != api.ErrArg {
				t.Errorf("New(%d, %d): %v, %d, want nil, ErrArg", base, n, e, err)
			}
		}
	}
}

// Edges written out, for an n of 0, of 1 and of 65535, the last one that may be.
func TestNewByHand(t *testing.T) {
	for _, x := range []struct {
		base              uint32
		none, one, utmost uint32
	}{
		{0, 0, 1, 65535},
		{1, 1, 2, 65536},
		{100, 100, 101, 65635},
		{2147483647, 2147483647, 2147483648, 2147549182},
		{2147483648, 2147483648, 2147483649, 2147549183},
		{4294901760, 4294901760, 4294901761, 4294967295},
		{4294901761, 4294901761, 4294901762, 0},
		{4294967294, 4294967294, 4294967295, 65533},
		{4294967295, 4294967295, 0, 65534},
	} {
		for n, want := range map[int]uint32{0: x.none, 1: x.one, 65535: x.utmost} {
			e, err := credit.New(x.base, n)
			if err != api.OK || e.At() != want {
				t.Errorf("New(%d, %d): %d, %d, want %d, OK", x.base, n, e.At(), err, want)
			}
		}
		for _, n := range []int{math.MinInt, -1, 65536, 4294967296, 4294967297, math.MaxInt} {
			if e, err := credit.New(x.base, n); e != nil || err != api.ErrArg {
				t.Errorf("New(%d, %d): %v, %d, want nil, ErrArg", x.base, n, e, err)
			}
		}
	}
}

// Promise 16.1: Grant.

// Answers written out, one grant behind the other: what it answers, and where the edge is then.
func TestGrantByHand(t *testing.T) {
	type grants struct {
		base uint32
		n    int
		want bool
		at   uint32
	}
	for _, c := range []struct {
		base uint32
		n    int
		l    []grants
	}{
		{10, 5, []grants{
			{10, 5, false, 15}, {10, 4, false, 15}, {15, 0, false, 15}, {0, 15, false, 15}, {14, 0, false, 15}, {0, 0, false, 15},
			{10, 6, true, 16}, {10, 6, false, 16}, {16, 0, false, 16}, {17, 0, true, 17}, {0, 18, true, 18}, {10, 5, false, 18},
			{10, -1, false, 18}, {19, -1, false, 18}, {20, -1, false, 18}, {10, 65536, false, 18}, {0, 65535, true, 65535}, {1, 65535, true, 65536},
		}},
		{0, 0, []grants{
			{4294967295, 0, false, 0}, {4294967295, 1, false, 0}, {2147483648, 0, false, 0}, {2147483649, 0, false, 0}, {2147418114, 65535, false, 0},
			{2147418113, 65535, false, 0}, {4294967295, 2, true, 1}, {2147418113, 65535, true, 2147483648}, {0, 1, false, 2147483648}, {0, 0, false, 2147483648},
			{4294967295, 0, true, 4294967295}, {4294967295, 0, false, 4294967295}, {4294967295, 1, true, 0}, {0, 0, false, 0}, {4294967295, 65535, true, 65534},
		}},
		{0, 0, []grants{{2147483647, 0, true, 2147483647}, {4294967295, 0, false, 2147483647}, {4294967294, 0, true, 4294967294}, {2147483645, 0, true, 2147483645}}},
		{4294967295, 0, []grants{
			{4294967294, 0, false, 4294967295}, {2147483647, 0, false, 4294967295}, {2147483648, 0, false, 4294967295}, {2147483646, 1, false, 4294967295},
			{4294967290, 5, false, 4294967295}, {4294967290, 6, true, 0}, {4294967290, 5, false, 0}, {4294967290, 7, true, 1}, {0, 1, false, 1}, {0, 2, true, 2},
		}},
		{4294967295, 0, []grants{{2147483646, 0, true, 2147483646}, {4294967295, 0, false, 2147483646}, {2147483645, 65536, false, 2147483646}, {2147483645, 2, true, 2147483647}}},
		{4294967000, 65535, []grants{
			{4294967000, 65535, false, 65239}, {4294967001, 65535, true, 65240}, {4294967000, 65535, false, 65240}, {4294967295, 0, false, 65240},
			{65239, 1, false, 65240}, {65239, 2, true, 65241}, {0, 65240, false, 65241}, {0, 65242, true, 65242},
		}},
	} {
		e, err := credit.New(c.base, c.n)
		if err != api.OK {
			t.Fatalf("New(%d, %d): %d, want OK", c.base, c.n, err)
		}
		for _, x := range c.l {
			if got := e.Grant(x.base, x.n); got != x.want || e.At() != x.at {
				t.Fatalf("New(%d, %d), .. Grant(%d, %d): %t, %d, want %t, %d", c.base, c.n, x.base, x.n, got, e.At(), x.want, x.at)
			}
		}
	}
}

// Each base and each n, so that base and n is so far from the edge on; once and again, and with the edge made by another n.
func TestGrantAboutTheEdge(t *testing.T) {
	for _, base := range bases() {
		for _, n := range sizes() {
			for i, far := range fars() {
				first := sizes()[i%len(sizes())]
				b := newBoth(t, number(base, n-far-first), first)
				got := b.grant(base, n)
				if want := ahead(0, number(0, far)) > 0; got != want {
					b.fail("it is " + strconv.Itoa(far) + " ahead of the edge, and the answer is " + strconv.FormatBool(got))
				}
				if b.grant(base, n) {
					b.fail("it was granted twice")
				}
				b.lets(number(base, n-1))
				b.lets(number(base, n))
			}
		}
	}
}

// The edges that matter most, with all looks: who is less than the edge is told by it, behind each grant.
func TestGrantAndLook(t *testing.T) {
	for _, base := range []uint32{0, 1, half - 1, half, round - most, round - 2, round - 1} {
		for _, n := range []int{0, 1, most} {
			for _, far := range []int{-1, 0, 1, half - 1, half, half + 1} {
				b := newBoth(t, number(base, n-far), 0)
				b.look()
				b.grant(base, n)
				b.look()
				b.grant(base, n)
				b.look()
			}
		}
	}
}

// An n that may not be: nothing happens, also where base and n, or what is left of it in 32 bits or 16, is ahead of the edge.
func TestGrantRefusesSizes(t *testing.T) {
	for _, edge := range bases() {
		for _, n := range noSizes() {
			for _, low := range []int{n % round, n % (most + 1), 0} {
				for _, far := range []int{-1, 0, 1, 2, 1000, half - 1, half, half + 1} {
					b := newBoth(t, edge, 0)
					for range 2 {
						if b.grant(number(edge, far-low), n) || b.at() != edge {
							b.fail("it was granted with an n that may not be")
						}
					}
				}
			}
		}
	}
}

// The same ones with n that may be are granted: it was n alone for which they were refused.
func TestGrantRefusesSizesByHand(t *testing.T) {
	for _, edge := range []uint32{0, 1, 2147483647, 2147483648, 4294901761, 4294967294, 4294967295} {
		e, _ := credit.New(edge, 0)
		for _, n := range []int{math.MinInt, -4294967296, -65535, -1, 65536, 65537, 131072, 4294967296, 4294967297, math.MaxInt} {
			for _, base := range []uint32{edge, edge + 1, edge + 2, edge + 100000, edge + 2147483646, edge - 1, edge - 65535} {
				if e.Grant(base, n) || e.At() != edge {
					t.Fatalf("edge %d: Grant(%d, %d) was granted, and the edge is %d", edge, base, n, e.At())
				}
			}
		}
		if !e.Grant(edge, 65535) || e.At() != edge+65535 {
			t.Errorf("edge %d: Grant(%d, 65535) was not granted, and the edge is %d", edge, edge, e.At())
		}
		if !e.Grant(edge+65536, 0) || e.At() != edge+65536 {
			t.Errorf("edge %d: Grant(%d, 0) was not granted, and the edge is %d", edge, edge+65536, e.At())
		}
	}
}

// Promise 16.1: Lets.

func TestLetsByHand(t *testing.T) {
	for _, x := range []struct {
		base uint32
		n    int
		lets []uint32
		not  []uint32
	}{
		{10, 5, []uint32{0, 9, 10, 14, 4294967295, 2147483664}, []uint32{15, 16, 100, 2147483662, 2147483663}},
		{0, 0, []uint32{4294967295, 4294967294, 2147483649}, []uint32{0, 1, 2147483647, 2147483648}},
		{0, 1, []uint32{0, 4294967295, 2147483650}, []uint32{1, 2, 2147483648, 2147483649}},
		{2147483647, 0, []uint32{0, 2147483646}, []uint32{2147483647, 2147483648, 4294967295, 4294967294}},
		{2147483648, 0, []uint32{1, 2147483647}, []uint32{0, 4294967295, 2147483648, 2147483649}},
		{4294967294, 5, []uint32{4294967294, 4294967295, 0, 2, 2147483652}, []uint32{3, 4, 2147483650, 2147483651}},
		{4294967295, 0, []uint32{4294967294, 2147483648}, []uint32{4294967295, 0, 1, 2147483646, 2147483647}},
		{4294901761, 65535, []uint32{4294901761, 4294967295, 2147483649}, []uint32{0, 1, 65535, 2147483648}},
	} {
		e, err := credit.New(x.base, x.n)
		if err != api.OK {
			t.Fatalf("New(%d, %d): %d, want OK", x.base, x.n, err)
		}
		for _, y := range x.lets {
			if !e.Lets(y) {
				t.Errorf("New(%d, %d), Lets(%d): false", x.base, x.n, y)
			}
		}
		for _, y := range x.not {
			if e.Lets(y) {
				t.Errorf("New(%d, %d), Lets(%d): true", x.base, x.n, y)
			}
		}
		if got := e.At(); got != x.base+uint32(x.n) {
			t.Errorf("New(%d, %d), behind Lets the edge is %d", x.base, x.n, got)
		}
	}
}

// The numbers that base and n let are those from base on, n of them.
func TestLetsSoMany(t *testing.T) {
	for _, base := range bases() {
		for _, n := range sizes() {
			e, _ := credit.New(base, n)
			let := 0
			for e.Lets(number(base, let)) && let <= most {
				let++
			}
			if let != n {
				t.Errorf("New(%d, %d): from base on %d are let", base, n, let)
			}
		}
	}
}

// Asked for each second power and those about it, from every edge that matters.
func TestLetsAboutTheEdge(t *testing.T) {
	for _, edge := range bases() {
		b := newBoth(t, edge, 0)
		for bit := range 32 {
			for low := -1; low <= 1; low++ {
				b.lets(number(edge, 1<<bit+low))
				b.lets(number(edge, -1<<bit+low))
				b.lets(uint32(1<<bit + low))
			}
		}
		if b.at() != edge {
			b.fail("the edge moved by asking")
		}
	}
}

// Promise 16.2.

// All rows of five grants out of nine kinds, from some edges on.
func TestEachRowOfGrants(t *testing.T) {
	const kinds, length = 9, 5
	for row := range kinds * kinds * kinds * kinds * kinds {
		edge := []uint32{0, half - 3, round - 2, round - 4}[row%4]
		b := newBoth(t, edge, row%3)
		for i, rest := 0, row; i < length; i, rest = i+1, rest/kinds {
			switch kind := rest % kinds; kind {
			case 0, 1, 2, 3:
				b.grantFar(kind-1, i)
			case 4:
				b.grantFar(half-1, most)
			case 5:
				b.grantFar(half, 1)
			case 6:
				b.grantFar(half+1, 0)
			case 7:
				b.grant(edge, 3)
			default:
				b.grantFar(5, []int{-1, most + 1, round, math.MinInt}[i%4])
			}
			b.lets(edge)
			b.lets(number(uint32(b.want), -1))
			b.lets(uint32(b.want))
		}
	}
}

// mix grants many times, the next one by chance of a fixed seed.
func mix(t *testing.T, base uint32, n int, seed uint64) {
	t.Helper()
	b, d := newBoth(t, base, n), dice(seed)
	l, some, none := fars(), sizes(), noSizes()
	granted, refused := 0, 0
	for i := range 3000 {
		size := some[d.below(len(some))]
		var was bool
		switch d.below(8) {
		case 0:
			was = b.grantFar(l[d.below(len(l))], size)
		case 1:
			was = b.grantFar(d.below(5)-2, size)
		case 2:
			was = b.grantFar(d.below(round)-half, d.below(most+1))
		case 3:
			was = b.grantFar(d.below(2*most)-most, d.below(most+1))
		case 4:
			was = b.grant(uint32(d.below(round)), d.below(most+1))
		case 5:
			was = b.grant(bases()[d.below(len(bases()))], size)
		case 6:
			was = b.grantFar(1+d.below(100), none[d.below(len(none))])
		default:
			// One that came late: it was told ahead of the edge that is now.
			was = b.grantFar(-d.below(1000), size)
		}
		if was {
			granted++
		} else {
			refused++
		}
		b.lets(uint32(d.below(round)))
		b.lets(number(uint32(b.want), d.below(9)-4))
		if i%100 == 0 {
			b.look()
		}
		b.calls = append(b.calls[:1], b.calls[max(1, len(b.calls)-40):]...)
	}
	if granted < 100 || refused < 100 {
		b.fail(strconv.Itoa(granted) + " were granted, and " + strconv.Itoa(refused) + " refused: these are too few to tell")
	}
}

func TestMixed(t *testing.T) {
	for seed := range uint64(3) {
		for _, base := range bases() {
			mix(t, base, sizes()[int(base)%len(sizes())], seed*1000+uint64(base))
		}
	}
}

// By many small steps, with old grants between, the edge goes once round and further, and not once back.
func TestGoesRound(t *testing.T) {
	e, err := credit.New(round-most, 1)
	if err != api.OK {
		t.Fatalf("New: %d, want OK", err)
	}
	at := uint32(round - most + 1)
	for step := range 3 * (most + 1) {
		n := most - step%3
		if e.Grant(at, 0) || e.Grant(at-1, 0) || e.Grant(at-1, 1) || e.Grant(at-most, most) || e.Grant(at+1, -1) || e.Grant(at, most+1) || e.At() != at {
			t.Fatalf("edge %d: an old grant, or one that may not be, was granted, and the edge is %d", at, e.At())
		}
		if !e.Grant(at, n) || e.At() != at+uint32(n) || !e.Lets(at) || e.Lets(e.At()) {
			t.Fatalf("Grant(%d, %d): not granted, or the edge is another one: %d", at, n, e.At())
		}
		at += uint32(n)
	}
}

// By steps as long as can be the edge goes round, each of them granted; the same steps back are not.
func TestGoesRoundByGreatSteps(t *testing.T) {
	for _, base := range bases() {
		b := newBoth(t, base, 0)
		for i, n := range []int{0, most, 1, 0, most, 77} {
			if !b.grantFar(half-1, n) {
				b.fail("it is 2^31 - 1 ahead, and was not granted")
			}
			if b.grantFar(1-half, n) || b.grantFar(-half, n) {
				b.fail("the edge moved back")
			}
			if i%2 == 1 {
				b.look()
			}
		}
	}
}

// What one may send is let as long as it is near: grants that come late, twice and mixed up take none back.
func TestNoneIsTakenBack(t *testing.T) {
	const many = 3000
	e, _ := credit.New(round-many/2, 0)
	d, let := dice(5), -1
	for range 20 * many {
		// The receiver's base is somewhere from 0 to many - 1, and its room 0 to 99.
		base, n := d.below(many), d.below(100)
		e.Grant(number(round-many/2, base), n)
		let = max(let, base+n-1)
		if x := number(round-many/2, let); !e.Lets(x) || e.Lets(x+1) || e.At() != x+1 {
			t.Fatalf("up to %d was granted, and the edge is %d", x, e.At())
		}
	}
	if let < many {
		t.Fatalf("up to place %d was granted: these are too few to tell", let)
	}
}

// R5: what is answered hangs on what was done to the same edge alone.

func TestTwoEdgesShareNothing(t *testing.T) {
	first, second := newBoth(t, round-5, 3), newBoth(t, round-5, 3)
	for i := range 60 {
		first.grantFar(i%3, i)
		second.look()
		second.grantFar(1-i%2, i*1000)
		first.look()
	}
	if ahead(second.at(), first.at()) < 1 {
		first.fail("it was granted further than the other one, and is not")
	}
}

// R1: on nil.

func TestNil(t *testing.T) {
	var none *credit.Edge
	for _, x := range bases() {
		for _, far := range fars() {
			if none.Lets(number(x, far)) {
				t.Fatalf("Lets(%d): true", number(x, far))
			}
		}
		for _, n := range append(sizes(), noSizes()...) {
			if none.Grant(x, n) {
				t.Fatalf("Grant(%d, %d): true", x, n)
			}
			if got := none.At(); got != 0 {
				t.Fatalf("At: %d, want 0", got)
			}
		}
	}
}
