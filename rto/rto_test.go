package rto_test

import (
	"math"
	"testing"
	"time"

	"lightship/api"
	"lightship/rto"
)

// most is the most that a sample, Mean, Var and N are; longest the longest wait.
const (
	most    = 1 << 30
	longest = 1 << 20
)

// rtt is what is known, with these numbers.
func rtt(mean, spread, n int) api.Rtt {
	return api.Rtt{Mean: mean, Var: spread, N: n}
}

// Nothing in what follows goes round by itself: it is what the calls are held against.

// down is n by so many, rounded down, of an n that is 0 at least.
func down(n, by int) int { return (n - n%by) / by }

// cut is n, or top if n is more.
func cut(n, top int) int {
	if n > top {
		return top
	}
	return n
}

// oneMore is n and 1, 2^30 at most.
func oneMore(n int) int {
	if n >= most {
		return most
	}
	return n + 1
}

// takeOf is what Take has to answer.
func takeOf(r api.Rtt, sample int) (api.Rtt, api.Errno) {
	for _, n := range [3]int{sample, r.Mean, r.Var} {
		if n < 0 || n > most {
			return api.Rtt{}, api.ErrRange
		}
	}
	if r.N < 0 {
		return api.Rtt{}, api.ErrRange
	}
	if r.N == 0 {
		return rtt(cut(8*sample, most), cut(2*sample, most), 1), api.OK
	}
	d := sample - down(r.Mean, 8)
	size := d
	if size < 0 {
		size = -size
	}
	return rtt(cut(r.Mean+d, most), cut(r.Var+size-down(r.Var, 4), most), oneMore(r.N)), api.OK
}

// leastOf is what a least wait counts as.
func leastOf(least int) int {
	if least < 1 {
		return 1
	}
	return cut(least, longest)
}

// timeoutOf is what Timeout has to answer.
func timeoutOf(r api.Rtt, least int) int {
	least = leastOf(least)
	if r.N == 0 || r.N < 0 || r.Mean < 0 || r.Var < 0 {
		return least
	}
	// An eighth of the greatest int and the greatest int are less than 2^64.
	together := uint64(down(r.Mean, 8)) + uint64(r.Var)
	if together > longest {
		return longest
	}
	if int(together) < least {
		return least
	}
	return int(together)
}

// backoffOf is what Backoff has to answer.
func backoffOf(least, tries int) int {
	if tries < 0 {
		tries = 0
	}
	// Of 20 tries 1 comes to 2^20 already; 2^20 doubled 20 times is 2^40.
	return cut(leastOf(least)<<cut(tries, 20), longest)
}

func wantTake(t *testing.T, r api.Rtt, sample int, want api.Rtt, wantErr api.Errno) {
	t.Helper()
	if got, err := rto.Take(r, sample); got != want || err != wantErr {
		t.Errorf("Take(%v, %d): %v, %d, want %v, %d", r, sample, got, err, want, wantErr)
	}
}

// wantTaken holds Take to what is reckoned here.
func wantTaken(t *testing.T, r api.Rtt, sample int) {
	t.Helper()
	want, err := takeOf(r, sample)
	wantTake(t, r, sample, want, err)
}

// wantRefused: ErrRange, and nothing beside it.
func wantRefused(t *testing.T, r api.Rtt, sample int) {
	t.Helper()
	wantTake(t, r, sample, api.Rtt{}, api.ErrRange)
}

func wantTimeout(t *testing.T, r api.Rtt, least, want int) {
	t.Helper()
	if got := rto.Timeout(r, least); got != want {
		t.Errorf("Timeout(%v, %d): %d, want %d", r, least, got, want)
	}
}

// backoff is what Backoff answers. It is waited for no longer than a call may ever need: one that went over all tries would never end.
func backoff(t *testing.T, least, tries int) int {
	t.Helper()
	answer := make(chan int, 1)
	go func() { answer <- rto.Backoff(least, tries) }()
	select {
	case got := <-answer:
		return got
	case <-time.After(10 * time.Second):
		t.Fatalf("Backoff(%d, %d): no answer", least, tries)
		return 0
	}
}

func wantBackoff(t *testing.T, least, tries, want int) {
	t.Helper()
	if got := backoff(t, least, tries); got != want {
		t.Errorf("Backoff(%d, %d): %d, want %d", least, tries, got, want)
	}
}

// farNumbers are the greatest and the least ints, and those whose last 8, 16, 20, 30 or 32 bits are small.
func farNumbers() []int {
	l := []int{math.MaxInt, math.MaxInt - 1, math.MaxInt - 7, math.MinInt, math.MinInt + 1}
	for _, low := range []int{-1, 0, 1, 5} {
		for _, base := range []int{-1 << 62, -1 << 40, -1 << 32, -1 << 31, -most, -longest, -1 << 16, -256, 1 << 31, 1 << 32, 1 << 33, 1 << 60, 1 << 62} {
			l = append(l, base+low)
		}
	}
	return l
}

// notInRange are numbers that a sample, Mean and Var may not be.
func notInRange() []int {
	return append(farNumbers(), -1, -2, -8, most+1, most+2, most+8, 2*most)
}

// inRange are numbers that they may be, the first and the last ones among them, and those at which an answer may be cut.
func inRange() []int {
	return []int{
		0, 1, 2, 3, 4, 7, 8, 9, 100, 255, 256, 1000, 65536, longest - 1, longest, longest + 1, 8*longest - 1, 8 * longest,
		1<<27 - 1, 1 << 27, 1<<27 + 1, 1<<28 - 1, 1 << 28, 1<<28 + 1, 1<<29 - 1, 1 << 29, 1<<29 + 1, most - 8, most - 2, most - 1, most,
	}
}

// edges are the numbers about each limit, and the farthest ones.
func edges() []int {
	return []int{
		math.MinInt, math.MinInt + 1, -1 << 32, -1 << 31, -most, -longest, -8, -1, 0, 1, 2, 8, 1000,
		longest - 1, longest, longest + 1, 1 << 23, 1 << 27, 1 << 29, most - 1, most, most + 1, 1 << 31, 1 << 32, 1<<32 + 1, math.MaxInt - 1, math.MaxInt,
	}
}

// counts are numbers of samples, of which there was one at least.
func counts() []int {
	return []int{1, 2, 3, 100, 255, 256, 65535, 65536, most - 2, most - 1, most, most + 1, most + 2, 1<<31 - 1, 1 << 31, 1<<32 - 1, 1 << 32, 1<<32 + 1, 1 << 62, math.MaxInt - 1, math.MaxInt}
}

// noCounts are numbers of samples that are below 0.
func noCounts() []int {
	return []int{-1, -2, -255, -256, -65536, 1 - most, -most, -most - 1, -1 << 31, -1<<31 - 1, 1 - 1<<32, -1 << 32, -1<<32 - 1, -1 << 62, math.MinInt + 1, math.MinInt}
}

// leasts are waits: about the shortest and the longest one, and far ones.
func leasts() []int {
	return append(farNumbers(), -2, -1, 0, 1, 2, 3, 50, 1000, 1<<19-1, 1<<19, 1<<19+1, longest-1, longest, longest+1, most, 2*longest)
}

// dice are numbers in no order, another row for each seed.
type dice uint64

// bits are so many bits.
func (d *dice) bits(many int) int {
	*d = *d*6364136223846793005 + 1442695040888963407
	return int(uint64(*d) >> 30 & (1<<many - 1))
}

// any is a number from 0 to 2^30, as often a short one as a long one.
func (d *dice) any() int {
	return cut(d.bits(d.bits(5))+d.bits(1), most)
}

// Promise 14.1: Take, of the first sample.

func TestTakeFirst(t *testing.T) {
	for _, x := range []struct{ sample, mean, spread int }{
		{0, 0, 0}, {1, 8, 2}, {2, 16, 4}, {100, 800, 200}, {12345, 98760, 24690},
		{134217727, 1073741816, 268435454}, {134217728, 1073741824, 268435456}, {134217729, 1073741824, 268435458},
		{300000000, 1073741824, 600000000},
		{536870911, 1073741824, 1073741822}, {536870912, 1073741824, 1073741824}, {536870913, 1073741824, 1073741824},
		{1073741823, 1073741824, 1073741824}, {1073741824, 1073741824, 1073741824},
	} {
		wantTake(t, rtt(0, 0, 0), x.sample, rtt(x.mean, x.spread, 1), api.OK)
		// What Mean and Var were tells nothing, while there was no sample.
		wantTake(t, rtt(5, 0, 0), x.sample, rtt(x.mean, x.spread, 1), api.OK)
		wantTake(t, rtt(0, 7, 0), x.sample, rtt(x.mean, x.spread, 1), api.OK)
		wantTake(t, rtt(1073741824, 1073741824, 0), x.sample, rtt(x.mean, x.spread, 1), api.OK)
	}
}

func TestTakeFirstOfAll(t *testing.T) {
	for _, sample := range inRange() {
		for _, mean := range inRange() {
			for _, spread := range inRange() {
				wantTaken(t, rtt(mean, spread, 0), sample)
			}
		}
	}
}

// From 2^27 on Mean is cut, from 2^29 on Var.
func TestTakeFirstAboutTheCuts(t *testing.T) {
	for _, about := range []int{1 << 27, 1 << 29} {
		for sample := about - 300; sample <= about+300; sample++ {
			wantTaken(t, rtt(0, 0, 0), sample)
			wantTaken(t, rtt(most, most, 0), sample)
		}
	}
}

// Promise 14.1: Take, of those behind it.

func TestTakeLater(t *testing.T) {
	for _, x := range []struct {
		r      api.Rtt
		sample int
		want   api.Rtt
	}{
		// The same as Mean by 8.
		{rtt(800, 200, 1), 100, rtt(800, 150, 2)},
		{rtt(0, 0, 1), 0, rtt(0, 0, 2)},
		{rtt(1073741824, 0, 9), 134217728, rtt(1073741824, 0, 10)},
		// Above it, and below.
		{rtt(800, 200, 1), 108, rtt(808, 158, 2)},
		{rtt(800, 200, 2), 101, rtt(801, 151, 3)},
		{rtt(800, 200, 7), 1000, rtt(1700, 1050, 8)},
		{rtt(800, 200, 1), 92, rtt(792, 158, 2)},
		{rtt(800, 200, 2), 99, rtt(799, 151, 3)},
		{rtt(800, 200, 7), 0, rtt(700, 250, 8)},
		{rtt(0, 0, 1), 5, rtt(5, 5, 2)},
		{rtt(8, 0, 1), 0, rtt(7, 1, 2)},
		// Mean by 8 leaves a rest.
		{rtt(801, 200, 1), 100, rtt(801, 150, 2)}, {rtt(807, 200, 1), 100, rtt(807, 150, 2)}, {rtt(799, 200, 1), 100, rtt(800, 151, 2)},
		{rtt(807, 200, 1), 101, rtt(808, 151, 2)}, {rtt(807, 200, 1), 99, rtt(806, 151, 2)}, {rtt(808, 200, 1), 100, rtt(807, 151, 2)},
		{rtt(7, 0, 1), 0, rtt(7, 0, 2)}, {rtt(1, 0, 1), 0, rtt(1, 0, 2)}, {rtt(9, 0, 1), 0, rtt(8, 1, 2)}, {rtt(15, 0, 1), 0, rtt(14, 1, 2)},
		// Var by 4 leaves a rest.
		{rtt(800, 199, 1), 100, rtt(800, 150, 2)}, {rtt(800, 201, 1), 100, rtt(800, 151, 2)}, {rtt(800, 203, 1), 100, rtt(800, 153, 2)}, {rtt(800, 204, 1), 100, rtt(800, 153, 2)},
		{rtt(0, 1, 1), 0, rtt(0, 1, 2)}, {rtt(0, 3, 1), 0, rtt(0, 3, 2)}, {rtt(0, 4, 1), 0, rtt(0, 3, 2)}, {rtt(0, 5, 1), 0, rtt(0, 4, 2)},
		{rtt(8, 3, 1), 0, rtt(7, 4, 2)}, {rtt(8, 7, 1), 0, rtt(7, 7, 2)},
		// Mean would pass 2^30, or comes just to it.
		{rtt(1073741824, 0, 1), 134217729, rtt(1073741824, 1, 2)}, {rtt(1073741824, 0, 1), 134217727, rtt(1073741823, 1, 2)},
		{rtt(1073741824, 0, 1), 1073741824, rtt(1073741824, 939524096, 2)},
		{rtt(1000000000, 0, 1), 198741824, rtt(1073741824, 73741824, 2)}, {rtt(1000000000, 0, 1), 198741823, rtt(1073741823, 73741823, 2)}, {rtt(1000000000, 0, 1), 198741825, rtt(1073741824, 73741825, 2)},
		{rtt(0, 0, 1), 1073741824, rtt(1073741824, 1073741824, 2)}, {rtt(7, 0, 1), 1073741824, rtt(1073741824, 1073741824, 2)}, {rtt(8, 0, 1), 1073741824, rtt(1073741824, 1073741823, 2)},
		// Var would.
		{rtt(0, 1073741824, 1), 268435456, rtt(268435456, 1073741824, 2)}, {rtt(0, 1073741824, 1), 268435455, rtt(268435455, 1073741823, 2)}, {rtt(0, 1073741824, 1), 268435457, rtt(268435457, 1073741824, 2)},
		{rtt(0, 1073741824, 1), 1073741824, rtt(1073741824, 1073741824, 2)}, {rtt(0, 1073741824, 1), 0, rtt(0, 805306368, 2)},
		{rtt(1073741824, 1073741824, 1), 0, rtt(939524096, 939524096, 2)}, {rtt(1073741824, 1073741824, 1), 1073741824, rtt(1073741824, 1073741824, 2)},
	} {
		wantTake(t, x.r, x.sample, x.want, api.OK)
	}
}

// N is one more, 2^30 at most, and else tells nothing.
func TestTakeCounts(t *testing.T) {
	for _, x := range []struct{ n, want int }{
		{0, 1}, {1, 2}, {2, 3}, {255, 256}, {65535, 65536}, {2147483, 2147484},
		{1073741821, 1073741822}, {1073741822, 1073741823}, {1073741823, 1073741824}, {1073741824, 1073741824}, {1073741825, 1073741824},
		{1<<31 - 1, 1073741824}, {1 << 31, 1073741824}, {1<<32 - 1, 1073741824}, {1 << 32, 1073741824}, {1<<32 + 1, 1073741824},
		{1 << 62, 1073741824}, {math.MaxInt - 1, 1073741824}, {math.MaxInt, 1073741824},
	} {
		if x.n != 0 {
			wantTake(t, rtt(800, 200, x.n), 108, rtt(808, 158, x.want), api.OK)
		}
		// Of a first sample of 0, as of all others, both stay 0.
		wantTake(t, rtt(0, 0, x.n), 0, rtt(0, 0, x.want), api.OK)
	}
	for n := 0; n <= 3000; n++ {
		wantTaken(t, rtt(801, 203, n), 7)
		wantTaken(t, rtt(801, 203, most-1500+n), 7)
	}
}

// Mean by 8 leaves each rest, Var by 4 too, with samples from far below to far above.
func TestTakeLaterOfShortNumbers(t *testing.T) {
	for mean := 0; mean <= 200; mean++ {
		for spread := 0; spread <= 40; spread++ {
			for sample := 0; sample <= 60; sample++ {
				wantTaken(t, rtt(mean, spread, 1), sample)
				wantTaken(t, rtt(mean, spread, 2), sample)
			}
		}
	}
}

func TestTakeLaterOfAll(t *testing.T) {
	for _, sample := range inRange() {
		for _, mean := range inRange() {
			for _, spread := range inRange() {
				wantTaken(t, rtt(mean, spread, 1), sample)
				wantTaken(t, rtt(mean, spread, most), sample)
			}
		}
	}
}

// From just below the cuts to just above them.
func TestTakeLaterAboutTheCuts(t *testing.T) {
	for far := -40; far <= 40; far++ {
		for rest := range 40 {
			// Mean comes to 2^30 and as many more.
			mean := 1<<29 + rest
			wantTaken(t, rtt(mean, 0, 1), most-mean+mean/8+far)
			// Var does.
			spread := most - rest
			wantTaken(t, rtt(0, spread, 1), spread/4+rest+far)
		}
	}
}

// Promise 14.1: what Take refuses.

func TestTakeRefuses(t *testing.T) {
	good := []int{0, 1, 800, most - 1, most}
	for _, bad := range notInRange() {
		for _, n := range append(counts(), 0) {
			wantRefused(t, rtt(800, 200, n), bad)
			wantRefused(t, rtt(bad, 200, n), 100)
			wantRefused(t, rtt(800, bad, n), 100)
			wantRefused(t, rtt(bad, bad, n), bad)
		}
		for _, a := range good {
			for _, b := range good {
				wantRefused(t, rtt(a, b, 1), bad)
				wantRefused(t, rtt(bad, a, 1), b)
				wantRefused(t, rtt(a, bad, 1), b)
			}
		}
	}
	for _, n := range noCounts() {
		for _, a := range good {
			for _, b := range good {
				for _, sample := range good {
					wantRefused(t, rtt(a, b, n), sample)
				}
			}
		}
	}
}

// -1 and 2^30 + 1 are refused, what lies next to them is taken: each by itself.
func TestTakeAtTheEdges(t *testing.T) {
	for _, x := range []struct {
		n    int
		want api.Errno
	}{{-1, 2}, {0, 0}, {1, 0}, {1073741823, 0}, {1073741824, 0}, {1073741825, 2}, {math.MinInt, 2}, {math.MaxInt, 2}} {
		for _, r := range []api.Rtt{rtt(800, 200, 0), rtt(800, 200, 1), rtt(800, 200, most)} {
			_, err := rto.Take(r, x.n)
			_, errMean := rto.Take(rtt(x.n, r.Var, r.N), 100)
			_, errVar := rto.Take(rtt(r.Mean, x.n, r.N), 100)
			if err != x.want || errMean != x.want || errVar != x.want {
				t.Errorf("Take of %d as sample, Mean and Var, N %d: %d, %d, %d, want %d", x.n, r.N, err, errMean, errVar, x.want)
			}
			wantTaken(t, r, x.n)
			wantTaken(t, rtt(x.n, r.Var, r.N), 100)
			wantTaken(t, rtt(r.Mean, x.n, r.N), 100)
		}
	}
	for _, x := range []struct {
		n    int
		want api.Errno
	}{{-1, 2}, {0, 0}, {1, 0}, {1073741823, 0}, {1073741824, 0}, {1073741825, 0}, {math.MinInt, 2}, {math.MaxInt, 0}} {
		if _, err := rto.Take(rtt(800, 200, x.n), 100); err != x.want {
			t.Errorf("Take of N %d: %d, want %d", x.n, err, x.want)
		}
		wantTaken(t, rtt(800, 200, x.n), 100)
	}
}

// All of the edges, with all of them; what is answered may be handed in again.
func TestTakeOfAllEdges(t *testing.T) {
	l := edges()
	for _, sample := range l {
		for _, mean := range l {
			for _, spread := range l {
				for _, n := range l {
					r := rtt(mean, spread, n)
					wantTaken(t, r, sample)
					got, err := rto.Take(r, sample)
					if _, again := rto.Take(got, 100); err == api.OK && (again != api.OK || got.N < 1 || got.N > most) {
						t.Errorf("Take(%v, %d): %v, which may not be", r, sample, got)
					}
				}
			}
		}
	}
}

func TestTakeMixed(t *testing.T) {
	d := dice(14)
	for range 300000 {
		wantTaken(t, rtt(d.any(), d.any(), d.any()), d.any())
	}
}

// Promise 14.1: Timeout.

func TestTimeout(t *testing.T) {
	for _, x := range []struct {
		r           api.Rtt
		least, want int
	}{
		{rtt(800, 200, 1), 1, 300}, {rtt(808, 158, 2), 50, 259}, {rtt(800, 200, 1073741824), 1, 300}, {rtt(800, 200, math.MaxInt), 1, 300},
		// Mean by 8 leaves a rest, or none.
		{rtt(799, 200, 1), 1, 299}, {rtt(801, 200, 1), 1, 300}, {rtt(807, 200, 1), 1, 300}, {rtt(808, 200, 1), 1, 301}, {rtt(807, 201, 1), 1, 301},
		{rtt(7, 0, 1), 1, 1}, {rtt(8, 0, 1), 1, 1}, {rtt(15, 0, 1), 1, 1}, {rtt(16, 0, 1), 1, 2}, {rtt(7, 2, 1), 1, 2}, {rtt(0, 1, 1), 1, 1}, {rtt(0, 2, 1), 1, 2}, {rtt(0, 0, 1), 1, 1},
		// The least wait is below, the same, and above.
		{rtt(800, 200, 1), 299, 300}, {rtt(800, 200, 1), 300, 300}, {rtt(800, 200, 1), 301, 301}, {rtt(807, 200, 1), 301, 301},
		{rtt(800, 200, 1), 5000, 5000}, {rtt(0, 0, 1), 5000, 5000},
		{rtt(800, 200, 1), -1, 300}, {rtt(800, 200, 1), 0, 300}, {rtt(800, 200, 1), math.MinInt, 300},
		{rtt(800, 200, 1), 1048575, 1048575}, {rtt(800, 200, 1), 1048576, 1048576}, {rtt(800, 200, 1), 1048577, 1048576}, {rtt(800, 200, 1), math.MaxInt, 1048576},
		{rtt(0, 0, 1), -1, 1}, {rtt(0, 0, 1), 0, 1}, {rtt(0, 0, 1), math.MinInt, 1},
		// There was no sample.
		{rtt(0, 0, 0), 50, 50}, {rtt(800, 200, 0), 50, 50}, {rtt(math.MaxInt, math.MaxInt, 0), 50, 50},
		{rtt(800, 200, 0), -1, 1}, {rtt(800, 200, 0), 0, 1}, {rtt(800, 200, 0), 1, 1}, {rtt(800, 200, 0), math.MinInt, 1},
		{rtt(800, 200, 0), 1048575, 1048575}, {rtt(800, 200, 0), 1048576, 1048576}, {rtt(800, 200, 0), 1048577, 1048576}, {rtt(800, 200, 0), math.MaxInt, 1048576},
		// Numbers below 0.
		{rtt(800, 200, -1), 50, 50}, {rtt(800, 200, math.MinInt), 50, 50}, {rtt(0, 0, -1), 0, 1}, {rtt(800, 200, -1), math.MaxInt, 1048576},
		{rtt(-1, 200, 1), 50, 50}, {rtt(-7, 200, 1), 50, 50}, {rtt(-8, 200, 1), 50, 50}, {rtt(math.MinInt, 200, 1), 50, 50}, {rtt(-1, 200, 1), 0, 1}, {rtt(-1, 200, 1), math.MaxInt, 1048576},
		{rtt(800, -1, 1), 50, 50}, {rtt(800, -100, 1), 50, 50}, {rtt(800, math.MinInt, 1), 50, 50}, {rtt(800, -1, 1), 0, 1}, {rtt(800, -1, 1), math.MaxInt, 1048576},
		{rtt(-1, -1, 1), 50, 50}, {rtt(-1, math.MaxInt, 1), 50, 50}, {rtt(math.MaxInt, -1, 1), 50, 50}, {rtt(math.MinInt, math.MinInt, math.MinInt), 50, 50},
		{rtt(-800, -200, -1), 50, 50},
		// Together they come just not to 2^20, just to it, and pass it.
		{rtt(4194304, 524287, 1), 1, 1048575}, {rtt(4194304, 524288, 1), 1, 1048576}, {rtt(4194304, 524289, 1), 1, 1048576},
		{rtt(4194311, 524287, 1), 1, 1048575}, {rtt(4194312, 524287, 1), 1, 1048576}, {rtt(4194303, 524288, 1), 1, 1048575},
		{rtt(8388607, 0, 1), 1, 1048575}, {rtt(8388608, 0, 1), 1, 1048576}, {rtt(8388616, 0, 1), 1, 1048576},
		{rtt(0, 1048575, 1), 1, 1048575}, {rtt(0, 1048576, 1), 1, 1048576}, {rtt(0, 1048577, 1), 1, 1048576}, {rtt(8, 1048575, 1), 1, 1048576}, {rtt(7, 1048575, 1), 1, 1048575},
		{rtt(1073741824, 1073741824, 1), 1, 1048576},
		// They would pass the greatest int.
		{rtt(math.MaxInt, math.MaxInt, 1), 1, 1048576}, {rtt(math.MaxInt, math.MaxInt, math.MaxInt), math.MaxInt, 1048576},
		{rtt(8, math.MaxInt, 1), 1, 1048576}, {rtt(7, math.MaxInt, 1), 1, 1048576}, {rtt(0, math.MaxInt, 1), 1, 1048576}, {rtt(math.MaxInt, 0, 1), 1, 1048576},
		{rtt(math.MaxInt, math.MaxInt-1<<60+1, 1), 1, 1048576}, {rtt(math.MaxInt, math.MaxInt-1<<60+2, 1), 1, 1048576},
	} {
		wantTimeout(t, x.r, x.least, x.want)
	}
}

// All of the edges, with all of them.
func TestTimeoutOfAllEdges(t *testing.T) {
	l := edges()
	for _, least := range l {
		for _, mean := range l {
			for _, spread := range l {
				for _, n := range l {
					wantTimeout(t, rtt(mean, spread, n), least, timeoutOf(rtt(mean, spread, n), least))
				}
			}
		}
	}
}

func TestTimeoutOfAllLeasts(t *testing.T) {
	for _, least := range leasts() {
		for _, r := range []api.Rtt{rtt(0, 0, 1), rtt(800, 200, 1), rtt(807, 200, 3), rtt(4194304, 524287, 1), rtt(most, most, most)} {
			wantTimeout(t, r, least, timeoutOf(r, least))
			for _, n := range append(noCounts(), 0) {
				wantTimeout(t, rtt(r.Mean, r.Var, n), least, leastOf(least))
			}
			for _, n := range counts() {
				wantTimeout(t, rtt(r.Mean, r.Var, n), least, timeoutOf(r, least))
			}
		}
	}
}

// A number below 0 beside others that are none.
func TestTimeoutOfNumbersBelowNothing(t *testing.T) {
	for _, bad := range noCounts() {
		for _, good := range []int{0, 1, 8, 800, longest, most, math.MaxInt} {
			for _, least := range []int{-1, 0, 1, 50, longest, longest + 1} {
				wantTimeout(t, rtt(bad, good, 1), least, leastOf(least))
				wantTimeout(t, rtt(good, bad, 1), least, leastOf(least))
				wantTimeout(t, rtt(good, good, bad), least, leastOf(least))
				wantTimeout(t, rtt(bad, bad, 1), least, leastOf(least))
				wantTimeout(t, rtt(bad, bad, bad), least, leastOf(least))
			}
		}
	}
}

func TestTimeoutOfShortNumbers(t *testing.T) {
	for mean := range 130 {
		for spread := range 30 {
			for least := -1; least <= 50; least++ {
				wantTimeout(t, rtt(mean, spread, 1), least, timeoutOf(rtt(mean, spread, 1), least))
				wantTimeout(t, rtt(mean, spread, 0), least, leastOf(least))
			}
		}
	}
}

// About 2^20, however it is parted.
func TestTimeoutAboutTheLongest(t *testing.T) {
	for _, part := range []int{0, 1, 2, 1000, 1 << 10, 1 << 19, longest - 1, longest} {
		for far := -20; far <= 20; far++ {
			for rest := range 8 {
				spread := max(0, longest-part+far)
				r := rtt(8*part+rest, spread, 1)
				wantTimeout(t, r, 1, cut(part+spread, longest))
				wantTimeout(t, r, longest-5, timeoutOf(r, longest-5))
				wantTimeout(t, r, longest+far, timeoutOf(r, longest+far))
			}
		}
	}
}

// About the greatest int, which Mean by 8 and Var would pass together.
func TestTimeoutAboutTheGreatest(t *testing.T) {
	for _, mean := range []int{0, 7, 8, 80, 167, 168, 8000, most, 1 << 62, math.MaxInt - 8, math.MaxInt - 1, math.MaxInt} {
		by := down(mean, 8)
		for past := -40; past <= min(40, by); past++ {
			wantTimeout(t, rtt(mean, math.MaxInt-(by-past), 1), 50, longest)
		}
	}
}

func TestTimeoutMixed(t *testing.T) {
	d := dice(41)
	for range 300000 {
		r, least := rtt(d.any(), d.any(), d.bits(2)), d.any()
		wantTimeout(t, r, least, timeoutOf(r, least))
	}
}

// Promise 14.1: Backoff.

func TestBackoffExample(t *testing.T) {
	wantBackoff(t, 3, 2, 12)
}

func TestBackoff(t *testing.T) {
	for _, x := range []struct{ least, tries, want int }{
		{3, -1, 3}, {3, 0, 3}, {3, 1, 6}, {3, 3, 24}, {50, 4, 800}, {1000, 10, 1024000},
		// Just not to 2^20, just to it, and past it.
		{1, 0, 1}, {1, 1, 2}, {1, 19, 524288}, {1, 20, 1048576}, {1, 21, 1048576}, {1, 22, 1048576},
		{2, 18, 524288}, {2, 19, 1048576}, {2, 20, 1048576},
		{3, 18, 786432}, {3, 19, 1048576}, {1000, 11, 1048576}, {1023, 10, 1047552}, {1024, 10, 1048576}, {1025, 10, 1048576},
		{524287, 0, 524287}, {524287, 1, 1048574}, {524287, 2, 1048576},
		{524288, 0, 524288}, {524288, 1, 1048576}, {524289, 0, 524289}, {524289, 1, 1048576},
		{1048575, 0, 1048575}, {1048575, 1, 1048576}, {1048576, 0, 1048576}, {1048576, 1, 1048576}, {1048576, 2, 1048576},
		// Least below 1, and above 2^20.
		{0, -1, 1}, {0, 0, 1}, {0, 1, 2}, {0, 5, 32}, {0, 19, 524288}, {0, 20, 1048576}, {0, 64, 1048576},
		{-1, 0, 1}, {-1, 1, 2}, {-1, 5, 32}, {-1, 20, 1048576}, {-5, 3, 8}, {math.MinInt, 0, 1}, {math.MinInt, 1, 2}, {math.MinInt, 19, 524288}, {math.MinInt, 64, 1048576},
		{1048577, -1, 1048576}, {1048577, 0, 1048576}, {1048577, 1, 1048576}, {math.MaxInt, 0, 1048576}, {math.MaxInt, 1, 1048576}, {math.MaxInt, 64, 1048576},
		// Tries below 0, and so many that doubling would go round.
		{50, -1, 50}, {50, -2, 50}, {50, -64, 50}, {50, math.MinInt, 50}, {0, math.MinInt, 1}, {math.MinInt, math.MinInt, 1}, {math.MaxInt, math.MinInt, 1048576}, {1048577, math.MinInt, 1048576},
		{1, 31, 1048576}, {1, 32, 1048576}, {1, 61, 1048576}, {1, 62, 1048576}, {1, 63, 1048576}, {1, 64, 1048576}, {1, 65, 1048576}, {1, 128, 1048576}, {1, 256, 1048576},
		{3, 62, 1048576}, {3, 63, 1048576}, {3, 64, 1048576}, {524288, 63, 1048576}, {524288, 64, 1048576}, {1048576, 63, 1048576}, {1048576, 64, 1048576},
		{1, math.MaxInt, 1048576}, {0, math.MaxInt, 1048576}, {-1, math.MaxInt, 1048576}, {3, math.MaxInt, 1048576}, {1048575, math.MaxInt, 1048576}, {1048576, math.MaxInt, 1048576}, {math.MaxInt, math.MaxInt, 1048576}, {math.MinInt, math.MaxInt, 1048576},
	} {
		wantBackoff(t, x.least, x.tries, x.want)
	}
}

// All leasts with all numbers of tries, also far ones: each is answered at once.
func TestBackoffOfAll(t *testing.T) {
	tries := append(farNumbers(), notInRange()...)
	for n := -5; n <= 140; n++ {
		tries = append(tries, n)
	}
	for _, least := range leasts() {
		for _, n := range tries {
			wantBackoff(t, least, n, backoffOf(least, n))
		}
	}
}

// Short leasts, and those about the powers of 2.
func TestBackoffOfManyLeasts(t *testing.T) {
	var l []int
	for least := range 600 {
		l = append(l, least)
	}
	for i := range 62 {
		l = append(l, 1<<i-1, 1<<i, 1<<i+1)
	}
	for _, least := range l {
		for tries := -1; tries <= 24; tries++ {
			wantBackoff(t, least, tries, backoffOf(least, tries))
		}
	}
}

// One try more: twice the wait, or the longest.
func TestBackoffDoubles(t *testing.T) {
	for _, least := range []int{1, 2, 3, 5, 7, 50, 1000, 4097, 99999, 524287, 1048575} {
		want := least
		for tries := range 70 {
			wantBackoff(t, least, tries, want)
			want = min(want+want, 1048576)
		}
	}
}

// Promise 14.1: many samples one behind the other.

// row is what is known of samples that came one behind the other.
type row struct {
	t    *testing.T
	r    api.Rtt
	many int
}

// take takes one more sample, and holds what is known to the chapter's words, and the wait to its limits.
func (x *row) take(sample int) {
	x.t.Helper()
	want, wantErr := takeOf(x.r, sample)
	got, err := rto.Take(x.r, sample)
	if got != want || err != wantErr {
		x.t.Fatalf("behind %d samples: Take(%v, %d): %v, %d, want %v, %d", x.many, x.r, sample, got, err, want, wantErr)
	}
	if sample < 0 || sample > most {
		if got != (api.Rtt{}) || err != api.ErrRange {
			x.t.Fatalf("behind %d samples: Take(%v, %d): %v, %d, want nothing, %d", x.many, x.r, sample, got, err, api.ErrRange)
		}
		return
	}
	x.many++
	if err != api.OK || got.N != x.many || got.Mean < 0 || got.Mean > most || got.Var < 0 || got.Var > most {
		x.t.Fatalf("%d samples: Take(%v, %d): %v, %d", x.many, x.r, sample, got, err)
	}
	x.r = got
	x.waits()
}

// waits holds the wait to its limits, with a few least ones.
func (x *row) waits() {
	x.t.Helper()
	for _, least := range []int{-1, 0, 1, 50, 1000, longest - 1, longest, longest + 1, math.MinInt, math.MaxInt} {
		got := rto.Timeout(x.r, least)
		if got != timeoutOf(x.r, least) || got < leastOf(least) || got < 1 || got > longest {
			x.t.Fatalf("%d samples: Timeout(%v, %d): %d, want %d", x.many, x.r, least, got, timeoutOf(x.r, least))
		}
	}
}

// kinds are rows of samples: what the sample at each place is.
func kinds() []func(i int) int {
	d, far := dice(1), dice(2)
	return []func(i int) int{
		func(i int) int { return 0 },
		func(i int) int { return most },
		func(i int) int { return i },
		func(i int) int { return most - i },
		func(i int) int { return i % 2 * most },
		func(i int) int { return (i + 1) % 2 * most },
		func(i int) int { return i / 100 % 2 * most },
		func(i int) int { return 100 + i%7 },
		func(i int) int { return 100 + i%50/49*100000 },
		func(i int) int { return 1 << (i % 31) },
		func(i int) int { return most >> (i % 31) },
		func(i int) int { return d.bits(10) },
		func(i int) int { return d.bits(20) },
		func(i int) int { return d.bits(30) },
		func(i int) int { return d.any() },
		// Some are refused: what is known stays.
		func(i int) int { return d.any() - far.bits(3)/7*(most+1) },
		func(i int) int { return d.any() + far.bits(3)/7*(most+1) },
		func(i int) int { return []int{100, -1, 101, most + 1, math.MinInt, 99, math.MaxInt}[i%7] },
	}
}

func TestManySamples(t *testing.T) {
	for _, kind := range kinds() {
		x := &row{t: t}
		for i := range 4000 {
			x.take(kind(i))
		}
	}
}

// A few samples written out, one behind the other.
func TestSamplesByHand(t *testing.T) {
	r := api.Rtt{}
	for _, x := range []struct {
		sample, mean, spread, wait int
	}{
		{100, 800, 200, 300}, {100, 800, 150, 250}, {120, 820, 133, 235}, {90, 808, 112, 213}, {101, 808, 84, 185}, {0, 707, 164, 252}, {1000, 1619, 1035, 1237},
	} {
		got, err := rto.Take(r, x.sample)
		if want := rtt(x.mean, x.spread, r.N+1); got != want || err != api.OK {
			t.Fatalf("Take(%v, %d): %v, %d, want %v", r, x.sample, got, err, want)
		}
		r = got
		wantTimeout(t, r, 1, x.wait)
	}
}

// apart is how far two numbers are from one another.
func apart(a, b int) int { return max(a-b, b-a) }

// With the same sample again and again Mean by 8 nears it, and comes to it; of Var less than 4 is left, and the wait is the sample and that.
func TestSameSampleIsNeared(t *testing.T) {
	begins := []api.Rtt{rtt(0, 0, 0), rtt(0, 0, 1), rtt(1, 3, 1), rtt(800, 200, 5), rtt(0, most, 1), rtt(most, 0, 1), rtt(most, most, 1), rtt(most-1, most-1, most), rtt(1<<23, 77777, 9)}
	for _, sample := range []int{0, 1, 2, 3, 7, 8, 99, 100, 1000, 65536, 1<<19 + 3, longest - 4, longest - 3, longest - 1, longest, longest + 1, 1 << 25, 1<<27 - 1} {
		for _, r := range begins {
			wantNeared(t, r, sample)
		}
	}
}

// wantNeared takes the same sample again and again.
func wantNeared(t *testing.T, r api.Rtt, sample int) {
	t.Helper()
	begin, last := r, most
	for range 1000 {
		wantTaken(t, r, sample)
		r, _ = rto.Take(r, sample)
		now := apart(down(r.Mean, 8), sample)
		if now > last {
			t.Fatalf("from %v on samples of %d: %v is farther from it than the one ahead", begin, sample, r)
		}
		last = now
	}
	if last != 0 || r.Var > 3 {
		t.Fatalf("from %v on many samples of %d: %v, which is not near", begin, sample, r)
	}
	wait := rto.Timeout(r, 1)
	if wait < min(max(sample, 1), longest) || wait > min(sample+3, longest) {
		t.Errorf("from %v on many samples of %d: %v, and a wait of %d", begin, sample, r, wait)
	}
	wantTimeout(t, r, sample+4, min(sample+4, longest))
}

// R5: the same is answered when it is asked for again, whatever was asked in between.
func TestAskedAgain(t *testing.T) {
	d := dice(5)
	for range 1000 {
		r, sample, least, tries := rtt(d.any(), d.any(), d.bits(3)), d.any(), d.any(), d.bits(5)
		took, err := rto.Take(r, sample)
		wait, longer := rto.Timeout(r, least), backoff(t, least, tries)
		for range 3 {
			rto.Take(rtt(d.any(), d.any(), d.any()), d.any()-5)
			rto.Timeout(took, d.any())
			backoff(t, d.any(), d.bits(5))
			wantTake(t, r, sample, took, err)
			wantTimeout(t, r, least, wait)
			wantBackoff(t, least, tries, longer)
		}
	}
}
