package serial

import (
	"math"
	"testing"
)

// round is how many numbers there are, half how far the farthest one is.
const (
	round = int64(1) << 32
	half  = int64(1) << 31
)

// pair is two numbers.
type pair struct{ a, b uint32 }

// aheadOf is what Ahead has to answer: b less a, with a round more or less. Nothing goes round here by itself.
func aheadOf(a, b uint32) int {
	far := int64(b) - int64(a)
	if far >= half {
		far -= round
	}
	if far < -half {
		far += round
	}
	return int(far)
}

// lessOf is what Less has to answer.
func lessOf(a, b uint32) bool { return aheadOf(a, b) > 0 }

// maxOf is what Max has to answer.
func maxOf(a, b uint32) uint32 {
	if lessOf(a, b) {
		return b
	}
	return a
}

// withinOf is what Within has to answer.
func withinOf(x, base uint32, n int) bool {
	far := aheadOf(base, x)
	return far >= 0 && far < n
}

// from is the number that is so far ahead of a.
func from(a uint32, far int64) uint32 {
	at := int64(a) + far
	if at >= round {
		at -= round
	}
	if at < 0 {
		at += round
	}
	return uint32(at)
}

// edges are the numbers at the edges.
func edges() []uint32 { return []uint32{0, 1, 2, 1<<31 - 1, 1 << 31, 1<<31 + 1, 1<<32 - 2, 1<<32 - 1} }

// ordinary are some numbers of all lengths.
func ordinary() []uint32 {
	return []uint32{3, 5, 7, 10, 63, 64, 65, 100, 255, 256, 257, 1000, 1024, 65535, 65536, 65537, 1000000, 123456789, 1 << 30, 1<<30 + 1, 2000000000, 3 << 30, 3<<30 - 1, 3000000000, 4000000000, 4294967000, 1<<32 - 256, 1<<32 - 64, 1<<32 - 3}
}

// mixed are so many numbers in no order.
func mixed(many int) []uint32 {
	made := make([]uint32, many)
	state := uint32(1)
	for i := range made {
		state = state*1664525 + 1013904223
		made[i] = state ^ state>>15
	}
	return made
}

// powers are those of 2, one less, one more, and each with all bits turned.
func powers() []uint32 {
	var l []uint32
	for i := range 32 {
		power := uint32(1) << i
		l = append(l, power-1, power, power+1, ^power, ^(power - 1), ^(power + 1))
	}
	return l
}

// many are all of these: from some of them what is not far ahead, or not far behind, lies past the end.
func many() []uint32 {
	l := append(edges(), ordinary()...)
	return append(append(l, powers()...), mixed(200)...)
}

// crossed are all pairs of l's numbers.
func crossed(l []uint32) []pair {
	var made []pair
	for _, a := range l {
		for _, b := range l {
			made = append(made, pair{a, b})
		}
	}
	return made
}

// apart are the pairs of many numbers of which the second one is so far ahead of the first.
func apart(far int64) []pair {
	var made []pair
	for _, a := range many() {
		made = append(made, pair{a, from(a, far)})
	}
	return made
}

// near are pairs that are alike, or of which one is next to the other.
func near() []pair { return append(append(apart(-1), apart(0)...), apart(1)...) }

// opposite are pairs that are half a round apart, or nearly so.
func opposite() []pair { return append(append(apart(half-1), apart(half)...), apart(half+1)...) }

// unordered are so many pairs in no order.
func unordered(many int) []pair {
	made := make([]pair, many)
	l := mixed(2 * many)
	for i := range made {
		made[i] = pair{l[2*i], l[2*i+1]}
	}
	return made
}

// spread are pairs of all distances, by equal steps, from the edges on.
func spread() []pair {
	var made []pair
	for _, a := range edges() {
		for far := -half; far < half; far += 1000003 {
			made = append(made, pair{a, from(a, far)})
		}
	}
	return made
}

// pairs are all of these.
func pairs() []pair {
	l := append(crossed(append(edges(), ordinary()...)), near()...)
	l = append(append(l, opposite()...), unordered(3000)...)
	return append(l, spread()...)
}

// counts are how many numbers there are from a base on: at the edges, none, less than none, and as many as x and one beside it make it.
func counts(far int) []int {
	return []int{
		0, 1, 2, 1<<31 - 1, 1 << 31, 1<<31 + 1, 1<<32 - 1, 1 << 32, 1<<32 + 1,
		-1, -2, 1 - 1<<31, -1 << 31, -1<<31 - 1, -1 << 32,
		math.MinInt, math.MinInt + 1, math.MaxInt - 1, math.MaxInt,
		far, far + 1, far - 1,
		3, 64, 1000, 1 << 30, 1 << 40,
	}
}

func wantAhead(t *testing.T, a, b uint32, want int) {
	t.Helper()
	if got := Ahead(a, b); got != want {
		t.Errorf("Ahead(%d, %d): %d, want %d", a, b, got, want)
	}
}

func wantLess(t *testing.T, a, b uint32, want bool) {
	t.Helper()
	if got := Less(a, b); got != want {
		t.Errorf("Less(%d, %d): %t, want %t", a, b, got, want)
	}
}

func wantWithin(t *testing.T, x, base uint32, n int, want bool) {
	t.Helper()
	if got := Within(x, base, n); got != want {
		t.Errorf("Within(%d, %d, %d): %t, want %t", x, base, n, got, want)
	}
}

func wantMax(t *testing.T, a, b, want uint32) {
	t.Helper()
	if got := Max(a, b); got != want {
		t.Errorf("Max(%d, %d): %d, want %d", a, b, got, want)
	}
}

// wantAll holds all four calls to the pair, Within with the counts of its edges.
func wantAll(t *testing.T, p pair) {
	t.Helper()
	far := aheadOf(p.a, p.b)
	wantAhead(t, p.a, p.b, far)
	wantLess(t, p.a, p.b, lessOf(p.a, p.b))
	wantMax(t, p.a, p.b, maxOf(p.a, p.b))
	for _, n := range counts(far) {
		wantWithin(t, p.b, p.a, n, withinOf(p.b, p.a, n))
	}
}

// Promise 8.1: Ahead, with answers that are known.

func TestAhead(t *testing.T) {
	for _, x := range []struct {
		a, b uint32
		want int
	}{
		{4294967295, 1, 2}, // the chapter's example
		{1, 4294967295, -2},
		{0, 0, 0}, {1, 1, 0}, {1 << 31, 1 << 31, 0}, {4294967295, 4294967295, 0},
		{0, 1, 1}, {1, 0, -1}, {3, 10, 7}, {10, 3, -7},
		{1000000, 3000000, 2000000}, {3000000, 1000000, -2000000},
		{4294967295, 0, 1}, {0, 4294967295, -1},
		{4294967290, 10, 16}, {10, 4294967290, -16},
		{2147483647, 2147483648, 1}, {2147483648, 2147483647, -1},
		{0, 2147483647, 2147483647}, {0, 2147483648, -2147483648}, {0, 2147483649, -2147483647},
		{2147483647, 0, -2147483647}, {2147483648, 0, -2147483648}, {2147483649, 0, 2147483647},
		{1, 2147483648, 2147483647}, {1, 2147483649, -2147483648}, {2147483649, 1, -2147483648},
		{4294967295, 2147483646, 2147483647}, {4294967295, 2147483647, -2147483648}, {4294967295, 2147483648, -2147483647},
		{3000000000, 1000000000, -2000000000}, {4000000000, 1000000000, 1294967296}, {1000000000, 4000000000, -1294967296},
	} {
		wantAhead(t, x.a, x.b, x.want)
	}
}

// Promise 8.1: Ahead against what is reckoned without going round.

func TestAheadOfOrdinaryNumbers(t *testing.T) {
	for _, p := range append(crossed(ordinary()), unordered(20000)...) {
		wantAhead(t, p.a, p.b, aheadOf(p.a, p.b))
	}
}

func TestAheadAtTheEdges(t *testing.T) {
	for _, p := range crossed(edges()) {
		wantAhead(t, p.a, p.b, aheadOf(p.a, p.b))
	}
	for _, p := range crossed(many()) {
		wantAhead(t, p.a, p.b, aheadOf(p.a, p.b))
	}
}

// From each number on, past the end or not, the distance is the same.
func TestAheadIsTheDistance(t *testing.T) {
	for _, far := range []int64{-1, 0, 1, half - 1, -half, 1 - half, 2, -2, 64, -64, 65536, -65536, half - 2, 2 - half} {
		for _, p := range apart(far) {
			wantAhead(t, p.a, p.b, int(far))
		}
	}
}

// Half a round on, and farther, the number lies behind.
func TestAheadPastHalf(t *testing.T) {
	for _, far := range []int64{half, half + 1, half + 2, round - 2, round - 1} {
		for _, p := range apart(far) {
			wantAhead(t, p.a, p.b, int(far-round))
		}
	}
}

func TestAheadAtAllDistances(t *testing.T) {
	for _, p := range spread() {
		wantAhead(t, p.a, p.b, aheadOf(p.a, p.b))
	}
}

// It is from -2^31 to 2^31 - 1, and the other way round it is the opposite; half a round has none.
func TestAheadTheOtherWayRound(t *testing.T) {
	for _, p := range pairs() {
		far := Ahead(p.a, p.b)
		if far < -1<<31 || far > 1<<31-1 {
			t.Errorf("Ahead(%d, %d): %d", p.a, p.b, far)
		}
		want := -far
		if far == -1<<31 {
			want = far
		}
		wantAhead(t, p.b, p.a, want)
	}
}

// Promise 8.1: Less.

func TestLess(t *testing.T) {
	for _, x := range []struct {
		a, b uint32
		want bool
	}{
		{4294967295, 1, true}, {1, 4294967295, false},
		{0, 1, true}, {1, 0, false}, {3, 10, true}, {10, 3, false},
		{0, 0, false}, {2147483648, 2147483648, false}, {4294967295, 4294967295, false},
		{4294967295, 0, true}, {0, 4294967295, false},
		{2147483647, 2147483648, true}, {2147483648, 2147483647, false},
		{0, 2147483647, true}, {0, 2147483648, false}, {0, 2147483649, false},
		{2147483647, 0, false}, {2147483648, 0, false}, {2147483649, 0, true},
		{1000000000, 4000000000, false}, {4000000000, 1000000000, true},
	} {
		wantLess(t, x.a, x.b, x.want)
	}
}

func TestLessIsAheadAboveNothing(t *testing.T) {
	for _, p := range append(pairs(), crossed(many())...) {
		wantLess(t, p.a, p.b, lessOf(p.a, p.b))
		wantLess(t, p.a, p.b, Ahead(p.a, p.b) > 0)
	}
}

func TestLessOfNeighbours(t *testing.T) {
	for _, a := range many() {
		wantLess(t, a, a, false)
		wantLess(t, a, from(a, 1), true)
		wantLess(t, a, from(a, -1), false)
		wantLess(t, a, from(a, half-1), true)
		wantLess(t, a, from(a, half+1), false)
	}
}

// Of two that are half a round apart none is less.
func TestLessOfOpposites(t *testing.T) {
	for _, p := range apart(half) {
		wantLess(t, p.a, p.b, false)
		wantLess(t, p.b, p.a, false)
	}
}

// Promise 8.1: Max.

func TestMax(t *testing.T) {
	for _, x := range []struct{ a, b, want uint32 }{
		{4294967295, 1, 1}, {1, 4294967295, 1},
		{0, 1, 1}, {1, 0, 1}, {3, 10, 10}, {10, 3, 10},
		{0, 0, 0}, {7, 7, 7}, {2147483648, 2147483648, 2147483648}, {4294967295, 4294967295, 4294967295},
		{4294967295, 0, 0}, {0, 4294967295, 0},
		{2147483647, 2147483648, 2147483648}, {2147483648, 2147483647, 2147483648},
		{0, 2147483647, 2147483647}, {2147483647, 0, 2147483647},
		{0, 2147483648, 0}, {2147483648, 0, 2147483648},
		{0, 2147483649, 0}, {2147483649, 0, 0},
		{1, 2147483649, 1}, {2147483649, 1, 2147483649},
		{1000000000, 4000000000, 1000000000}, {4000000000, 1000000000, 1000000000},
	} {
		wantMax(t, x.a, x.b, x.want)
	}
}

func TestMaxIsByLess(t *testing.T) {
	for _, p := range append(pairs(), crossed(many())...) {
		wantMax(t, p.a, p.b, maxOf(p.a, p.b))
		want := p.a
		if Less(p.a, p.b) {
			want = p.b
		}
		wantMax(t, p.a, p.b, want)
	}
}

func TestMaxOfNeighbours(t *testing.T) {
	for _, a := range many() {
		next := from(a, 1)
		wantMax(t, a, a, a)
		wantMax(t, a, next, next)
		wantMax(t, next, a, next)
	}
}

// Of two that are half a round apart it is the one that is named first.
func TestMaxOfOpposites(t *testing.T) {
	for _, p := range apart(half) {
		wantMax(t, p.a, p.b, p.a)
		wantMax(t, p.b, p.a, p.b)
	}
}

// Promise 8.1: Within.

func TestWithin(t *testing.T) {
	for _, x := range []struct {
		x, base uint32
		n       int
		want    bool
	}{
		{5, 5, 0, false}, {5, 5, 1, true}, {5, 5, 2, true}, {5, 5, -1, false},
		{6, 5, 0, false}, {6, 5, 1, false}, {6, 5, 2, true}, {4, 5, 1000, false},
		{68, 5, 64, true}, {69, 5, 64, false},
		{0, 0, 0, false}, {0, 0, 1, true}, {0, 1, 1 << 31, false}, {0, 1, math.MaxInt, false},
		{1, 4294967295, 2, false}, {1, 4294967295, 3, true}, {4294967295, 1, 3, false}, {4294967295, 1, 1 << 32, false},
		{0, 4294967295, 1, false}, {0, 4294967295, 2, true}, {4294967295, 4294967295, 1, true},
		{2147483647, 0, 2147483647, false}, {2147483647, 0, 2147483648, true},
		{2147483648, 0, 2147483649, false}, {2147483648, 0, 1 << 32, false}, {2147483648, 0, math.MaxInt, false},
		{0, 2147483649, 2147483647, false}, {0, 2147483649, 2147483648, true},
		{0, 2147483648, math.MaxInt, false}, {0, 2147483648, math.MinInt, false},
		{3, 10, -1, false}, {3, 10, -7, false}, {3, 10, -6, false}, {3, 10, math.MinInt, false}, {10, 3, math.MinInt, false}, {10, 3, math.MaxInt, true},
		{10, 3, 1 << 32, true}, {10, 3, 1<<32 + 1, true}, {10, 3, -1 << 32, false},
	} {
		wantWithin(t, x.x, x.base, x.n, x.want)
	}
}

func TestWithinAtAllOfThese(t *testing.T) {
	for _, p := range append(pairs(), crossed(many())...) {
		for _, n := range counts(aheadOf(p.a, p.b)) {
			wantWithin(t, p.b, p.a, n, withinOf(p.b, p.a, n))
		}
	}
}

// From Ahead(base, x) and one more on x is within, if it is not behind base.
func TestWithinFromWhereItBegins(t *testing.T) {
	for _, p := range append(near(), opposite()...) {
		far := Ahead(p.a, p.b)
		wantWithin(t, p.b, p.a, far-1, false)
		wantWithin(t, p.b, p.a, far, false)
		wantWithin(t, p.b, p.a, far+1, far >= 0)
		wantWithin(t, p.b, p.a, math.MaxInt, far >= 0)
	}
}

// Of the numbers about base just n are within: base itself is the first one.
func TestWithinHasSoMany(t *testing.T) {
	for _, base := range many() {
		for _, n := range []int{-5, -1, 0, 1, 2, 3, 64} {
			for far := int64(-70); far <= 70; far++ {
				wantWithin(t, from(base, far), base, n, far >= 0 && far < int64(n))
			}
		}
	}
}

// Where n is none, or less, nothing is within; what is behind base never is.
func TestWithinNever(t *testing.T) {
	for _, p := range pairs() {
		for _, n := range []int{0, -1, -2, -1 << 31, -1 << 32, math.MinInt} {
			wantWithin(t, p.b, p.a, n, false)
		}
	}
	for _, base := range many() {
		for _, far := range []int64{-1, -2, -64, 1 - half, -half} {
			for _, n := range []int{1, 2, 1<<31 - 1, 1 << 31, 1<<31 + 1, 1 << 32, math.MaxInt} {
				wantWithin(t, from(base, far), base, n, false)
			}
		}
	}
}

// R5: the same is answered when it is asked for again, whatever was asked in between.
func TestAskedAgain(t *testing.T) {
	l := pairs()
	for range 3 {
		for i, p := range l {
			other := l[len(l)-1-i]
			wantAll(t, p)
			Ahead(other.a, other.b)
			Less(other.a, other.b)
			Within(other.a, other.b, 64)
			Max(other.a, other.b)
			wantAll(t, p)
		}
	}
}
