package bits

import (
	"math"
	"slices"
	"strconv"
	"strings"
	"testing"
	"unsafe"

	"lightship/api"
)

// whole is how many bytes marks are.
const whole = 32

// marks says of each place whether it is marked.
type marks [256]bool

// laid are the bytes of marks: each is worth twice as much as the one ahead of it in its byte, the first of eight 1. Nothing is shifted.
func laid(m marks) string {
	made := make([]byte, whole)
	for i := range made {
		worth := 1
		for _, is := range m[8*i : 8*i+8] {
			if is {
				made[i] += byte(worth)
			}
			worth *= 2
		}
	}
	return string(made)
}

// held are the marks that the bytes are, read as laid lays them.
func held(s string) marks {
	var m marks
	for i := range whole {
		rest := s[i]
		for place := range 8 {
			m[8*i+place] = rest%2 == 1
			rest /= 2
		}
	}
	return m
}

// marked are the marks of these places alone.
func marked(l ...int) marks {
	var m marks
	for _, i := range l {
		m[i] = true
	}
	return m
}

// but are all marks but those of these places.
func but(l ...int) marks {
	var m marks
	for i := range m {
		m[i] = !slices.Contains(l, i)
	}
	return m
}

// missing are those of 0 to n - 1 that are not marked, rising, most of them at most; 255 is not among them, whatever n is.
func missing(m marks, n, most int) []int {
	var l []int
	for i, is := range m {
		if i < n && i < 255 && !is && len(l) < most {
			l = append(l, i)
		}
	}
	return l
}

// upTo are the numbers from 0 to n - 1.
func upTo(n int) []int {
	l := make([]int, n)
	for i := range l {
		l[i] = i
	}
	return l
}

// text is a text of so many bytes in no order, another one for each seed.
func text(size int, seed uint32) string {
	made := make([]byte, size)
	state := seed*2654435761 + 12345
	for i := range made {
		state = state*1664525 + 1013904223
		made[i] = byte(state >> 16)
	}
	return string(made)
}

// numbers are so many numbers from 0 to below, in no order, another list for each seed.
func numbers(many, below int, seed uint32) []int {
	made := make([]int, many)
	for i, c := range []byte(text(2*many, seed)) {
		made[i/2] = made[i/2]*256 + int(c)
	}
	for i := range made {
		made[i] %= below
	}
	return made
}

// filled is text with some bits of each byte set, and of each byte those alone that may be.
func filled(text string, set, may byte) string {
	made := []byte(text)
	for i := range made {
		made[i] = made[i]&may | set
	}
	return string(made)
}

// kinds are texts of so many bytes: none but 0, none but 255, in no order, over 127 alone, up to 127 alone, one bit of each byte alone or all but it, every other one, runes of two and of three bytes, and what is none.
func kinds(size int) []string {
	half := size / 2
	return []string{
		strings.Repeat("\x00", size), strings.Repeat("\xff", size),
		text(size, 1), text(size, 2), text(size, 3), filled(text(size, 4), 128, 255), filled(text(size, 5), 0, 127), filled(text(size, 6), 192, 255), filled(text(size, 7), 1, 255), filled(text(size, 8), 0, 254),
		strings.Repeat("\x01", size), strings.Repeat("\x80", size), strings.Repeat("\x08", size), strings.Repeat("\xfe", size), strings.Repeat("\x7f", size), strings.Repeat("\xef", size), strings.Repeat("\x55", size), strings.Repeat("\xaa", size),
		strings.Repeat("\x00\xff", size)[:size], strings.Repeat("\xff\x00", size)[:size], strings.Repeat("\x00", half) + text(size-half, 9), text(half, 10) + strings.Repeat("\xff", size-half),
		strings.Repeat("\xc3\xa4", size)[:size], strings.Repeat("\xe2\x82\xac", size)[:size], strings.Repeat("\xef\xbf\xbd\xc0", size)[:size], strings.Repeat("a\n\r\t \x00", size)[:size],
	}
}

// edges are places at the edges of marks and of their bytes.
func edges() []int {
	return []int{0, 1, 6, 7, 8, 9, 15, 16, 63, 64, 65, 127, 128, 129, 199, 200, 240, 247, 248, 249, 253, 254, 255}
}

// texts are texts of 32 bytes.
func texts() []string {
	l := kinds(whole)
	for _, i := range edges() {
		l = append(l, laid(marked(i)), laid(but(i)), laid(marked(upTo(i)...)), laid(but(upTo(i)...)))
	}
	return append(l, laid(marked(254, 255)), laid(but(254, 255)), laid(but(253, 254)), laid(but(0, 255)))
}

// noTexts are texts that have not 32 bytes: those of fewer than twice as many, and longer ones, of some of which the last 8 or 16 bits of how many bytes they have are 32.
func noTexts() []string {
	var l []string
	for size := range 2*whole + 1 {
		if size != whole {
			l = append(l, kinds(size)...)
		}
	}
	for _, size := range []int{96, 128, 255, 256, 257, 287, 288, 289, 1000, 1024, 65536, 65568} {
		l = append(l, strings.Repeat("\x00", size), strings.Repeat("\xff", size), text(size, 11), filled(text(size, 12), 128, 255))
	}
	return append(l, strings.Repeat("\u00e4", whole), strings.Repeat("\u20ac", whole), Empty()+Empty(), Empty()[1:], "\x00"+Empty())
}

// farNumbers are the greatest and the least ints, and those whose last 8, 16 or 32 bits are a place.
func farNumbers() []int {
	l := []int{math.MaxInt, math.MaxInt - 1, math.MinInt, math.MinInt + 1}
	for _, place := range []int{0, 1, 7, 8, 100, 254, 255} {
		for _, base := range []int{math.MinInt, -1 << 62, -1 << 32, -1 << 31, -1 << 16, -512, -256, 256, 512, 1 << 15, 1 << 16, 1 << 31, 1 << 32, 1<<32 + 256, 1 << 62} {
			l = append(l, base+place)
		}
	}
	return l
}

// noPlaces are those that no mark has.
func noPlaces() []int {
	l := append([]int{-1, 256}, farNumbers()...)
	for i := range 300 {
		l = append(l, -1-i, 256+i)
	}
	return l
}

// few are some of them.
func few() []int {
	return []int{-1, 256, math.MaxInt, math.MinInt, math.MaxInt - 255, math.MinInt + 255, -8, -256, -255, 257, 263, 511, 512, 1 << 32, 1<<32 + 5, -1 << 32}
}

// name is a call with what is handed in, but the end of what is long.
func name(call, s string, l ...int) string {
	told := call + "(" + strconv.Quote(s[:min(len(s), 40)])
	for _, i := range l[:min(len(l), 40)] {
		told += ", " + strconv.Itoa(i)
	}
	return told + ")"
}

func wantSet(t *testing.T, s string, i int, want string) {
	t.Helper()
	before := strings.Clone(s)
	if got, err := Set(s, i); got != want || err != api.OK {
		t.Errorf("%s: %q, %d, want %q, OK", name("Set", s, i), got, err, want)
	}
	if s != before {
		t.Errorf("%s changed its text to %q", name("Set", before, i), s)
	}
}

func wantNoSet(t *testing.T, s string, i int, want api.Errno) {
	t.Helper()
	before := strings.Clone(s)
	if got, err := Set(s, i); got != "" || err != want {
		t.Errorf("%s: %q, %d, want no text, %d", name("Set", s, i), got, err, want)
	}
	if s != before {
		t.Errorf("%s changed its text to %q", name("Set", before, i), s)
	}
}

func wantHas(t *testing.T, s string, i int, want bool) {
	t.Helper()
	if got := Has(s, i); got != want {
		t.Errorf("%s: %t, want %t", name("Has", s, i), got, want)
	}
}

func wantCount(t *testing.T, s string, want int) {
	t.Helper()
	if got := Count(s); got != want {
		t.Errorf("%s: %d, want %d", name("Count", s), got, want)
	}
}

func wantMissing(t *testing.T, s string, n, most int, want []int) {
	t.Helper()
	if got := Missing(s, n, most); !slices.Equal(got, want) {
		t.Errorf("%s: %v, want %v", name("Missing", s, n, most), got, want)
	}
}

func wantOf(t *testing.T, l []int, want string) {
	t.Helper()
	given := slices.Concat(l, []int{3, 77, 200}) // what is behind the list stays too
	before := slices.Clone(given)
	if got := Of(given[:len(l)]); got != want {
		t.Errorf("%s: %q, want %q", name("Of", "", l...), got, want)
	}
	if !slices.Equal(given, before) {
		t.Errorf("%s changed its list to %v", name("Of", "", l...), given)
	}
}

// Promise 11.1: Empty.

func TestEmpty(t *testing.T) {
	s := Empty()
	if len(s) != 32 || strings.Trim(s, "\x00") != "" {
		t.Errorf("Empty: %q, want 32 bytes 0", s)
	}
	if s != laid(marked()) {
		t.Errorf("Empty: %q, want no mark", s)
	}
	wantCount(t, s, 0)
	for i := range 256 {
		wantHas(t, s, i, false)
	}
	wantMissing(t, s, 255, 255, upTo(255))
}

// Promise 11.1: Set.

// Some marks, with their bytes written out.
func TestSetByHand(t *testing.T) {
	zeros := func(many int) string { return strings.Repeat("\x00", many) }
	for _, x := range []struct {
		i    int
		want string
	}{
		{0, "\x01" + zeros(31)}, {1, "\x02" + zeros(31)}, {2, "\x04" + zeros(31)}, {3, "\x08" + zeros(31)}, {4, "\x10" + zeros(31)}, {5, "\x20" + zeros(31)}, {6, "\x40" + zeros(31)}, {7, "\x80" + zeros(31)},
		{8, "\x00\x01" + zeros(30)}, {9, "\x00\x02" + zeros(30)}, {15, "\x00\x80" + zeros(30)}, {16, "\x00\x00\x01" + zeros(29)}, {100, zeros(12) + "\x10" + zeros(19)}, {127, zeros(15) + "\x80" + zeros(16)}, {128, zeros(16) + "\x01" + zeros(15)},
		{247, zeros(30) + "\x80" + zeros(1)}, {248, zeros(31) + "\x01"}, {250, zeros(31) + "\x04"}, {254, zeros(31) + "\x40"}, {255, zeros(31) + "\x80"},
	} {
		wantSet(t, zeros(32), x.i, x.want)
		wantSet(t, x.want, x.i, x.want)
		wantOf(t, []int{x.i}, x.want)
		wantHas(t, x.want, x.i, true)
		wantCount(t, x.want, 1)
	}
	wantSet(t, "abcdefghijklmnopqrstuvwxyzabcdef", 1, "cbcdefghijklmnopqrstuvwxyzabcdef")
	wantSet(t, "abcdefghijklmnopqrstuvwxyzabcdef", 0, "abcdefghijklmnopqrstuvwxyzabcdef")
	wantSet(t, "abcdefghijklmnopqrstuvwxyzabcdef", 248, "abcdefghijklmnopqrstuvwxyzabcdeg")
	wantSet(t, "abcdefghijklmnopqrstuvwxyzabcdef", 255, "abcdefghijklmnopqrstuvwxyzabcde\xe6")
}

// Each mark of each text, also where it is there already.
func TestSet(t *testing.T) {
	for _, s := range texts() {
		for i := range 256 {
			m := held(s)
			m[i] = true
			wantSet(t, s, i, laid(m))
		}
	}
}

// Whichever marks there are, and in whichever order they come, each is one more.
func TestSetOneBehindTheOther(t *testing.T) {
	for step := 1; step < 256; step += 2 {
		s, m := Empty(), marked()
		for many := range 256 {
			i := (many*step + 11) % 256
			m[i] = true
			wantSet(t, s, i, laid(m))
			s = laid(m)
			wantCount(t, s, many+1)
			wantSet(t, s, i, s)
		}
		if s != laid(but()) {
			t.Errorf("by steps of %d: %q", step, s)
		}
	}
}

// ErrForm is told ahead of ErrRange.
func TestSetOfNoText(t *testing.T) {
	for _, s := range noTexts() {
		for _, i := range append(few(), edges()...) {
			wantNoSet(t, s, i, api.ErrForm)
		}
	}
	for _, s := range []string{"", "\x00", "\xff", text(31, 1), text(33, 1), text(64, 1)} {
		for i := range 256 {
			wantNoSet(t, s, i, api.ErrForm)
		}
		for _, i := range noPlaces() {
			wantNoSet(t, s, i, api.ErrForm)
		}
	}
}

func TestSetAtNoPlace(t *testing.T) {
	for _, s := range texts() {
		for _, i := range noPlaces() {
			wantNoSet(t, s, i, api.ErrRange)
		}
	}
}

// Promise 11.1: Has.

func TestHas(t *testing.T) {
	for _, s := range texts() {
		for i, is := range held(s) {
			wantHas(t, s, i, is)
		}
	}
	for i := range 256 {
		for other := range 256 {
			wantHas(t, laid(marked(i)), other, other == i)
			wantHas(t, laid(but(i)), other, other != i)
		}
	}
}

func TestHasAtNoPlace(t *testing.T) {
	for _, s := range texts() {
		for _, i := range noPlaces() {
			wantHas(t, s, i, false)
		}
	}
}

func TestHasOfNoText(t *testing.T) {
	for _, s := range noTexts() {
		for i := range 256 {
			wantHas(t, s, i, false)
		}
		for _, i := range few() {
			wantHas(t, s, i, false)
		}
	}
}

// Promise 11.1: Count.

func TestCount(t *testing.T) {
	wantCount(t, strings.Repeat("\x00", 32), 0)
	wantCount(t, strings.Repeat("\xff", 32), 256)
	wantCount(t, strings.Repeat("\x55", 32), 128)
	wantCount(t, strings.Repeat("\x80", 32), 32)
	wantCount(t, "abcdefghijklmnopqrstuvwxyzabcdef", 3+3+4+3+4+4+5+3+4+4+5+4+5+5+6+3+4+4+5+4+5+5+6+4+5+5+3+3+4+3+4+4)
	for i := range 256 {
		wantCount(t, laid(marked(i)), 1)
		wantCount(t, laid(but(i)), 255)
		wantCount(t, laid(marked(upTo(i)...)), i)
		wantCount(t, laid(but(upTo(i)...)), 256-i)
	}
	for _, s := range texts() {
		many := 0
		for _, is := range held(s) {
			if is {
				many++
			}
		}
		wantCount(t, s, many)
	}
}

func TestCountOfNoText(t *testing.T) {
	for _, s := range noTexts() {
		wantCount(t, s, 0)
	}
}

// Promise 11.1: Missing.

func TestExample(t *testing.T) {
	wantMissing(t, Of([]int{0, 2}), 4, 9, []int{1, 3})
}

func TestMissingByHand(t *testing.T) {
	s := laid(marked(1, 3, 7, 8, 254))
	for _, x := range []struct {
		n, most int
		want    []int
	}{
		{0, 9, nil}, {1, 9, []int{0}}, {2, 9, []int{0}}, {3, 9, []int{0, 2}}, {8, 9, []int{0, 2, 4, 5, 6}}, {9, 9, []int{0, 2, 4, 5, 6}}, {10, 9, []int{0, 2, 4, 5, 6, 9}},
		{10, 0, nil}, {10, 1, []int{0}}, {10, 2, []int{0, 2}}, {10, 5, []int{0, 2, 4, 5, 6}}, {10, 6, []int{0, 2, 4, 5, 6, 9}}, {10, 7, []int{0, 2, 4, 5, 6, 9}},
		{-1, 9, nil}, {10, -1, nil}, {-1, -1, nil}, {0, 0, nil}, {300, 3, []int{0, 2, 4}},
	} {
		wantMissing(t, s, x.n, x.most, x.want)
	}
}

// 255 is told of by no n: of those above 255 there are as many as of 255.
func TestMissingAtTheEnd(t *testing.T) {
	for _, n := range []int{255, 256, 257, 300, 511, 512, 1 << 16, 1<<32 + 1, math.MaxInt - 1, math.MaxInt} {
		for _, most := range []int{255, 256, 257, math.MaxInt} {
			wantMissing(t, laid(marked()), n, most, upTo(255))
			wantMissing(t, laid(marked(255)), n, most, upTo(255))
			wantMissing(t, laid(marked(254)), n, most, upTo(254))
			wantMissing(t, laid(but()), n, most, nil)
			wantMissing(t, laid(but(255)), n, most, nil)
			wantMissing(t, laid(but(254)), n, most, []int{254})
			wantMissing(t, laid(but(254, 255)), n, most, []int{254})
			wantMissing(t, laid(but(253, 255)), n, most, []int{253})
		}
	}
	wantMissing(t, laid(but(254)), 254, 9, nil)
	wantMissing(t, laid(but(253, 254)), 254, 9, []int{253})
	wantMissing(t, laid(but(253, 254)), 253, 9, nil)
}

// someN are n at the edges, and some that may not be.
func someN() []int {
	return append(few(), 0, 1, 2, 7, 8, 9, 15, 16, 17, 100, 128, 247, 248, 253, 254, 255, 256, 257, 300, 1000)
}

// someMost are most at the edges where so many are missing, and some that may not be.
func someMost(many int) []int {
	return append(few(), 0, 1, 2, 8, 100, 254, 255, 256, 300, many-2, many-1, many, many+1, many+2)
}

func TestMissing(t *testing.T) {
	for _, s := range texts() {
		m := held(s)
		for _, n := range someN() {
			for _, most := range someMost(len(missing(m, n, 256))) {
				wantMissing(t, s, n, most, missing(m, n, most))
			}
		}
	}
}

// Each n, with each most that makes a difference.
func TestMissingOfEachN(t *testing.T) {
	for _, s := range []string{text(32, 1), filled(text(32, 2), 128, 255), laid(marked()), laid(but(254)), laid(but(255))} {
		m := held(s)
		for n := -3; n <= 300; n++ {
			for most := -3; most <= len(missing(m, n, 256))+3; most++ {
				wantMissing(t, s, n, most, missing(m, n, most))
			}
		}
	}
}

func TestMissingOfNoText(t *testing.T) {
	for _, s := range noTexts() {
		for _, n := range []int{-1, 0, 1, 8, 255, 256, math.MaxInt, math.MinInt} {
			for _, most := range []int{-1, 0, 1, 8, 255, 256, math.MaxInt, math.MinInt} {
				wantMissing(t, s, n, most, nil)
			}
		}
	}
}

// What is missing and what is there are all that there are, and what is missing is missing no more once it is set.
func TestMissingAndSet(t *testing.T) {
	for _, s := range texts() {
		for _, i := range Missing(s, 255, 255) {
			wantHas(t, s, i, false)
			next, _ := Set(s, i)
			wantHas(t, next, i, true)
			s = next
		}
		wantMissing(t, s, 300, 300, nil)
		for i := range 255 {
			wantHas(t, s, i, true)
		}
	}
}

// Promise 11.1: Of.

func TestOfNone(t *testing.T) {
	wantOf(t, nil, laid(marked()))
	wantOf(t, []int{}, laid(marked()))
	wantOf(t, []int{5, 7}[:0], laid(marked()))
	if Of(nil) != Empty() || Of([]int{}) != Empty() {
		t.Error("Of no place is not Empty")
	}
}

// places are the marks of l that are 0 to 255, each of them looked at by itself.
func places(l []int) marks {
	var m marks
	for i := range m {
		m[i] = slices.Contains(l, i)
	}
	return m
}

// oneByOne is what Set makes of Empty with one of l behind the other; where it tells an error what was made stays.
func oneByOne(l []int) string {
	s := Empty()
	for _, i := range l {
		if next, err := Set(s, i); err == api.OK {
			s = next
		}
	}
	return s
}

func wantOfAndSet(t *testing.T, l []int) {
	t.Helper()
	wantOf(t, l, laid(places(l)))
	wantOf(t, l, oneByOne(l))
}

func TestOf(t *testing.T) {
	for i := range 256 {
		wantOfAndSet(t, []int{i})
		wantOfAndSet(t, []int{i, i})
		wantOfAndSet(t, []int{i, 255 - i})
		wantOfAndSet(t, []int{i, 255 - i, i, 9, i ^ 1})
		wantOfAndSet(t, upTo(i))
		wantOfAndSet(t, upTo(256)[i:])
	}
	wantOf(t, upTo(256), laid(but()))
	wantOf(t, []int{0, 2}, "\x05"+strings.Repeat("\x00", 31))
	wantOf(t, []int{255, 0, 8, 7, 0, 255}, "\x81\x01"+strings.Repeat("\x00", 29)+"\x80")
}

func TestOfInAnyOrder(t *testing.T) {
	for step := 1; step < 256; step += 2 {
		var l []int
		for many := range 256 {
			l = append(l, many*step%256)
			if many%16 == 3 {
				wantOfAndSet(t, l)
			}
		}
		wantOf(t, l, laid(but()))
	}
	for seed := range uint32(200) {
		l := numbers(int(seed), 256, seed)
		wantOfAndSet(t, l)
		slices.Sort(l)
		wantOfAndSet(t, l)
		slices.Reverse(l)
		wantOfAndSet(t, slices.Concat(l, l))
	}
}

func TestOfWithNoPlaces(t *testing.T) {
	wantOf(t, noPlaces(), laid(marked()))
	for _, i := range noPlaces() {
		wantOfAndSet(t, []int{i})
		wantOf(t, []int{i, i, i}, laid(marked()))
		wantOf(t, []int{i, 0}, laid(marked(0)))
		wantOf(t, []int{255, i}, laid(marked(255)))
		wantOf(t, []int{7, i, 8, i, 100}, laid(marked(7, 8, 100)))
	}
	for seed := range uint32(100) {
		l := slices.Concat(numbers(int(seed), 256, seed), few(), numbers(int(seed), 1000, seed+1), few())
		wantOfAndSet(t, l)
		for i := range l {
			l[i] -= 128
		}
		wantOfAndSet(t, l)
	}
	wantOf(t, slices.Concat(noPlaces(), upTo(256), noPlaces()), laid(but()))
}

func TestOfMany(t *testing.T) {
	wantOf(t, slices.Repeat(upTo(100), 1000), laid(marked(upTo(100)...)))
	wantOf(t, upTo(1<<20), laid(but()))
	wantOfAndSet(t, numbers(10000, 60000, 1))
}

// R4 and R5: what is answered is memory of its own, and hangs on what was handed in alone.

// listsBy are the lists that tell answers, each time anew.
func listsBy(tell func(s string, n, most int) []int) [][]int {
	var made [][]int
	for _, s := range []string{Empty(), Empty(), text(32, 1), text(32, 2), laid(but(254))} {
		for _, x := range [][2]int{{255, 255}, {255, 255}, {300, 20}, {40, 300}, {8, 3}, {255, 1}} {
			made = append(made, tell(s, x[0], x[1]))
		}
	}
	return made
}

func lists() [][]int { return listsBy(Missing) }

// wanted are these lists without Missing: what it answers shares no memory with them.
func wanted() [][]int {
	return listsBy(func(s string, n, most int) []int { return missing(held(s), n, most) })
}

// Whoever writes to a list, or behind it, writes to no other one.
func TestListsAreNewMemory(t *testing.T) {
	want := wanted()
	first, second := lists(), lists()
	if !slices.EqualFunc(first, want, slices.Equal) {
		t.Fatal("lists are others once there are more of them")
	}
	for at, l := range first {
		l = l[:cap(l)]
		for i := range l {
			l[i] = -7
		}
		for other, l := range first {
			if other > at && !slices.Equal(l, want[other]) {
				t.Fatalf("the lists at the places %d and %d share memory", at, other)
			}
		}
		if !slices.EqualFunc(second, want, slices.Equal) || !slices.EqualFunc(lists(), want, slices.Equal) {
			t.Fatalf("the list at place %d shares memory with one of another call", at)
		}
	}
}

// answers are texts that calls answer, with those that were handed in.
func answers() []string {
	var made []string
	for _, s := range []string{text(32, 1), laid(marked()), laid(but())} {
		first, _ := Set(s, 7)
		again, _ := Set(s, 7)
		other, _ := Set(first, 8)
		made = append(made, s, first, again, other, Empty(), Of(nil), Of([]int{3, 4}), Of([]int{3, 4}))
	}
	return made
}

// No text can be written to, but whoever holds one is not to hold another one by it.
func TestTextsAreNewMemory(t *testing.T) {
	l := append(answers(), answers()...)
	for at, s := range l {
		for _, other := range l[:at] {
			if unsafe.StringData(s) == unsafe.StringData(other) {
				t.Errorf("the text at place %d, %q, shares memory with another one", at, s)
			}
		}
	}
}

// What is answered does not hang on the list once the call has answered.
func TestMarksDoNotKeepTheList(t *testing.T) {
	l := []int{1, 2, 250}
	s := Of(l)
	l[0], l[1], l[2] = 77, 78, 79
	if s != laid(marked(1, 2, 250)) {
		t.Errorf("Of: %q, once its list is another", s)
	}
}

func TestAskedAgain(t *testing.T) {
	told, listed := answers(), wanted()
	for range 3 {
		Set(text(32, 9), 200)
		Set("", 1)
		Set(Empty(), -1)
		Has(text(32, 9), 17)
		Count(text(31, 9))
		Missing(text(32, 9), 300, -1)
		Of([]int{-1, 77, 256})
		if !slices.Equal(answers(), told) || !slices.EqualFunc(lists(), listed, slices.Equal) {
			t.Fatal("others are answered when they are asked for again")
		}
	}
}
