package wire

import (
	"math"
	"slices"
	"strconv"
	"strings"
	"testing"

	"lightship/api"
)

// sizes are how many bytes a number may have.
func sizes() []int { return []int{1, 2, 4} }

// most is the greatest number of size bytes.
func most(size int) uint32 {
	switch size {
	case 1:
		return 255
	case 2:
		return 65535
	}
	return 4294967295
}

// bytesOf is what Put has to answer where there is no error: n is divided, and the last byte comes first. Nothing is shifted.
func bytesOf(n uint32, size int) string {
	made := ""
	for range size {
		made = string([]byte{byte(n % 256)}) + made
		n /= 256
	}
	return made
}

// numberOf is what Num has to answer of so many bytes: each counts 256 times what the one behind it does.
func numberOf(s string) uint32 {
	n, worth := uint64(0), uint64(1)
	for i := len(s) - 1; i >= 0; i-- {
		n += uint64(s[i]) * worth
		worth *= 256
	}
	return uint32(n)
}

// edges are the numbers at the edges of sizes and of bytes.
func edges() []uint32 {
	return []uint32{
		0, 1, 2, 127, 128, 254, 255, 256, 257, 258, 511, 512, 32767, 32768, 65279, 65280, 65534, 65535, 65536, 65537,
		1<<24 - 2, 1<<24 - 1, 1 << 24, 1<<24 + 1, 1<<31 - 1, 1 << 31, 1<<31 + 1, 1<<32 - 256, 1<<32 - 2, 1<<32 - 1,
	}
}

// ordinary are some numbers whose bytes are unlike.
func ordinary() []uint32 {
	return []uint32{3, 7, 10, 97, 200, 300, 1000, 1024, 4660, 43981, 60000, 66051, 70000, 1000000, 8454144, 11259375, 16909060, 16908288, 123456789, 305419896, 2000000000, 2147549184, 2864434397, 3000000000, 4276993775, 4278255360}
}

// powers are those of 2, one less, one more, and each with all bits turned.
func powers() []uint32 {
	var l []uint32
	for i := range 32 {
		power := uint32(1) << i
		l = append(l, power-1, power, power+1, ^power, ^(power - 1), ^(power + 1))
	}
	return l
}

// mixed are so many numbers in no order.
func mixed(many int) []uint32 {
	made := make([]uint32, many)
	state := uint32(1)
	for i := range made {
		state = state*1664525 + 1013904223
		made[i] = state ^ state>>15
	}
	return made
}

// numbers are all of these, and those of no order cut to fewer bytes.
func numbers() []uint32 {
	l := slices.Concat(edges(), ordinary(), powers(), mixed(500))
	for _, n := range mixed(500) {
		l = append(l, n%256, n%65536, n%(1<<24))
	}
	return l
}

// farNumbers are the greatest and the least ints, and those whose last 8, 16 or 32 bits are a size.
func farNumbers() []int {
	l := []int{math.MaxInt, math.MaxInt - 1, math.MinInt, math.MinInt + 1}
	for _, size := range []int{0, 1, 2, 3, 4} {
		for _, base := range []int{math.MinInt, -1 << 62, -1 << 32, -1 << 31, -1 << 16, -256, 256, 512, 1 << 16, 1 << 31, 1 << 32, 1<<32 + 256, 1 << 62} {
			l = append(l, base+size)
		}
	}
	return l
}

// noSizes are how many bytes no number has.
func noSizes() []int {
	l := farNumbers()
	for size := -70; size <= 300; size++ {
		if !slices.Contains(sizes(), size) {
			l = append(l, size)
		}
	}
	return l
}

// below are ints below 0.
func below() []int {
	l := slices.DeleteFunc(farNumbers(), func(n int) bool { return n >= 0 })
	for n := -1; n >= -70; n-- {
		l = append(l, n)
	}
	return l
}

// text is a text of so many bytes in no order, another one for each seed.
func text(size int, seed uint32) string {
	made := make([]byte, size)
	state := seed*2654435761 + 12345
	for i := range made {
		state = state*1664525 + 1013904223
		made[i] = byte(state >> 16)
	}
	return string(made)
}

// filled is text with some bits of each byte set, and of each byte those alone that may be.
func filled(text string, set, may byte) string {
	made := []byte(text)
	for i := range made {
		made[i] = made[i]&may | set
	}
	return string(made)
}

// kinds are texts of so many bytes: in no order, over 127 alone, up to 127 alone, none but 0, none but 255, with these ahead and behind, runes of two and of three bytes, and what is none.
func kinds(size int) []string {
	half := size / 2
	return []string{
		text(size, 1), text(size, 2), text(size, 3), filled(text(size, 4), 128, 255), filled(text(size, 5), 0, 127),
		strings.Repeat("\x00", size), strings.Repeat("\xff", size), strings.Repeat("\x80", size),
		strings.Repeat("\x00", half) + text(size-half, 6), text(size-half, 7) + strings.Repeat("\x00", half), text(size-half, 8) + strings.Repeat("\xff", half),
		strings.Repeat("\x00\xff", size)[:size], strings.Repeat("\xff\x00", size)[:size], strings.Repeat("\x01\x00", size)[:size], "abcdefghijklmnopqrstuvwxyz"[:size],
		strings.Repeat("\xc3\xa4", size)[:size], strings.Repeat("\xe2\x82\xac", size)[:size], strings.Repeat("\xef\xbf\xbd\xc0", size)[:size], strings.Repeat("\n\r\t \x00", size)[:size],
	}
}

// longest is how long the texts are that all tests go over, at most: three numbers of the greatest size, and one byte more.
const longest = 13

// texts are those of each length up to the longest.
func texts() []string {
	var l []string
	for size := range longest + 1 {
		l = append(l, kinds(size)...)
	}
	return l
}

// step is a call that reads: Num, if num holds, else Bytes.
type step struct {
	num bool
	n   int
}

func (s step) name() string {
	if s.num {
		return "Num(" + strconv.Itoa(s.n) + ")"
	}
	return "Bytes(" + strconv.Itoa(s.n) + ")"
}

// nums are calls of Num of these sizes, one behind the other.
func nums(l ...int) []step {
	var made []step
	for _, n := range l {
		made = append(made, step{true, n})
	}
	return made
}

// bytesBy are calls of Bytes, one behind the other.
func bytesBy(l ...int) []step {
	var made []step
	for _, n := range l {
		made = append(made, step{false, n})
	}
	return made
}

// told is what a reader tells of a call, and what it tells of itself behind it.
type told struct {
	num  uint32
	body string
	left int
	err  api.Errno
}

func (x told) name() string {
	body := strconv.Quote(x.body[:min(len(x.body), 60)])
	return strconv.Itoa(int(x.num)) + ", " + body + ", with " + strconv.Itoa(x.left) + " left, " + strconv.Itoa(int(x.err))
}

// ask is what r tells of the call.
func ask(r *Reader, s step) told {
	var got told
	if s.num {
		got.num = r.Num(s.n)
	} else {
		got.body = r.Bytes(s.n)
	}
	got.left, got.err = r.Left(), r.Err()
	return got
}

// model is what a reader has to be: a text, a place in it, and the first error.
type model struct {
	text  string
	place int
	err   api.Errno
}

// errorOf is the error that the call has of itself.
func (m *model) errorOf(s step) api.Errno {
	if s.num && !slices.Contains(sizes(), s.n) || s.n < 0 {
		return api.ErrArg
	}
	if left := len(m.text) - m.place; s.n > left {
		return api.ErrCut
	}
	return api.OK
}

// ask is what a reader has to tell of the call.
func (m *model) ask(s step) told {
	var want told
	if m.err == api.OK {
		m.err = m.errorOf(s)
		if m.err == api.OK {
			body := m.text[m.place : m.place+s.n]
			m.place += s.n
			if s.num {
				want.num = numberOf(body)
			} else {
				want.body = body
			}
		}
	}
	want.left, want.err = len(m.text)-m.place, m.err
	return want
}

func wantPut(t *testing.T, n uint32, size int, want string) {
	t.Helper()
	if got, err := Put(n, size); got != want || err != api.OK {
		t.Errorf("Put(%d, %d): %q, %d, want %q, OK", n, size, got, err, want)
	}
}

func wantNoPut(t *testing.T, n uint32, size int, want api.Errno) {
	t.Helper()
	if got, err := Put(n, size); got != "" || err != want {
		t.Errorf("Put(%d, %d): %q, %d, want no bytes, %d", n, size, got, err, want)
	}
}

// wantTold holds one call on the reader, and what it tells of itself behind it, to what is wanted.
func wantTold(t *testing.T, r *Reader, text string, s step, want told) {
	t.Helper()
	if got := ask(r, s); got != want {
		t.Errorf("%.60q: %s: %s, want %s", text, s.name(), got.name(), want.name())
	}
}

// wantSteps holds a new reader, and each of the calls one behind the other, to the model.
func wantSteps(t *testing.T, text string, l ...step) {
	t.Helper()
	r, m := New(text), &model{text: text}
	if left, err := r.Left(), r.Err(); left != len(text) || err != api.OK {
		t.Errorf("%.60q: at the beginning %d bytes are left, %d", text, left, err)
	}
	for _, s := range l {
		wantTold(t, r, text, s, m.ask(s))
	}
}

// Promise 9.1: Put.

func TestPut(t *testing.T) {
	for _, x := range []struct {
		n    uint32
		size int
		want string
	}{
		{258, 2, "\x01\x02"}, // the chapter's example
		{0, 1, "\x00"}, {0, 2, "\x00\x00"}, {0, 4, "\x00\x00\x00\x00"},
		{1, 1, "\x01"}, {1, 2, "\x00\x01"}, {1, 4, "\x00\x00\x00\x01"},
		{97, 1, "a"}, {128, 1, "\x80"}, {200, 1, "\xc8"}, {200, 2, "\x00\xc8"}, {200, 4, "\x00\x00\x00\xc8"},
		{255, 1, "\xff"}, {255, 2, "\x00\xff"}, {255, 4, "\x00\x00\x00\xff"},
		{256, 2, "\x01\x00"}, {256, 4, "\x00\x00\x01\x00"}, {258, 4, "\x00\x00\x01\x02"}, {513, 2, "\x02\x01"},
		{65280, 2, "\xff\x00"}, {65535, 2, "\xff\xff"}, {65535, 4, "\x00\x00\xff\xff"},
		{65536, 4, "\x00\x01\x00\x00"}, {66051, 4, "\x00\x01\x02\x03"},
		{16777215, 4, "\x00\xff\xff\xff"}, {16777216, 4, "\x01\x00\x00\x00"}, {16909060, 4, "\x01\x02\x03\x04"}, {67305985, 4, "\x04\x03\x02\x01"},
		{2147483647, 4, "\x7f\xff\xff\xff"}, {2147483648, 4, "\x80\x00\x00\x00"}, {4278255360, 4, "\xff\x00\xff\x00"}, {4294967294, 4, "\xff\xff\xff\xfe"}, {4294967295, 4, "\xff\xff\xff\xff"},
	} {
		wantPut(t, x.n, x.size, x.want)
	}
}

func TestPutOfAllSmallNumbers(t *testing.T) {
	for n := range uint32(65536 + 300) {
		for _, size := range sizes() {
			if n <= most(size) {
				wantPut(t, n, size, bytesOf(n, size))
			} else {
				wantNoPut(t, n, size, api.ErrRange)
			}
		}
	}
}

// ErrRange comes just where the number has more bytes.
func TestPutOfOrdinaryNumbersAndEdges(t *testing.T) {
	for _, n := range numbers() {
		for _, size := range sizes() {
			if n <= most(size) {
				wantPut(t, n, size, bytesOf(n, size))
			} else {
				wantNoPut(t, n, size, api.ErrRange)
			}
		}
	}
}

func TestPutOfTooMuch(t *testing.T) {
	for _, x := range []struct {
		n    uint32
		size int
	}{
		{256, 1}, {257, 1}, {258, 1}, {511, 1}, {512, 1}, {65280, 1}, {65535, 1}, {65536, 1}, {65537, 1}, {1 << 24, 1}, {1<<24 + 255, 1}, {1 << 31, 1}, {1<<32 - 256, 1}, {1<<32 - 1, 1},
		{65536, 2}, {65537, 2}, {65536 + 255, 2}, {1<<17 - 1, 2}, {1<<24 - 1, 2}, {1 << 24, 2}, {1<<24 + 1, 2}, {1 << 31, 2}, {1<<31 + 65535, 2}, {1<<32 - 65536, 2}, {1<<32 - 1, 2},
	} {
		wantNoPut(t, x.n, x.size, api.ErrRange)
	}
}

// That there is no such size is told ahead of the number's having too many bytes.
func TestPutOfNoSize(t *testing.T) {
	for _, size := range append(noSizes(), -1, 0, 3, 5, 8, math.MaxInt, math.MinInt) {
		for _, n := range append(edges(), ordinary()...) {
			wantNoPut(t, n, size, api.ErrArg)
		}
	}
}

// Promise 9.1: New and Num.

func TestNum(t *testing.T) {
	for _, x := range []struct {
		text string
		size int
		want uint32
	}{
		{"\x01\x02", 2, 258}, {"\x01\x02", 1, 1}, {"\x02\x01", 2, 513},
		{"\x00", 1, 0}, {"\x00\x00", 2, 0}, {"\x00\x00\x00\x00", 4, 0}, {"\x00\x01", 2, 1}, {"\x00\x00\x00\x01", 4, 1}, {"\x00\xff", 1, 0},
		{"a", 1, 97}, {"abc", 1, 97}, {"\x80", 1, 128}, {"\xff", 1, 255}, {"\xff\x00", 2, 65280}, {"\xff\xff", 2, 65535}, {"\x80\x00", 2, 32768}, {"\x00\x80", 2, 128},
		{"\x00\x01\x00\x00", 4, 65536}, {"\x01\x02\x03\x04", 4, 16909060}, {"\x01\x02\x03\x04", 2, 258}, {"\x04\x03\x02\x01", 4, 67305985}, {"\x01\x02\x03\x04\x05", 4, 16909060},
		{"\x00\xff\xff\xff", 4, 16777215}, {"\x7f\xff\xff\xff", 4, 2147483647}, {"\x80\x00\x00\x00", 4, 2147483648}, {"\xff\x00\xff\x00", 4, 4278255360}, {"\xff\xff\xff\xff", 4, 4294967295},
		{"\xc3\xa4", 2, 50084}, {"\xc3\xa4", 1, 195}, {"\xe2\x82\xac\x21", 4, 3800214561},
	} {
		wantTold(t, New(x.text), x.text, step{true, x.size}, told{num: x.want, left: len(x.text) - x.size})
	}
}

func TestNumOfEachText(t *testing.T) {
	for _, text := range texts() {
		for _, size := range sizes() {
			want := told{left: len(text), err: api.ErrCut}
			if len(text) >= size {
				want = told{num: numberOf(text[:size]), left: len(text) - size}
			}
			wantTold(t, New(text), text, step{true, size}, want)
		}
	}
}

func TestNumOfEachByteAtEachPlace(t *testing.T) {
	for value := range 256 {
		one := string([]byte{byte(value)})
		for _, size := range sizes() {
			for place := range size {
				for _, other := range []string{"\x00", "\x01", "\x80", "\xff"} {
					s := strings.Repeat(other, place) + one + strings.Repeat(other, size-place-1)
					wantTold(t, New(s), s, step{true, size}, told{num: numberOf(s)})
					wantTold(t, New(s+"\xff"), s+"\xff", step{true, size}, told{num: numberOf(s), left: 1})
				}
			}
		}
	}
}

// Each number is read where the one ahead of it ended, till bytes lack, in all orders of sizes.
func TestNumsInARow(t *testing.T) {
	for _, text := range texts() {
		for _, a := range sizes() {
			wantSteps(t, text, nums(slices.Repeat([]int{a}, longest+2)...)...)
			for _, b := range sizes() {
				for _, c := range sizes() {
					wantSteps(t, text, nums(a, b, c, a, b, c, c, b, a)...)
				}
			}
		}
	}
}

// Numbers of no more bytes than are left are no error, the last one neither.
func TestNumsOfAllBytes(t *testing.T) {
	for _, size := range sizes() {
		for many := range 300 {
			s := text(size*many, 9)
			r := New(s)
			for i := range many {
				wantTold(t, r, s, step{true, size}, told{num: numberOf(s[i*size : i*size+size]), left: len(s) - (i+1)*size})
			}
			wantTold(t, r, s, step{true, size}, told{err: api.ErrCut})
		}
	}
}

// Promise 9.1: Bytes.

func TestBytes(t *testing.T) {
	r := New("a\x00\xff\xc3\xa4bcdef")
	for _, x := range []struct {
		n    int
		want string
		left int
	}{{1, "a", 9}, {0, "", 9}, {2, "\x00\xff", 7}, {1, "\xc3", 6}, {1, "\xa4", 5}, {3, "bcd", 2}, {0, "", 2}, {2, "ef", 0}, {0, "", 0}, {0, "", 0}} {
		wantTold(t, r, "", step{false, x.n}, told{body: x.want, left: x.left})
	}
	wantTold(t, r, "", step{false, 1}, told{err: api.ErrCut})
}

// Of each text all that may be read at once, with what is left read behind it.
func TestBytesOfEachMany(t *testing.T) {
	for _, text := range texts() {
		for n := range len(text) + 1 {
			r := New(text)
			wantTold(t, r, text, step{false, n}, told{body: text[:n], left: len(text) - n})
			wantTold(t, r, text, step{false, 0}, told{left: len(text) - n})
			wantTold(t, r, text, step{false, len(text) - n}, told{body: text[n:]})
			wantTold(t, r, text, step{false, 0}, told{})
		}
	}
}

func TestBytesOfTheWholeText(t *testing.T) {
	for _, size := range []int{0, 1, 2, 3, 64, 255, 256, 257, 1024, 1040, 32768, 65535, 65536, 65537, 1 << 20, 1<<20 + 1} {
		s := text(size, 10)
		wantTold(t, New(s), "", step{false, size}, told{body: s})
		wantTold(t, New(s), "", step{false, size + 1}, told{left: size, err: api.ErrCut})
		wantTold(t, New(s), "", step{false, math.MaxInt}, told{left: size, err: api.ErrCut})
	}
}

// All ways in which a text of some bytes is read in parts.
func TestBytesInParts(t *testing.T) {
	const size = 7
	for _, text := range kinds(size) {
		for cuts := range 1 << (size - 1) {
			var l []step
			ahead := 0
			for place := 1; place <= size; place++ {
				if place == size || cuts>>(place-1)&1 == 1 {
					l = append(l, step{false, place - ahead})
					ahead = place
				}
			}
			wantSteps(t, text, append(l, step{false, 0}, step{true, 1})...)
		}
	}
}

// Promise 9.1: Num and Bytes of one reader read one behind the other.

func TestNumsAndBytes(t *testing.T) {
	text := "\x02\x01\x02\x00\x00\x00\x03abc\xff\x00"
	r := New(text)
	wantTold(t, r, text, step{true, 1}, told{num: 2, left: 11})
	wantTold(t, r, text, step{true, 2}, told{num: 258, left: 9})
	wantTold(t, r, text, step{true, 4}, told{num: 3, left: 5})
	wantTold(t, r, text, step{false, 3}, told{body: "abc", left: 2})
	wantTold(t, r, text, step{true, 1}, told{num: 255, left: 1})
	wantTold(t, r, text, step{false, 1}, told{body: "\x00"})
	wantTold(t, r, text, step{true, 1}, told{err: api.ErrCut})
}

// some are calls of all kinds: those that are answered, those that are for some lengths alone, and those that never are.
func some() []step {
	return append(nums(1, 2, 4, 0, 3, 8, -1, math.MaxInt), bytesBy(0, 1, 2, 3, 5, -1, math.MinInt, math.MaxInt)...)
}

// All rows of four calls.
func TestAllRowsOfCalls(t *testing.T) {
	l := some()
	for _, text := range []string{"", "\x80", "\x01\xff", "\x00\x02\xfe", "\xff\x00\x03\x80", "\x01\x02\x03\x04\x05\x06", "\xf1\xf2\xf3\xf4\xf5\xf6\xf7\xf8\xf9"} {
		for row := range len(l) * len(l) * len(l) * len(l) {
			var calls []step
			for at := row; len(calls) < 4; at /= len(l) {
				calls = append(calls, l[at%len(l)])
			}
			wantSteps(t, text, calls...)
		}
	}
}

// Many calls in no order on a text in no order.
func TestLongRowsOfCalls(t *testing.T) {
	for seed := range uint32(300) {
		var l []step
		for _, n := range text(200, seed) {
			if n%2 == 0 {
				l = append(l, step{true, sizes()[int(n)/2%3]})
			} else {
				l = append(l, step{false, int(n) / 2 % 9})
			}
		}
		wantSteps(t, text(100+int(seed)*2, seed+1), l...)
	}
}

// Promise 9.1: ErrCut.

// At each place of each text, where one byte lacks, and where more do.
func TestNumOfTooFewBytes(t *testing.T) {
	for _, text := range texts() {
		for _, size := range sizes() {
			for left := range min(size, len(text)+1) {
				r := New(text)
				wantTold(t, r, text, step{false, len(text) - left}, told{body: text[:len(text)-left], left: left})
				wantTold(t, r, text, step{true, size}, told{left: left, err: api.ErrCut})
				wantTold(t, r, text, step{true, 1}, told{left: left, err: api.ErrCut})
			}
		}
	}
}

func TestBytesOfTooFew(t *testing.T) {
	far := slices.DeleteFunc(farNumbers(), func(n int) bool { return n <= longest })
	for _, text := range texts() {
		for ahead := range len(text) + 1 {
			left := len(text) - ahead
			for _, n := range append([]int{left + 1, left + 2, left + 3, left + 255, left + 256, len(text) + 1}, far...) {
				r := New(text)
				wantTold(t, r, text, step{false, ahead}, told{body: text[:ahead], left: left})
				wantTold(t, r, text, step{false, n}, told{left: left, err: api.ErrCut})
				wantTold(t, r, text, step{false, left}, told{left: left, err: api.ErrCut})
			}
		}
	}
}

// Promise 9.1: ErrArg.

// That there is no such size is told ahead of bytes that lack, also where none is left.
func TestNumOfNoSize(t *testing.T) {
	for _, size := range append(noSizes(), -1, 0, 3, 5, 8, math.MaxInt, math.MinInt) {
		for length := range longest + 1 {
			text := text(length, 11)
			for ahead := range length + 1 {
				r := New(text)
				wantTold(t, r, text, step{false, ahead}, told{body: text[:ahead], left: length - ahead})
				wantTold(t, r, text, step{true, size}, told{left: length - ahead, err: api.ErrArg})
				wantTold(t, r, text, step{true, 1}, told{left: length - ahead, err: api.ErrArg})
			}
		}
	}
	for size := 300; size < 2000; size++ {
		text := text(size, 12)
		wantTold(t, New(text), text, step{true, size}, told{left: size, err: api.ErrArg})
	}
}

func TestBytesBelowNothing(t *testing.T) {
	for _, n := range append(below(), math.MinInt) {
		for length := range longest + 1 {
			text := text(length, 13)
			for ahead := range length + 1 {
				r := New(text)
				wantTold(t, r, text, step{false, ahead}, told{body: text[:ahead], left: length - ahead})
				wantTold(t, r, text, step{false, n}, told{left: length - ahead, err: api.ErrArg})
				wantTold(t, r, text, step{false, 0}, told{left: length - ahead, err: api.ErrArg})
			}
		}
	}
}

// Promise 9.1: behind an error nothing is told any more, and it stays.

// broken are calls that have an error where so many bytes are left, and which one.
func broken(left int) map[step]api.Errno {
	return map[step]api.Errno{
		{false, -1}: api.ErrArg, {false, math.MinInt}: api.ErrArg, {true, 0}: api.ErrArg, {true, 3}: api.ErrArg, {true, -1}: api.ErrArg, {true, 8}: api.ErrArg, {true, math.MaxInt}: api.ErrArg,
		{false, left + 1}: api.ErrCut, {false, math.MaxInt}: api.ErrCut,
	}
}

func TestBehindAnError(t *testing.T) {
	for _, text := range texts() {
		for ahead := range len(text) + 1 {
			left := len(text) - ahead
			for first, err := range broken(left) {
				r := New(text)
				wantTold(t, r, text, step{false, ahead}, told{body: text[:ahead], left: left})
				for _, s := range append([]step{first}, append(some(), first, step{false, left})...) {
					wantTold(t, r, text, s, told{left: left, err: err})
				}
			}
		}
	}
}

// Num has ErrCut for some lengths alone.
func TestBehindACutNumber(t *testing.T) {
	for _, x := range []struct {
		text string
		size int
	}{{"", 1}, {"", 2}, {"", 4}, {"\x07", 2}, {"\x07", 4}, {"\x07\x08", 4}, {"\x07\x08\x09", 4}} {
		r := New("\xff" + x.text)
		wantTold(t, r, x.text, step{true, 1}, told{num: 255, left: len(x.text)})
		wantTold(t, r, x.text, step{true, x.size}, told{left: len(x.text), err: api.ErrCut})
		for _, s := range append(some(), step{false, len(x.text)}) {
			wantTold(t, r, x.text, s, told{left: len(x.text), err: api.ErrCut})
		}
	}
}

// Of two errors the first one stays, whichever it is.
func TestTheFirstErrorStays(t *testing.T) {
	for _, text := range texts() {
		for _, first := range []step{{true, 3}, {false, -1}, {false, len(text) + 1}} {
			for _, second := range []step{{true, 3}, {false, -1}, {false, len(text) + 1}, {true, 1}, {false, 0}} {
				want := broken(len(text))[first]
				r := New(text)
				wantTold(t, r, text, first, told{left: len(text), err: want})
				wantTold(t, r, text, second, told{left: len(text), err: want})
				wantTold(t, r, text, first, told{left: len(text), err: want})
			}
		}
	}
}

// Promise 9.1: Left and Err.

func TestLeftAndErrAtTheBeginning(t *testing.T) {
	for _, size := range []int{0, 1, 2, 3, 4, 5, 12, 255, 256, 257, 1024, 65535, 65536, 65537, 1 << 20} {
		r := New(text(size, 14))
		for range 3 {
			if left, err := r.Left(), r.Err(); left != size || err != 0 {
				t.Errorf("a new reader of %d bytes: Left %d, Err %d", size, left, err)
			}
		}
	}
}

// However often they are asked, nothing is read by it.
func TestLeftAndErrReadNothing(t *testing.T) {
	s := text(30, 15)
	r, m := New(s), &model{text: s}
	for _, x := range append(nums(4, 2, 1, 4), append(bytesBy(5, 0, 1), nums(4, 1, 2, 4)...)...) {
		want := m.ask(x)
		wantTold(t, r, s, x, want)
		for range 5 {
			if left, err := r.Left(), r.Err(); left != want.left || err != want.err {
				t.Errorf("asked again: Left %d, Err %d, want %d, %d", left, err, want.left, want.err)
			}
		}
	}
}

// Promise 9.1: nil.

func TestNil(t *testing.T) {
	var r *Reader
	for range 3 {
		for _, s := range append(some(), append(nums(noSizes()...), bytesBy(farNumbers()...)...)...) {
			wantTold(t, r, "nil", s, told{err: api.ErrNil})
		}
		if left, err := r.Left(), r.Err(); left != 0 || err != api.ErrNil {
			t.Errorf("nil: Left %d, Err %d", left, err)
		}
	}
}

// Promise 9.1: readers have nothing in common.

func TestTwoReadersOfOneText(t *testing.T) {
	for _, text := range texts() {
		a, b := New(text), New(text)
		first, second := &model{text: text}, &model{text: text}
		for i, s := range append(nums(1, 2, 4, 1), bytesBy(1, 0, 2, 3, 4)...) {
			wantTold(t, a, text, s, first.ask(s))
			if i%2 == 0 {
				other := step{false, i % 3}
				wantTold(t, b, text, other, second.ask(other))
			}
		}
	}
}

// An error of one of them is none of the other.
func TestAnErrorOfAnotherReader(t *testing.T) {
	for _, text := range texts() {
		for first, err := range broken(len(text)) {
			a, b := New(text), New(text)
			wantTold(t, a, text, first, told{left: len(text), err: err})
			wantTold(t, b, text, step{false, len(text)}, told{body: text})
			wantTold(t, a, text, step{false, 0}, told{left: len(text), err: err})
			wantTold(t, New(text), text, step{false, len(text)}, told{body: text})
		}
	}
}

// What was told stays, whatever is read behind it.
func TestWhatWasToldStays(t *testing.T) {
	s := text(1000, 16)
	r := New(s)
	var l []string
	for range 100 {
		l = append(l, r.Bytes(10))
	}
	r.Bytes(1)
	if strings.Join(l, "") != s || s != text(1000, 16) {
		t.Error("what was told ahead is another text now")
	}
}

// Promise 9.1: what Put made is read by Num as it was.

func TestPutAndNum(t *testing.T) {
	for _, n := range numbers() {
		for _, size := range sizes() {
			if n > most(size) {
				continue
			}
			s, err := Put(n, size)
			if err != api.OK {
				t.Fatalf("Put(%d, %d): %d", n, size, err)
			}
			wantTold(t, New(s), s, step{true, size}, told{num: n})
			wantTold(t, New(s+"\xff\x00"), s, step{true, size}, told{num: n, left: 2})
		}
	}
}

func TestAllShortNumbersComeBack(t *testing.T) {
	for n := range uint32(65536) {
		for _, size := range sizes() {
			if n > most(size) {
				continue
			}
			if s, _ := Put(n, size); New(s).Num(size) != n {
				t.Errorf("%d of %d bytes is read as another one", n, size)
			}
		}
	}
}

// Numbers of all sizes one behind the other, with texts between them.
func TestManyPutsInOneText(t *testing.T) {
	var s strings.Builder
	var want []told
	var calls []step
	for i, n := range numbers() {
		size := sizes()[i%3]
		if n > most(size) {
			n %= most(size) // of those that are too great, some other one
		}
		part, err := Put(n, size)
		if err != api.OK {
			t.Fatalf("Put(%d, %d): %d", n, size, err)
		}
		body := text(i%5, uint32(i))
		s.WriteString(part + body)
		calls = append(calls, step{true, size}, step{false, len(body)})
		want = append(want, told{num: n}, told{body: body})
	}
	r, left := New(s.String()), s.Len()
	for i, call := range calls {
		left -= call.n
		want[i].left = left
		wantTold(t, r, "", call, want[i])
	}
	wantTold(t, r, "", step{true, 1}, told{err: api.ErrCut})
}

// R5: the same is answered when it is asked for again, whatever was asked for in between.

func TestAskedAgain(t *testing.T) {
	for range 3 {
		for _, n := range edges() {
			wantPut(t, n, 4, bytesOf(n, 4))
			wantNoPut(t, n, 3, api.ErrArg)
			wantPut(t, n%65536, 2, bytesOf(n%65536, 2))
			wantNoPut(t, n|1<<31, 2, api.ErrRange)
			wantPut(t, n%256, 1, bytesOf(n%256, 1))
		}
		for _, text := range kinds(9) {
			wantSteps(t, text, append(nums(4, 1, 2), bytesBy(2, 1)...)...)
			wantSteps(t, text, append(nums(4, 3, 2), bytesBy(2, 1)...)...)
		}
	}
}
