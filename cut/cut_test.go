package cut

import (
	"math"
	"slices"
	"strconv"
	"strings"
	"testing"

	"lightship/api"
)

// text is a text of so many bytes in no order, all 256 among them if it is long, another one for each seed.
func text(size int, seed uint32) string {
	made := make([]byte, size)
	state := seed*2654435761 + 12345
	for i := range made {
		state = state*1664525 + 1013904223
		made[i] = byte(state >> 16)
	}
	return string(made)
}

// full is such a text without a byte 0.
func full(size int, seed uint32) string {
	return strings.ReplaceAll(text(size, seed), "\x00", "\x80")
}

// nulls is a text of so many bytes, all 0.
func nulls(size int) string { return strings.Repeat("\x00", size) }

// kinds are texts of so many bytes: in no order, without a byte 0, with none but these, with them behind (one, some, all but one), and with them ahead.
func kinds(size int) []string {
	most := max(size-1, 0)
	return []string{
		text(size, uint32(size)), full(size, 1), nulls(size), strings.Repeat("\xff", size),
		full(most, 2) + nulls(size-most), full(size/2, 3) + nulls(size-size/2), full(size-most, 4) + nulls(most), nulls(most) + full(size-most, 5),
	}
}

// pieces are many texts of so many bytes, none with a byte 0.
func pieces(many, size int) []string {
	l := make([]string, many)
	for i := range l {
		l[i] = full(size, uint32(i))
	}
	return l
}

// with is l with another text at that place.
func with(l []string, place int, text string) []string {
	made := slices.Clone(l)
	made[place] = text
	return made
}

// cutUp are the texts of size bytes that s is, one behind the other.
func cutUp(s string, size int) []string {
	var l []string
	for at := 0; at < len(s); at += size {
		l = append(l, s[at:at+size])
	}
	return l
}

// farNumbers are the greatest and the least ints, and those whose last 8, 16 or 32 bits are small.
func farNumbers() []int {
	return []int{math.MaxInt, math.MaxInt - 1, math.MinInt, math.MinInt + 1, 1 << 16, 1<<16 + 3, 1 << 32, 1<<32 + 3, -1 << 32, -1<<32 + 3, -1 << 31, 1 << 31, 1 << 62, -1 << 62, 512, -256, -255}
}

// noNumbers are k into which no text is cut.
func noNumbers() []int {
	return append(farNumbers(), -32, -3, -2, -1, 0, 33, 34, 63, 64, 65, 128, 255, 256, 257, 288, 1024)
}

// least is the least size of which k are length at least, looked for one by one.
func least(length, k int) int {
	size := 0
	for size*k < length {
		size++
	}
	return size
}

func name(call string, a, b int) string {
	return call + "(" + strconv.Itoa(a) + ", " + strconv.Itoa(b) + ")"
}

func wantSize(t *testing.T, length, k, want int) {
	t.Helper()
	if got := Size(length, k); got != want {
		t.Errorf("%s: %d, want %d", name("Size", length, k), got, want)
	}
}

func wantCut(t *testing.T, s string, k int, want []string) {
	t.Helper()
	if got, err := Cut(s, k); err != api.OK || !slices.Equal(got, want) {
		t.Errorf("%s: %d, %.200q, want OK, %.200q", name("Cut", len(s), k), err, got, want)
	}
}

func wantNoCut(t *testing.T, s string, k int, want api.Errno) {
	t.Helper()
	if got, err := Cut(s, k); len(got) != 0 || err != want {
		t.Errorf("%s: %d texts, %d, want none, %d", name("Cut", len(s), k), len(got), err, want)
	}
}

func wantJoin(t *testing.T, l []string, length int, want string) {
	t.Helper()
	if got, err := Join(l, length); got != want || err != api.OK {
		t.Errorf("%s of %.100q: %.200q, %d, want %.200q, OK", name("Join", len(l), length), l, got, err, want)
	}
}

func wantNoJoin(t *testing.T, l []string, length int, want api.Errno) {
	t.Helper()
	if got, err := Join(l, length); got != "" || err != want {
		t.Errorf("%s of %.100q: %.50q, %d, want no text, %d", name("Join", len(l), length), l, got, err, want)
	}
}

// Promise 6.1: Size.

func TestSize(t *testing.T) {
	for _, x := range [][3]int{
		{5, 2, 3}, // the chapter's example has shards of 3 bytes
		{0, 1, 0}, {1, 1, 1}, {2, 1, 2}, {7, 1, 7}, {0, 2, 0}, {1, 2, 1}, {2, 2, 1}, {3, 2, 2}, {4, 2, 2}, {9, 3, 3}, {10, 3, 4}, {11, 3, 4}, {12, 3, 4}, {13, 3, 5},
		{64, 4, 16}, {65, 4, 17}, {63, 4, 16}, {61, 4, 16}, {60, 4, 15}, {0, 32, 0}, {1, 32, 1}, {31, 32, 1}, {32, 32, 1}, {33, 32, 2}, {64, 32, 2}, {65, 32, 3},
		{1024, 1, 1024}, {32767, 32, 1024}, {32768, 32, 1024}, {32769, 32, 1025}, {32736, 32, 1023}, {32737, 32, 1024}, {1, 33, 1}, {33, 33, 1}, {34, 33, 2}, {100, 255, 1}, {1000, 256, 4}, {1025, 256, 5},
	} {
		wantSize(t, x[0], x[1], x[2])
	}
}

// More k than texts are cut in there may be, and greater lengths.
func TestSizeIsTheLeastThatHoldsAll(t *testing.T) {
	for k := 1; k <= 300; k++ {
		for length := range 400 {
			wantSize(t, length, k, least(length, k))
		}
		for _, length := range []int{k * 1023, k*1024 - 1, k * 1024, k*1024 + 1, k*1024 + k - 1} {
			wantSize(t, length, k, least(length, k))
		}
	}
}

func TestSizeOfAsMany(t *testing.T) {
	for _, k := range []int{2, 3, 31, 32, 33, 255, 256, 1 << 16, 1<<31 - 1, 1 << 31, 1 << 32, 1<<53 + 1, 1<<62 - 1} {
		for _, x := range [][2]int{{0, 0}, {1, 1}, {k - 1, 1}, {k, 1}, {k + 1, 2}, {2*k - 1, 2}, {2 * k, 2}} {
			wantSize(t, x[0], k, x[1])
		}
	}
}

// Nothing goes round, and nothing is left out of the last bits.
func TestSizeOfGreatNumbers(t *testing.T) {
	for _, x := range [][3]int{
		{math.MaxInt, 1, math.MaxInt}, {math.MaxInt - 1, 1, math.MaxInt - 1}, {math.MaxInt, 2, 1 << 62}, {math.MaxInt - 1, 2, 1<<62 - 1}, {math.MaxInt, 3, 3074457345618258603},
		{math.MaxInt, 31, 297528130221121801}, {math.MaxInt, 32, 1 << 58}, {math.MaxInt - 31, 32, 1<<58 - 1}, {math.MaxInt - 30, 32, 1 << 58}, {math.MaxInt, 7, math.MaxInt / 7}, {math.MaxInt, 1 << 32, 1 << 31},
		{math.MaxInt, math.MaxInt, 1}, {math.MaxInt - 1, math.MaxInt, 1}, {math.MaxInt, math.MaxInt - 1, 2}, {1, math.MaxInt, 1}, {2, math.MaxInt, 1}, {0, math.MaxInt, 0}, {math.MaxInt, 1 << 62, 2}, {1 << 62, 1 << 62, 1}, {1<<62 + 1, 1 << 62, 2},
		{1 << 53, 1, 1 << 53}, {1<<53 + 1, 1, 1<<53 + 1}, {1<<54 + 1, 2, 1<<53 + 1}, {1<<54 + 2, 2, 1<<53 + 1}, {1 << 32, 2, 1 << 31}, {1<<32 + 1, 2, 1<<31 + 1}, {1 << 31, 1, 1 << 31}, {1<<40 + 1, 32, 1<<35 + 1},
	} {
		wantSize(t, x[0], x[1], x[2])
	}
}

func TestSizeOfNone(t *testing.T) {
	others := append(farNumbers(), -33, -32, -3, -2, -1, 0, 1, 2, 3, 31, 32, 33, 255, 1024, 32768)
	for _, a := range others {
		for _, b := range others {
			if a < 0 || b < 1 {
				wantSize(t, a, b, 0)
			}
		}
	}
	for below := -1; below >= -300; below-- {
		wantSize(t, below, 1, 0)
		wantSize(t, below, 2, 0)
		wantSize(t, below, below, 0)
		wantSize(t, 300, below, 0)
		wantSize(t, -below, below, 0)
	}
}

// Promise 6.1: Cut, with answers told by hand.

func TestCut(t *testing.T) {
	for _, x := range []struct {
		s    string
		k    int
		want []string
	}{
		{"abcde", 2, []string{"abc", "de\x00"}}, // the chapter's example
		{"a", 1, []string{"a"}},
		{"hello", 1, []string{"hello"}},
		{"ab", 2, []string{"a", "b"}},
		{"abcdef", 2, []string{"abc", "def"}},
		{"abcdef", 3, []string{"ab", "cd", "ef"}},
		{"abcdef", 4, []string{"ab", "cd", "ef", "\x00\x00"}},
		{"abcdef", 5, []string{"ab", "cd", "ef", "\x00\x00", "\x00\x00"}},
		{"abcde", 4, []string{"ab", "cd", "e\x00", "\x00\x00"}},
		{"abcdefg", 5, []string{"ab", "cd", "ef", "g\x00", "\x00\x00"}},
		{"abcdefghi", 7, []string{"ab", "cd", "ef", "gh", "i\x00", "\x00\x00", "\x00\x00"}},
		{"a", 2, []string{"a", "\x00"}},
		{"a", 4, []string{"a", "\x00", "\x00", "\x00"}},
		{"abc", 4, []string{"a", "b", "c", "\x00"}},
		{"abcd", 4, []string{"a", "b", "c", "d"}},
		{"light ships", 4, []string{"lig", "ht ", "shi", "ps\x00"}},
		{"\x00", 1, []string{"\x00"}},
		{"\x00", 3, []string{"\x00", "\x00", "\x00"}},
		{"\x00\x00\x00", 2, []string{"\x00\x00", "\x00\x00"}},
		{"ab\x00", 2, []string{"ab", "\x00\x00"}},
		{"ab\x00\x00", 2, []string{"ab", "\x00\x00"}},
		{"\x00\x00ab\x00", 3, []string{"\x00\x00", "ab", "\x00\x00"}},
		{"\x00\xff\x80\x7f\xc3\xa4", 2, []string{"\x00\xff\x80", "\x7f\xc3\xa4"}},
		{"\xc3\xa4\xc3\xb6\xc3", 2, []string{"\xc3\xa4\xc3", "\xb6\xc3\x00"}},
		{"a\nb\r\n c ", 3, []string{"a\nb", "\r\n ", "c \x00"}},
	} {
		wantCut(t, x.s, x.k, x.want)
	}
}

// lengths are how long texts are that are cut into k: all small ones, and those at the edges.
func lengths(k int) []int {
	l := []int{k - 1, k, k + 1, 2*k - 1, 2 * k, 2*k + 1, k*16 - 1, k * 16, k*100 + k/2, k*512 + 1, k*1023 - 1, k * 1023, k*1023 + 1, k*1024 - k, k*1024 - k + 1, k*1024 - 1, k * 1024}
	for length := 1; length <= 2*k+3; length++ {
		l = append(l, length)
	}
	return slices.DeleteFunc(l, func(length int) bool { return length < 1 || length > k*1024 })
}

// wantEachByte: there are k texts of Size bytes, and at each place the byte of s, or 0 behind it.
func wantEachByte(t *testing.T, s string, k int) {
	t.Helper()
	l, err := Cut(s, k)
	if err != api.OK || len(l) != k {
		t.Fatalf("%s: %d texts, %d", name("Cut", len(s), k), len(l), err)
	}
	size := least(len(s), k)
	for i, shard := range l {
		if len(shard) != size {
			t.Fatalf("%s: %d bytes at place %d, want %d", name("Cut", len(s), k), len(shard), i, size)
		}
		for j := range size {
			want := byte(0)
			if at := i*size + j; at < len(s) {
				want = s[at]
			}
			if shard[j] != want {
				t.Fatalf("%s: byte %d at place %d is %d, want %d", name("Cut", len(s), k), j, i, shard[j], want)
			}
		}
	}
}

func TestCutByteByByte(t *testing.T) {
	for k := 1; k <= 32; k++ {
		for _, length := range lengths(k) {
			for _, s := range kinds(length) {
				wantEachByte(t, s, k)
			}
		}
	}
}

func TestCutIsOfSize(t *testing.T) {
	whole := full(32*1024, 7)
	for k := 1; k <= 32; k++ {
		for length := 1; length <= k*1024; length += 1 + k {
			l, err := Cut(whole[:length], k)
			if err != api.OK || len(l) != k || len(l[0]) != Size(length, k) || len(l[k-1]) != Size(length, k) {
				t.Fatalf("%s: %d texts, %d", name("Cut", length, k), len(l), err)
			}
		}
	}
}

// Texts that leave the last shards with nothing but bytes 0: there are as many as all others.
func TestShardsBehindTheText(t *testing.T) {
	for _, x := range [][3]int{{1, 2, 1}, {1, 32, 31}, {31, 32, 1}, {2, 32, 30}, {33, 32, 15}, {34, 32, 15}, {35, 32, 14}, {65, 32, 10}, {5, 4, 1}, {9, 8, 3}, {17, 16, 7}, {26, 25, 12}, {33, 31, 14}, {63, 31, 10}, {10, 8, 3}, {13, 6, 1}, {961, 31, 0}, {993, 32, 0}, {929, 30, 0}} {
		length, k, behind := x[0], x[1], x[2]
		for _, s := range []string{full(length, 8), strings.Repeat("\x01", length)} {
			l, err := Cut(s, k)
			if err != api.OK || len(l) != k {
				t.Fatalf("%s: %d texts, %d", name("Cut", length, k), len(l), err)
			}
			many := 0
			for i, shard := range l {
				if shard == nulls(least(length, k)) {
					many++
				} else if many > 0 {
					t.Errorf("%s: bytes of the text at place %d, behind those without any", name("Cut", length, k), i)
				}
			}
			if many != behind {
				t.Errorf("%s: %d texts have none but bytes 0, want %d", name("Cut", length, k), many, behind)
			}
		}
	}
}

// Promise 6.1: what is not cut.

// That there are not so many is told ahead of how long the text is.
func TestCutIntoNoNumber(t *testing.T) {
	for _, k := range noNumbers() {
		for _, length := range []int{0, 1, 2, 3, 31, 32, 33, 34, 255, 1023, 1024, 1025, 32767, 32768, 32769, 33 * 1024, 33*1024 + 1, 34 * 1024, 1 << 17} {
			wantNoCut(t, text(length, 1), k, api.ErrArg)
			wantNoCut(t, nulls(length), k, api.ErrArg)
		}
	}
}

func TestCutOfNothing(t *testing.T) {
	for k := 1; k <= 32; k++ {
		wantNoCut(t, "", k, api.ErrLong)
	}
}

// k times 1024 bytes there may be, and no more, whatever they are.
func TestCutOfTooMuch(t *testing.T) {
	for k := 1; k <= 32; k++ {
		most := k * 1024
		for _, s := range kinds(most) {
			wantCut(t, s, k, cutUp(s, 1024))
		}
		for _, length := range []int{most + 1, most + 2, most + k - 1, most + k, most + k + 1, most + 255, most + 256, most + 1023, most + 1024, 2*most + 1, 32769, 33 * 1024, 1 << 16, 1<<16 + 1, 1<<16 + most, 1 << 20} {
			if length <= most {
				continue // of k 1 some of these are less
			}
			wantNoCut(t, full(length, 2), k, api.ErrLong)
			wantNoCut(t, nulls(length), k, api.ErrLong)
			wantNoCut(t, full(most, 3)+nulls(length-most), k, api.ErrLong)
		}
	}
}

// Promise 6.1: Join, with answers told by hand.

func TestJoin(t *testing.T) {
	for _, x := range []struct {
		l      []string
		length int
		want   string
	}{
		{[]string{"abc", "de\x00"}, 5, "abcde"}, // what the chapter's example was cut of
		{[]string{"abc", "de\x00"}, 6, "abcde\x00"},
		{[]string{"abc", "def"}, 6, "abcdef"},
		{[]string{"hello"}, 5, "hello"},
		{[]string{"a"}, 1, "a"},
		{[]string{"\x00"}, 0, ""},
		{[]string{"\x00"}, 1, "\x00"},
		{[]string{"a\x00"}, 1, "a"},
		{[]string{"a\x00"}, 2, "a\x00"},
		{[]string{"a\x00b"}, 3, "a\x00b"},
		{[]string{"\x00a\x00\x00"}, 2, "\x00a"},
		{[]string{"\x00a\x00\x00"}, 3, "\x00a\x00"},
		{[]string{"\x00\x00", "\x00\x00", "\x00\x00"}, 0, ""},
		{[]string{"\x00\x00", "\x00\x00", "\x00\x00"}, 3, "\x00\x00\x00"},
		{[]string{"\x00\x00", "\x00\x00", "\x00\x00"}, 6, "\x00\x00\x00\x00\x00\x00"},
		{[]string{"ab", "\x00\x00", "\x00\x00"}, 2, "ab"},
		{[]string{"ab", "\x00\x00", "\x00\x00"}, 4, "ab\x00\x00"},
		{[]string{"ab", "\x00\x00", "c\x00"}, 5, "ab\x00\x00c"},
		{[]string{"ab", "ab", "ab", "a\x00"}, 7, "abababa"},
		{[]string{"b", "a", "d", "c"}, 4, "badc"},
		{[]string{"\xc3", "\xa4", "\x00"}, 2, "\xc3\xa4"},
		{[]string{"\xff\x80", "\x7f\x00"}, 3, "\xff\x80\x7f"},
		// Without a byte there may be texts, too.
		{[]string{""}, 0, ""},
		{[]string{"", ""}, 0, ""},
		{make([]string, 300), 0, ""},
	} {
		wantJoin(t, x.l, x.length, x.want)
	}
}

// counts are how many texts are joined, and how long they are: more and longer ones than those that are cut, too.
func counts() [][2]int {
	return [][2]int{
		{1, 1}, {1, 2}, {1, 3}, {1, 9}, {2, 1}, {2, 2}, {2, 3}, {3, 1}, {3, 2}, {3, 4}, {4, 5}, {5, 4}, {7, 3}, {9, 1}, {16, 2}, {31, 2}, {32, 1}, {32, 3}, {33, 1}, {33, 2}, {40, 2},
		{1, 257}, {2, 130}, {1, 1024}, {1, 1025}, {2, 1025}, {255, 1}, {256, 1}, {257, 2}, {1000, 1},
	}
}

// at are the places from 0 to n that are looked at: all, where there are few, else some, those at the ends among them.
func at(n int) []int {
	var l []int
	for place := 0; place <= n; place += 1 + n/70 {
		l = append(l, place)
	}
	if l[len(l)-1] != n {
		l = append(l, n)
	}
	return l
}

// At each length texts that have nothing but bytes 0 behind it, wherever it lies, and some ahead of it.
func TestJoinAtEachLength(t *testing.T) {
	for _, x := range counts() {
		whole := x[0] * x[1]
		for _, length := range at(whole) {
			for _, s := range kinds(length) {
				wantJoin(t, cutUp(s+nulls(whole-length), x[1]), length, s)
			}
		}
	}
}

// As many bytes as they have, none of them 0, at greater numbers.
func TestJoinOfAll(t *testing.T) {
	for _, x := range append(counts(), [][2]int{{32, 1024}, {32, 1023}, {33, 1024}, {32, 1025}, {1, 32768}, {1, 65537}, {2, 1 << 16}, {256, 256}, {65537, 1}, {1024, 1024}}...) {
		s := full(x[0]*x[1], 4)
		wantJoin(t, cutUp(s, x[1]), len(s), s)
		less := s[:len(s)-1]
		wantJoin(t, cutUp(less+"\x00", x[1]), len(s)-1, less)
		wantJoin(t, cutUp(less+"\x00", x[1]), len(s), less+"\x00")
	}
}

// Promise 6.1: what is not joined.

// joinLengths are lengths that there are, or are not, of so many bytes.
func joinLengths(whole int) []int {
	return append(farNumbers(), -whole, -2, -1, 0, 1, whole-1, whole, whole+1, whole+2, 2*whole+1, 255, 256, 257, 1024, 32768)
}

func TestJoinOfNothing(t *testing.T) {
	for _, l := range [][]string{nil, {}, make([]string, 0, 9), pieces(3, 2)[:0]} {
		for _, length := range joinLengths(0) {
			wantNoJoin(t, l, length, api.ErrArg)
		}
	}
}

// That they are unlike long is told ahead of what length is, and of the bytes behind it.
func TestJoinOfUnlikes(t *testing.T) {
	l := [][]string{
		{"", "a"}, {"a", ""}, {"a", "bc"}, {"ab", "c"}, {"ab", "c", "def"}, {"abc", "d", "ef"}, {"a", "bcd", "ef"}, {"ab", "", "cdef"}, {"ab", "cdef", ""}, {"", "", "a"}, {"", "\x00"}, {"\x00", ""}, {"\x00", "\x00\x00"}, {"\x00\x00", "\x00"},
		{"a", "bc", "de", "fg"}, {"ab", "cd", "e", "f"}, {"ab", "c", "de", "f"}, {"ab", "cd", "efg", "h"}, {"\x00\x00", "\x00\x00", "\x00"}, {full(1024, 1), full(1025, 1)}, {"abc", full(259, 1)}, {full(259, 1), "abc"},
	}
	for _, many := range []int{2, 3, 5, 31, 32, 33, 256, 257} {
		for place := range many {
			for _, other := range []string{"", "a", "ab", "abcd", "\x00\x00", "\x00\x00\x00\x00", full(6, 5), full(259, 5), full(1024, 5)} {
				l = append(l, with(pieces(many, 3), place, other))
			}
		}
	}
	for _, texts := range l {
		whole := len(texts) * len(texts[0])
		for _, length := range append(joinLengths(whole), len(strings.Join(texts, ""))) {
			wantNoJoin(t, texts, length, api.ErrUnlike)
		}
	}
}

// That there are not so many bytes is told ahead of those behind.
func TestJoinOfNoLength(t *testing.T) {
	for _, x := range append(counts(), [][2]int{{1, 0}, {2, 0}, {33, 0}, {32, 1024}, {33, 1024}}...) {
		whole := x[0] * x[1]
		for _, l := range [][]string{pieces(x[0], x[1]), slices.Repeat([]string{nulls(x[1])}, x[0])} {
			for _, length := range joinLengths(whole) {
				if length < 0 || length > whole {
					wantNoJoin(t, l, length, api.ErrRange)
				}
			}
		}
	}
}

func TestJoinByHandOfWhatIsBehind(t *testing.T) {
	for _, x := range []struct {
		l      []string
		length int
	}{
		{[]string{"a"}, 0}, {[]string{"ab"}, 0}, {[]string{"ab"}, 1}, {[]string{"a\x00b"}, 1}, {[]string{"a\x00b"}, 2}, {[]string{"\x00\x00b"}, 0}, {[]string{"a\x00\x00b"}, 1},
		{[]string{"abc", "def"}, 5}, {[]string{"abc", "def"}, 3}, {[]string{"abc", "def"}, 1}, {[]string{"abc", "def"}, 0},
		{[]string{"abc", "d\x00\x00", "\x00\x00e"}, 4}, {[]string{"abc", "d\x00\x00", "e\x00\x00"}, 4}, {[]string{"abc", "\x00\x00\x00", "\x00e\x00"}, 3}, {[]string{"abc", "\x00\x00\x00", "\x00e\x00"}, 5}, {[]string{"abc", "\x00e\x00", "\x00\x00\x00"}, 3},
		{[]string{"a", "b", "c"}, 2}, {[]string{"a", "b", "c"}, 1}, {[]string{"a", "\x00", "c"}, 1}, {[]string{"\x00", "\x00", "\x01"}, 0}, {[]string{"\x00", "\x01", "\x00"}, 0},
		{[]string{"a0"}, 1}, {[]string{"a "}, 1}, {[]string{"a\n"}, 1}, {[]string{"a\xff"}, 1}, {[]string{"a\x01"}, 1}, {[]string{"a\x80"}, 1}, {[]string{"a\xc2\x80"}, 1}, {[]string{"a\xef\xbf\xbd"}, 1},
	} {
		wantNoJoin(t, x.l, x.length, api.ErrForm)
	}
}

// One byte that is not 0, at each place behind each length: right behind it, in a text that lies behind it wholly, and the last one of all. At no place ahead of it does it matter.
func TestOneByteAtEachPlace(t *testing.T) {
	for _, x := range counts() {
		whole := x[0] * x[1]
		for _, place := range at(whole - 1) {
			s := nulls(place) + "\x01" + nulls(whole-place-1)
			l := cutUp(s, x[1])
			for _, length := range append(at(whole), max(place-1, 0), place, place+1) {
				if length <= place {
					wantNoJoin(t, l, length, api.ErrForm)
				} else {
					wantJoin(t, l, length, s[:length])
				}
			}
		}
	}
}

// None of the 255 bytes that are not 0 may be behind.
func TestEachByteBehind(t *testing.T) {
	for value := 1; value <= 255; value++ {
		one := string([]byte{byte(value)})
		wantNoJoin(t, []string{one}, 0, api.ErrForm)
		wantNoJoin(t, []string{"a" + one, "\x00\x00"}, 1, api.ErrForm)
		wantNoJoin(t, []string{"ab", one + "\x00", "\x00\x00"}, 2, api.ErrForm)
		wantNoJoin(t, []string{"ab", "\x00\x00", "\x00" + one}, 2, api.ErrForm)
		wantNoJoin(t, []string{"a\x00", "\x00" + one, "\x00\x00"}, 1, api.ErrForm)
		// Two alike are not none.
		wantNoJoin(t, []string{"a" + one + one}, 1, api.ErrForm)
		wantNoJoin(t, []string{"a" + one, one + "\x00"}, 1, api.ErrForm)
	}
}

// All bytes behind, at each length.
func TestJoinOfTooLittle(t *testing.T) {
	for _, x := range append(counts(), [2]int{32, 1024}) {
		whole := x[0] * x[1]
		l := pieces(x[0], x[1])
		for _, length := range at(whole) {
			if length < whole {
				wantNoJoin(t, l, length, api.ErrForm)
			}
		}
		wantNoJoin(t, l, whole-1, api.ErrForm)
	}
}

// Promise 6.2: what is cut is joined as it was.

func wantBack(t *testing.T, s string, k int) {
	t.Helper()
	l, err := Cut(s, k)
	if err != api.OK || len(l) != k {
		t.Fatalf("%s: %d texts, %d", name("Cut", len(s), k), len(l), err)
	}
	if got, err := Join(l, len(s)); got != s || err != api.OK {
		t.Fatalf("%s is joined as a text of %d bytes, %d, not as it was", name("Cut", len(s), k), len(got), err)
	}
}

func TestSmallTextsComeBack(t *testing.T) {
	for k := 1; k <= 32; k++ {
		for length := 1; length <= 4*k+100; length++ {
			for _, s := range kinds(length) {
				wantBack(t, s, k)
			}
		}
	}
}

func TestAllLengthsComeBack(t *testing.T) {
	for k := 1; k <= 3; k++ {
		whole := full(k*1024, 6)
		for length := 1; length <= k*1024; length++ {
			wantBack(t, whole[:length], k)
			wantBack(t, whole[:length/2]+nulls(length-length/2), k)
		}
	}
}

func TestGreatTextsComeBack(t *testing.T) {
	for k := 4; k <= 32; k++ {
		whole := text(k*1024, uint32(k))
		for length := 1; length <= k*1024; length += 7 + 3*k {
			wantBack(t, whole[:length], k)
			wantBack(t, whole[:length-1]+"\x00", k)
			wantBack(t, whole[:length/3]+nulls(length-length/3), k)
		}
		for _, length := range lengths(k) {
			for _, s := range kinds(length) {
				wantBack(t, s, k)
			}
		}
	}
}

// With a greater length what was cut comes with bytes 0 behind it; with a lesser one it does not come at all.
func TestOtherLengthsTellOtherTexts(t *testing.T) {
	for k := 1; k <= 32; k++ {
		for _, length := range lengths(k) {
			s := full(length, 9)
			l, err := Cut(s, k)
			if err != api.OK || len(l) != k {
				t.Fatalf("%s: %d texts, %d", name("Cut", length, k), len(l), err)
			}
			whole := k * len(l[0])
			wantJoin(t, l, whole, s+nulls(whole-length))
			wantNoJoin(t, l, length-1, api.ErrForm)
			wantNoJoin(t, l, whole+1, api.ErrRange)
			if length < whole {
				wantJoin(t, l, length+1, s+"\x00")
			}
		}
	}
}

// R4 and R5: what is handed in is not changed, and what is answered is memory of its own.

// wide is l with room behind it that holds more, where an append to it would write; whole is all of it.
func wide(l []string, more ...string) (given, whole []string) {
	whole = slices.Concat(l, more)
	return whole[:len(l)], whole
}

func TestWhatIsHandedInIsNotChanged(t *testing.T) {
	for _, l := range [][]string{nil, {""}, {"ab"}, {"ab", "c\x00"}, {"\x00", "\x00"}, {"ab", "c"}, pieces(32, 3), cutUp(full(30, 1)+nulls(70), 5)} {
		for _, length := range append(joinLengths(len(strings.Join(l, ""))), 2, 3, 30, 31, 100) {
			given, whole := wide(l, "behind", "this", "too")
			before := slices.Clone(whole)
			Join(given, length)
			if !slices.Equal(whole, before) {
				t.Errorf("%s changed its texts", name("Join", len(l), length))
			}
		}
	}
	for k := 1; k <= 32; k++ {
		for _, length := range lengths(k) {
			s := text(length, 3)
			before := strings.Clone(s)
			Cut(s, k)
			if s != before {
				t.Errorf("%s changed its text", name("Cut", length, k))
			}
		}
	}
}

// answers are the lists that calls answer, each time anew.
func answers() [][]string {
	var made [][]string
	for _, x := range [][2]int{{1, 1}, {5, 2}, {5, 2}, {6, 4}, {1, 32}, {100, 32}, {1024, 1}} {
		l, _ := Cut(full(x[0], 2), x[1])
		one, _ := Join(l, x[0])
		all, _ := Join(l, len(l)*Size(x[0], x[1]))
		made = append(made, l, []string{one, all})
	}
	return made
}

// Whoever writes to a list, or behind it, writes to no other one.
func TestAnswersAreNewMemory(t *testing.T) {
	want := answers()
	first, second := answers(), answers()
	for at, l := range first {
		_ = append(l, "behind", "too")
		for i := range l {
			l[i] = "written"
		}
		for other, l := range first {
			if other > at && !slices.Equal(l, want[other]) {
				t.Fatalf("the answers at the places %d and %d share memory", at, other)
			}
		}
		if !slices.EqualFunc(second, want, slices.Equal) || !slices.EqualFunc(answers(), want, slices.Equal) {
			t.Fatalf("the answer at place %d shares memory with one of another call", at)
		}
	}
}

// What is answered does not hang on what was handed in once the call has answered.
func TestWhatWasJoinedStays(t *testing.T) {
	l := []string{"abc", "def", "g\x00\x00"}
	got, err := Join(l, 7)
	clear(l)
	if got != "abcdefg" || err != api.OK {
		t.Errorf("Join: %q, %d, want abcdefg, OK", got, err)
	}
}

func TestAskedAgain(t *testing.T) {
	before := answers()
	for range 3 {
		Cut(full(77, 9), 31)
		Cut("", 1)
		Cut("a", 0)
		Join([]string{"abc", "def"}, 2)
		Join([]string{"abc", "de"}, 2)
		Size(math.MaxInt, 3)
		if !slices.EqualFunc(answers(), before, slices.Equal) {
			t.Fatal("others are answered when they are asked for again")
		}
	}
}
