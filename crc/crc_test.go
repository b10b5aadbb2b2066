package crc

import (
	"slices"
	"strconv"
	"strings"
	"testing"
)

// register is the chapter's register, each bit for itself, the lowest first.
type register [32]bool

// bits are the bits of n.
func bits(n uint32) register {
	var r register
	for i := range r {
		r[i] = n>>i&1 == 1
	}
	return r
}

// number is the number of these bits.
func (r register) number() uint32 {
	n := uint32(0)
	for i, bit := range r {
		if bit {
			n |= 1 << i
		}
	}
	return n
}

// or is r, exclusive-ored with n.
func (r register) or(n uint32) register {
	for i, bit := range bits(n) {
		r[i] = r[i] != bit
	}
	return r
}

// move lets the lowest bit out, and moves the others down by one.
func (r register) move() register {
	var down register
	copy(down[:], r[1:])
	if r[0] {
		down = down.or(0xedb88320)
	}
	return down
}

// take is r behind s.
func (r register) take(s string) register {
	for i := range len(s) {
		r = r.or(uint32(s[i]))
		for range 8 {
			r = r.move()
		}
	}
	return r
}

// turned is r, each bit turned.
func (r register) turned() register {
	for i, bit := range r {
		r[i] = !bit
	}
	return r
}

// sumOf is what Sum has to answer.
func sumOf(s string) uint32 { return bits(1<<32 - 1).take(s).turned().number() }

// addOf is what Add has to answer: the register is where the bytes of that sum left it.
func addOf(sum uint32, s string) uint32 { return bits(sum).turned().take(s).turned().number() }

// text is a text of so many bytes in no order, all 256 among them if it is long, another one for each seed.
func text(size int, seed uint32) string {
	made := make([]byte, size)
	state := seed*2654435761 + 12345
	for i := range made {
		state = state*1664525 + 1013904223
		made[i] = byte(state >> 16)
	}
	return string(made)
}

// numbers are so many sums in no order.
func numbers(many int) []uint32 {
	made := make([]uint32, many)
	state := uint32(1)
	for i := range made {
		state = state*1664525 + 1013904223
		made[i] = state ^ state>>15
	}
	return made
}

// edges are the sums at the edges.
func edges() []uint32 { return []uint32{0, 1, 1 << 31, 1<<32 - 1, 0xedb88320} }

// sums are those at the edges, their neighbours, those of one bit alone and of all but one, and ordinary ones.
func sums() []uint32 {
	l := append(edges(), 2, 1<<31-1, 1<<31+1, 1<<32-2, 0xedb8831f, 0xedb88321, ^uint32(0xedb88320), 0xcbf43926, 0xff, 0xff00, 0xff0000, 0xff000000, 0x80808080, 0x12345678)
	for i := range 32 {
		l = append(l, 1<<i, ^uint32(1<<i))
	}
	return append(l, numbers(50)...)
}

// one is the text of one byte.
func one(value int) string { return string([]byte{byte(value)}) }

// rising are all 256 bytes, each once.
func rising() string {
	var all strings.Builder
	for value := range 256 {
		all.WriteString(one(value))
	}
	return all.String()
}

// falling are the same, the other way round.
func falling() string {
	all := []byte(rising())
	slices.Reverse(all)
	return string(all)
}

// lengths are how long texts are: all small ones, and those at the edges.
func lengths() []int {
	l := []int{63, 64, 65, 127, 128, 129, 254, 255, 256, 257, 258, 511, 512, 513, 1023, 1024, 1025, 1036, 4096, 5000}
	for length := range 41 {
		l = append(l, length)
	}
	return l
}

// texts are ordinary ones, and those that are short, alike, or not of letters.
func texts() []string {
	l := []string{"", "a", "b", "ab", "ba", "abc", "hello", "123456789", "LS", "lightship", "streams over a socket that loses", "The quick brown fox jumps over the lazy dog", "\xc3\xa4\xc3\xb6", "\xff\xfe\xfd", "a\x00b", "\x00a", "a\x00", "\n", "\x80", "\x01\x80", rising(), falling()}
	for _, length := range []int{1, 2, 3, 4, 5, 8, 32} {
		l = append(l, strings.Repeat("\x00", length), strings.Repeat("\xff", length), strings.Repeat("\x80", length), text(length, 1))
	}
	return l
}

// short is s, or its beginning and how long it is.
func short(s string) string {
	if len(s) <= 20 {
		return strconv.Quote(s)
	}
	return strconv.Quote(s[:20]) + " and more, " + strconv.Itoa(len(s)) + " bytes"
}

func wantSum(t *testing.T, s string, want uint32) {
	t.Helper()
	if got := Sum(s); got != want {
		t.Errorf("Sum(%s): %08x, want %08x", short(s), got, want)
	}
}

func wantAdd(t *testing.T, sum uint32, s string, want uint32) {
	t.Helper()
	if got := Add(sum, s); got != want {
		t.Errorf("Add(%08x, %s): %08x, want %08x", sum, short(s), got, want)
	}
}

// Promise 7.1: Sum, with answers that are known.

func TestSum(t *testing.T) {
	for _, x := range []struct {
		s    string
		want uint32
	}{
		{"123456789", 0xcbf43926}, // the chapter's example
		{"", 0},
		{"a", 0xe8b7be43},
		{"abc", 0x352441c2},
		{"hello", 0x3610a686},
		{"lightship", 0xee6a50e5},
		{"LS", 0xef7712b8},
		{"The quick brown fox jumps over the lazy dog", 0x414fa339},
		{"\x00", 0xd202ef8d},
		{"\x01", 0xa505df1b},
		{"\x7f", 0x12b88320},
		{"\x80", 0x3fba6cad},
		{"\xff", 0xff000000},
		{"\x00\x00\x00\x00", 0x2144df1c},
		{"\xff\xff\xff\xff", 0xffffffff},
		{strings.Repeat("\x00", 32), 0x190a55ad},
		{strings.Repeat("\xff", 32), 0xff6cab0b},
		{strings.Repeat("\x00", 255), 0xf48516ac},
		{strings.Repeat("\x00", 256), 0x0d968558},
		{strings.Repeat("\x00", 257), 0xb7bfa0ce},
		{rising()[:32], 0x91267e8a},
		{falling()[224:], 0x9ab0ef72},
		{rising(), 0x29058c73},
		{strings.Repeat("a", 1000000), 0xdc25bfbc},
	} {
		wantSum(t, x.s, x.want)
	}
}

// Promise 7.1: Sum against the register.

func TestSumOfTexts(t *testing.T) {
	for _, s := range texts() {
		wantSum(t, s, sumOf(s))
	}
}

// Behind no byte the register is as it was at first: turned it is 0.
func TestSumOfNothing(t *testing.T) {
	wantSum(t, "", 0)
	wantSum(t, "abc"[3:], 0)
	wantSum(t, "", sumOf(""))
}

func TestSumOfEachByte(t *testing.T) {
	for value := range 256 {
		wantSum(t, one(value), sumOf(one(value)))
	}
}

func TestSumOfTwoBytes(t *testing.T) {
	for first := range 256 {
		for _, second := range []int{0, 1, 2, 127, 128, 254, 255, first, 255 - first} {
			s := one(first) + one(second)
			wantSum(t, s, sumOf(s))
		}
	}
}

// Bytes 0 count: more of them tell another sum.
func TestSumOfBytesAlike(t *testing.T) {
	for _, value := range []string{"\x00", "\xff", "\x01", "\x80", "a"} {
		for _, length := range lengths() {
			s := strings.Repeat(value, length)
			wantSum(t, s, sumOf(s))
		}
	}
}

func TestSumOfAllBytes(t *testing.T) {
	for _, s := range []string{rising(), falling(), rising() + falling(), falling() + rising(), rising() + rising(), strings.Repeat(rising(), 16), "a" + rising(), rising() + "\x00"} {
		wantSum(t, s, sumOf(s))
	}
	for at := range 256 {
		s := rising()[at:] + rising()[:at]
		wantSum(t, s, sumOf(s))
	}
}

func TestSumAtEachLength(t *testing.T) {
	for _, length := range lengths() {
		for seed := range uint32(5) {
			s := text(length, seed)
			wantSum(t, s, sumOf(s))
		}
	}
}

func TestSumOfLongTexts(t *testing.T) {
	for _, length := range []int{32767, 32768, 32769, 65535, 65536, 65537, 100000, 1 << 20} {
		for _, s := range []string{text(length, 3), strings.Repeat("\x00", length), strings.Repeat("\xff", length)} {
			wantSum(t, s, sumOf(s))
		}
	}
}

// Promise 7.1: Add, with answers that are known.

func TestAdd(t *testing.T) {
	for _, x := range []struct {
		sum  uint32
		s    string
		want uint32
	}{
		{0, "123456789", 0xcbf43926},
		{0, "", 0},
		{0, "\x00", 0xd202ef8d}, {0, "\xff", 0xff000000}, {0, "abc", 0x352441c2},
		{1, "a", 0x9fb08ed5}, {1, "\x00", 0xa505df1b}, {1, "\xff", 0x88073096}, {1, "abc", 0x34e62bf5},
		{1 << 31, "a", 0xe837be43}, {1 << 31, "\x00", 0xd282ef8d}, {1 << 31, "\xff", 0xff800000}, {1 << 31, "abc", 0x35244142},
		{1<<32 - 1, "a", 0xc54aae31}, {1<<32 - 1, "\x00", 0xffffffff}, {1<<32 - 1, "\xff", 0xd2fd1072}, {1<<32 - 1, "abc", 0x359a672f},
		{0xedb88320, "a", 0xd3342608}, {0xedb88320, "\x00", 0xe98177c6}, {0xedb88320, "\xff", 0xc483984b}, {0xedb88320, "abc", 0xd87df7f9},
		{0xcbf43926, "a", 0x3a71cf87}, {0xcbf43926, "\x00", 0x00c49e49}, {0xcbf43926, "\xff", 0x2dc671c4}, {0xcbf43926, "abc", 0xbdb0c0e4},
	} {
		wantAdd(t, x.sum, x.s, x.want)
	}
}

// Promise 7.1: Add against the register.

func TestAddOfNothing(t *testing.T) {
	for _, sum := range append(sums(), numbers(2000)...) {
		wantAdd(t, sum, "", sum)
		wantAdd(t, sum, "abc"[3:], addOf(sum, ""))
	}
}

func TestAddOfEachByte(t *testing.T) {
	for _, sum := range sums() {
		for value := range 256 {
			wantAdd(t, sum, one(value), addOf(sum, one(value)))
		}
	}
}

func TestAddOfTexts(t *testing.T) {
	for _, sum := range sums() {
		for _, s := range texts() {
			wantAdd(t, sum, s, addOf(sum, s))
		}
	}
}

func TestAddOfLongerTexts(t *testing.T) {
	for _, sum := range append(edges(), numbers(4)...) {
		for _, length := range lengths() {
			for _, s := range []string{text(length, 7), strings.Repeat("\x00", length), strings.Repeat("\xff", length)} {
				wantAdd(t, sum, s, addOf(sum, s))
			}
		}
	}
	for _, sum := range edges() {
		s := text(100000, sum)
		wantAdd(t, sum, s, addOf(sum, s))
	}
}

// The sum of no byte is 0.
func TestAddToNothingIsSum(t *testing.T) {
	l := append(texts(), text(100000, 4))
	for value := range 256 {
		l = append(l, one(value))
	}
	for _, length := range lengths() {
		l = append(l, text(length, 5))
	}
	for _, s := range l {
		wantAdd(t, 0, s, Sum(s))
		wantAdd(t, 0, s, sumOf(s))
	}
}

// Wherever a text is parted in two, the first and the last place among them.
func TestAddAtEachPlace(t *testing.T) {
	for _, s := range append(texts(), strings.Repeat("\x00", 300), strings.Repeat("\xff", 300), text(300, 6), text(1036, 6), rising()+falling()) {
		want := sumOf(s)
		for place := range len(s) + 1 {
			sum := Sum(s[:place])
			if got := Add(sum, s[place:]); got != want {
				t.Errorf("Add(%08x, all from place %d on) of %s: %08x, want %08x", sum, place, short(s), got, want)
			}
		}
		wantSum(t, s, want)
	}
}

// In more parts than two, some without a byte.
func TestAddInParts(t *testing.T) {
	for _, length := range lengths() {
		s := text(length, 8)
		for _, size := range []int{1, 2, 3, 7, 64, 255} {
			sum := Add(Sum(""), "")
			for part := range slices.Chunk([]byte(s), size) {
				sum = Add(Add(sum, string(part)), "")
			}
			if want := sumOf(s); sum != want {
				t.Errorf("Add of %s by parts of %d: %08x, want %08x", short(s), size, sum, want)
			}
		}
	}
}

// Two texts of one length of which just one byte is another one have unlike sums.
func TestOneOtherByteTellsAnotherSum(t *testing.T) {
	for _, s := range append(texts(), strings.Repeat("\x00", 100), strings.Repeat("\xff", 100), text(300, 9)) {
		sum := Sum(s)
		for place := range len(s) {
			other := []byte(s)
			for turned := 1; turned <= 255; turned++ {
				other[place] = s[place] ^ byte(turned)
				if got := Sum(string(other)); got == sum {
					t.Fatalf("%s: the sum is %08x too, if the byte at place %d is %d", short(s), sum, place, other[place])
				}
			}
		}
	}
}

// In long texts of one bit, too, at some places, the first and the last one among them.
func TestOneOtherBitOfALongText(t *testing.T) {
	s := text(32780, 10)
	sum := Sum(s)
	for _, place := range []int{0, 1, 255, 256, 1023, 1024, 16384, 32767, 32768, len(s) - 2, len(s) - 1} {
		other := []byte(s)
		for bit := range 8 {
			other[place] = s[place] ^ 1<<bit
			if got := Sum(string(other)); got == sum || got != sumOf(string(other)) {
				t.Errorf("bit %d of the byte at place %d turned: %08x, without it %08x", bit, place, got, sum)
			}
		}
	}
}

// With the same bytes behind, unlike sums stay unlike.
func TestUnlikeSumsStayUnlike(t *testing.T) {
	for _, s := range texts() {
		from := map[uint32]uint32{}
		for _, sum := range sums() {
			got := Add(sum, s)
			if other, ok := from[got]; ok && other != sum {
				t.Errorf("Add(%08x, %s) and Add(%08x, the same): %08x", other, short(s), sum, got)
			}
			from[got] = sum
		}
	}
}

// R5: the same is answered when it is asked for again, whatever was asked in between.
func TestAskedAgain(t *testing.T) {
	for range 3 {
		for _, s := range texts() {
			want := sumOf(s)
			wantSum(t, s, want)
			wantSum(t, s, want)
			Add(want, "between")
			wantAdd(t, 0, s, want)
			wantSum(t, strings.Clone(s), want)
		}
		for _, sum := range sums() {
			want := addOf(sum, "again")
			wantAdd(t, sum, "again", want)
			Sum("between")
			wantAdd(t, sum, "again", want)
			wantAdd(t, sum, "", sum)
		}
	}
}
