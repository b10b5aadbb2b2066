package datagram

import (
	"fmt"
	"math"
	"slices"
	"strings"
	"testing"

	"lightship/api"
)

// sumTable is, of each byte, what the register is when it alone was taken by a register of 0.
var sumTable = func() (table [256]uint32) {
	for value := range table {
		register := uint32(value)
		for range 8 {
			if register%2 == 1 {
				register = register/2 ^ 0xedb88320
			} else {
				register /= 2
			}
		}
		table[value] = register
	}
	return table
}()

// sumOf is the Sum of chapter 7, byte by byte and not bit by bit.
func sumOf(s string) uint32 {
	register := uint32(math.MaxUint32)
	for _, value := range []byte(s) {
		register = sumTable[byte(register)^value] ^ register/256
	}
	return math.MaxUint32 - register
}

// laid are so many bytes of n, the last one divided off first.
func laid(n, size int) string {
	made := ""
	for range size {
		made = string([]byte{byte(n % 256)}) + made
		n /= 256
	}
	return made
}

// numberOf is the number of some bytes, the highest first.
func numberOf(s string) int {
	n := 0
	for _, value := range []byte(s) {
		n = n*256 + int(value)
	}
	return n
}

// signed is s with its right sum behind.
func signed(s string) string { return s + laid(int(sumOf(s)), 4) }

// raw is what a text has ahead of its sum.
func raw(mark string, kind, stream, block int, own string) string {
	return mark + laid(kind, 1) + laid(stream, 1) + laid(block, 4) + own
}

// ownOf are the bytes of the fields that just the kind has.
func ownOf(d api.Datagram) string {
	switch d.Kind {
	case 1, 2:
		return laid(d.Index, 1) + laid(d.K, 1) + laid(d.N, 1) + laid(d.Len-1, 2) + d.Body
	case 3:
		return d.Have
	case 4:
		return laid(d.Credit, 2)
	}
	return ""
}

// textOf is what Put has to answer of a datagram that may be.
func textOf(d api.Datagram) string {
	return signed(raw("LS", d.Kind, d.Stream, int(d.Block), ownOf(d)))
}

// shardError is Check's error of what Data and Repair alone have.
func shardError(d api.Datagram) api.Errno {
	if d.K <= 0 || d.K > 32 || d.N > 255 || d.N < d.K || d.Len <= 0 || d.Len > 32768 {
		return api.ErrRange
	}
	first, behind := 0, d.K
	if d.Kind == 2 {
		first, behind = d.K, d.N
	}
	if d.Index < first || d.Index >= behind {
		return api.ErrRange
	}
	size := d.Len / d.K
	if d.Len%d.K != 0 {
		size++
	}
	if len(d.Body) != size || size > 1024 {
		return api.ErrLong
	}
	return api.OK
}

// errorOf is what Check has to answer.
func errorOf(d api.Datagram) api.Errno {
	if d.Kind <= 0 || d.Kind >= 7 {
		return api.ErrArg
	}
	if d.Stream < 0 || d.Stream >= 256 {
		return api.ErrRange
	}
	shard, nack, ack := d.Kind <= 2, d.Kind == 3, d.Kind == 4
	if shard && shardError(d) != api.OK {
		return shardError(d)
	}
	if nack && len(d.Have) != 32 {
		return api.ErrForm
	}
	if ack && (d.Credit < 0 || d.Credit >= 65536) {
		return api.ErrRange
	}
	if !shard && (d.Index != 0 || d.K != 0 || d.N != 0 || d.Len != 0 || d.Body != "") || !nack && d.Have != "" || !ack && d.Credit != 0 {
		return api.ErrForm
	}
	return api.OK
}

// readOf is what Read has to answer.
func readOf(s string) (api.Datagram, api.Errno) {
	none := api.Datagram{}
	if len(s) <= 11 {
		return none, api.ErrCut
	}
	ahead := s[:len(s)-4]
	if signed(ahead) != s {
		return none, api.ErrSum
	}
	if ahead[:2] != "LS" {
		return none, api.ErrForm
	}
	kind, own := numberOf(ahead[2:3]), ahead[8:]
	if kind == 0 || kind > 6 {
		return none, api.ErrArg
	}
	least := []int{0, 5, 5, 32, 2, 0, 0}[kind]
	if len(own) < least {
		return none, api.ErrCut
	}
	if kind > 2 && len(own) > least {
		return none, api.ErrForm
	}
	d := api.Datagram{Kind: kind, Stream: numberOf(ahead[3:4]), Block: uint32(numberOf(ahead[4:8]))}
	switch kind {
	case 1, 2:
		d.Index, d.K, d.N, d.Len, d.Body = numberOf(own[:1]), numberOf(own[1:2]), numberOf(own[2:3]), numberOf(own[3:5])+1, own[5:]
	case 3:
		d.Have = own
	case 4:
		d.Credit = numberOf(own)
	}
	if err := errorOf(d); err != api.OK {
		return none, err
	}
	return d, api.OK
}

// text is a text of so many bytes in no order, another one for each seed.
func text(size int, seed uint32) string {
	made := make([]byte, size)
	state := seed*2654435761 + 12345
	for i := range made {
		state = state*1664525 + 1013904223
		made[i] = byte(state >> 16)
	}
	return string(made)
}

// long is a text of more bytes than any Body has.
var long = text(70000, 1)

func kinds() []int { return []int{1, 2, 3, 4, 5, 6} }

// noKinds are numbers of no kind; of some of them the last 8, 16 or 32 bits are a kind's.
func noKinds() []int {
	l := append(farNumbers(), -1, 0, 7, 255, 256, math.MaxInt, math.MinInt)
	for n := -300; n <= 1100; n++ {
		if n < 1 || n > 6 {
			l = append(l, n)
		}
	}
	return l
}

// farNumbers are the greatest and the least ints, and those whose last 8, 16 or 32 bits are a small number.
func farNumbers() []int {
	l := []int{math.MaxInt, math.MaxInt - 1, math.MinInt, math.MinInt + 1}
	for _, n := range []int{0, 1, 2, 3, 4, 5, 6, 7, 32} {
		for _, base := range []int{math.MinInt, -1 << 62, -1 << 32, -1 << 31, -1 << 16, 1 << 16, 1 << 31, 1 << 32, 1<<32 + 1<<16, 1 << 62} {
			l = append(l, base+n)
		}
	}
	return l
}

func streams() []int { return []int{0, 1, 2, 7, 76, 83, 127, 128, 200, 254, 255} }

func blocks() []uint32 {
	return []uint32{0, 1, 2, 127, 128, 255, 256, 257, 300, 65535, 65536, 66051, 1<<24 - 1, 1 << 24, 16909060, 1<<31 - 1, 1 << 31, 1<<31 + 1, 3000000000, 1<<32 - 256, 1<<32 - 2, 1<<32 - 1}
}

// haves are some of 32 bytes.
func haves() []string {
	l := []string{
		strings.Repeat("\x00", 32), strings.Repeat("\xff", 32), strings.Repeat("LS", 16), strings.Repeat("\xc3\xa4", 16), strings.Repeat("\xe2\x82\xac\x21", 8), strings.Repeat("\xff\x00", 16),
		"\x01" + strings.Repeat("\x00", 31), strings.Repeat("\x00", 31) + "\x80", strings.Repeat("\xff", 31) + "\x7f", "abcdefghijklmnopqrstuvwxyz\n\r\t \x00\x01",
	}
	for seed := range uint32(20) {
		l = append(l, text(32, seed))
	}
	return l
}

func credits() []int {
	return []int{0, 1, 2, 127, 128, 255, 256, 257, 258, 1000, 32767, 32768, 65279, 65280, 65534, 65535}
}

// sizeOf is how many bytes a shard has.
func sizeOf(length, k int) int { return int(math.Ceil(float64(length) / float64(k))) }

// shard is a datagram of Data or Repair with a Body as long as it has to be.
func shard(kind, index, k, n, length int) api.Datagram {
	return api.Datagram{Kind: kind, Index: index, K: k, N: n, Len: length, Body: text(sizeOf(length, k), uint32(length+index))}
}

// places are the edges of Index of a kind, and one between.
func places(kind, k, n int) []int {
	if kind == 1 {
		return []int{0, k / 2, k - 1}
	}
	if n == k {
		return nil
	}
	return []int{k, (k + n) / 2, n - 1}
}

// lengths are some of Len of which a shard is not too long.
func lengths(k int) []int {
	l := []int{1, 2, 3, 100, 127, 128, 255, 256, 257, 511, 512, 1000, 1023, 1024, 1025, 4660, 32767, 32768, k, k + 1, 2*k - 1, 2 * k, 2*k + 1, k*1024 - 1, k * 1024, k*1023 + 1, k * 1023}
	return slices.DeleteFunc(l, func(n int) bool { return n < 1 || n > k*1024 || n > 32768 })
}

// shards are of Data and Repair all edges, and between.
func shards() []api.Datagram {
	var l []api.Datagram
	for _, kind := range []int{1, 2} {
		for _, k := range []int{1, 2, 3, 10, 31, 32} {
			for _, n := range []int{k, k + 1, 2 * k, 127, 128, 254, 255} {
				for _, index := range places(kind, k, n) {
					length := lengths(k)[(index+n)%len(lengths(k))]
					l = append(l, shard(kind, index, k, n, length))
				}
			}
			for i, length := range lengths(k) {
				l = append(l, shard(kind, places(kind, k, 255)[i%3], k, 255, length))
			}
		}
	}
	return l
}

// fit are datagrams of all kinds that may be.
func fit() []api.Datagram {
	l := shards()
	for _, have := range haves() {
		l = append(l, api.Datagram{Kind: 3, Have: have})
	}
	for _, credit := range credits() {
		l = append(l, api.Datagram{Kind: 4, Credit: credit})
	}
	for i := range l {
		l[i].Stream, l[i].Block = streams()[i%len(streams())], blocks()[i%len(blocks())]
	}
	for _, d := range ordinary() {
		for _, d.Stream = range streams() {
			for _, d.Block = range blocks() {
				l = append(l, d)
			}
		}
	}
	return l
}

// ordinary is one datagram of each kind.
func ordinary() []api.Datagram {
	return []api.Datagram{
		{Kind: 1, Stream: 2, Block: 5, Index: 1, K: 3, N: 5, Len: 10, Body: "abcd"},
		{Kind: 2, Stream: 9, Block: 66051, Index: 4, K: 3, N: 5, Len: 9, Body: "xyz"},
		{Kind: 3, Stream: 200, Block: 7, Have: text(32, 2)},
		{Kind: 4, Stream: 1, Block: 70000, Credit: 258},
		{Kind: 5, Stream: 3, Block: 1 << 31},
		{Kind: 6, Stream: 4, Block: 300},
	}
}

// small are those of fit that have no long Body.
func small() []api.Datagram {
	return slices.DeleteFunc(fit(), func(d api.Datagram) bool { return len(d.Body) > 40 })
}

// few are some of those, of all kinds, and two with the longest Body.
func few() []api.Datagram {
	l := ordinary()
	for i, d := range small() {
		if i%23 == 0 {
			l = append(l, d)
		}
	}
	return append(l, shard(1, 31, 32, 40, 32768), shard(2, 254, 1, 255, 1024))
}

func name(d api.Datagram) string {
	size := len(d.Body)
	d.Body = d.Body[:min(size, 20)]
	return fmt.Sprintf("%+q with %d bytes of Body", fmt.Sprintf("%+v", d), size)
}

func wantCheck(t *testing.T, d api.Datagram, want api.Errno) {
	t.Helper()
	if got := Check(d); got != want {
		t.Errorf("Check of %s: %d, want %d", name(d), got, want)
	}
}

// wantUnfit holds Check, Put and Size of a datagram that may not be.
func wantUnfit(t *testing.T, d api.Datagram, want api.Errno) {
	t.Helper()
	wantCheck(t, d, want)
	if got, err := Put(d); got != "" || err != want {
		t.Errorf("Put of %s: %.60q, %d, want no bytes, %d", name(d), got, err, want)
	}
	if got := Size(d); got != 0 {
		t.Errorf("Size of %s: %d, want 0", name(d), got)
	}
}

// wantPut holds Check, Put and Size of a datagram that may be.
func wantPut(t *testing.T, d api.Datagram, want string) {
	t.Helper()
	wantCheck(t, d, api.OK)
	if got, err := Put(d); got != want || err != api.OK {
		t.Errorf("Put of %s: %.60q, %d, want %.60q, OK", name(d), got, err, want)
	}
	if got := Size(d); got != len(want) {
		t.Errorf("Size of %s: %d, want %d", name(d), got, len(want))
	}
}

func wantRead(t *testing.T, s string, want api.Datagram) {
	t.Helper()
	if got, err := Read(s); got != want || err != api.OK {
		t.Errorf("Read of %.60q: %s, %d, want %s, OK", s, name(got), err, name(want))
	}
}

// wantNoRead: beside an error, the zero datagram.
func wantNoRead(t *testing.T, s string, want api.Errno) {
	t.Helper()
	if got, err := Read(s); got != (api.Datagram{}) || err != want {
		t.Errorf("Read of %.60q: %s, %d, want the zero one, %d", s, name(got), err, want)
	}
}

// wantModel holds Read to the model.
func wantModel(t *testing.T, s string) {
	t.Helper()
	if d, err := readOf(s); err == api.OK {
		wantRead(t, s, d)
	} else {
		wantNoRead(t, s, err)
	}
}

// Promise 10.1: a datagram of each kind that may be.

func TestTheTestsOwnReckoning(t *testing.T) {
	for _, x := range []struct {
		s   string
		sum uint32
	}{{"", 0}, {"123456789", 0xcbf43926}, {"LS\x05\x00\x00\x00\x00\x00", 0x59e06a52}} {
		if got := sumOf(x.s); got != x.sum {
			t.Errorf("the sum of %q: %x, want %x", x.s, got, x.sum)
		}
	}
	for _, d := range fit() {
		if errorOf(d) != api.OK {
			t.Errorf("%s is among those that may be", name(d))
		}
		if got, err := readOf(textOf(d)); got != d || err != api.OK {
			t.Errorf("%s: the model reads %s, %d", name(d), name(got), err)
		}
	}
}

func TestCheckOfEachKind(t *testing.T) {
	for _, d := range []api.Datagram{
		{Kind: api.Data, K: 1, N: 1, Len: 1, Body: "a"},
		{Kind: api.Data, Stream: 255, Block: 1<<32 - 1, Index: 31, K: 32, N: 255, Len: 32768, Body: long[:1024]},
		{Kind: api.Data, Stream: 1, Block: 2, Index: 1, K: 2, N: 3, Len: 5, Body: "abc"},
		{Kind: api.Repair, Index: 1, K: 1, N: 2, Len: 1, Body: "a"},
		{Kind: api.Repair, Stream: 255, Block: 1<<32 - 1, Index: 254, K: 32, N: 255, Len: 32768, Body: long[:1024]},
		{Kind: api.Repair, Stream: 1, Block: 2, Index: 2, K: 2, N: 3, Len: 5, Body: "\x00\x00\x00"},
		{Kind: api.Nack, Have: strings.Repeat("\x00", 32)},
		{Kind: api.Nack, Stream: 255, Block: 9, Have: long[:32]},
		{Kind: api.Ack},
		{Kind: api.Ack, Stream: 17, Block: 9, Credit: 65535},
		{Kind: api.Fin},
		{Kind: api.Fin, Stream: 255, Block: 1<<32 - 1},
		{Kind: api.Rst},
		{Kind: api.Rst, Stream: 255, Block: 1<<32 - 1},
	} {
		wantCheck(t, d, api.OK)
	}
	for _, d := range fit() {
		wantCheck(t, d, api.OK)
	}
}

// Promise 10.1: ErrArg, first of all.

func TestNoKind(t *testing.T) {
	for _, kind := range noKinds() {
		for _, d := range append(ordinary(), api.Datagram{}) {
			d.Kind = kind
			wantUnfit(t, d, api.ErrArg)
			d.Stream = -1
			wantUnfit(t, d, api.ErrArg)
			d.Stream, d.K, d.Len, d.Credit, d.Have = 256, 0, math.MinInt, 65536, "x"
			wantUnfit(t, d, api.ErrArg)
			d.Body, d.N, d.Index = long, math.MaxInt, -1
			wantUnfit(t, d, api.ErrArg)
		}
	}
}

// Promise 10.1: ErrRange of Stream.

func TestStream(t *testing.T) {
	for _, d := range ordinary() {
		for stream := -300; stream < 600; stream++ {
			d.Stream = stream
			if stream >= 0 && stream <= 255 {
				wantCheck(t, d, api.OK)
			} else {
				wantUnfit(t, d, api.ErrRange)
			}
		}
		for _, d.Stream = range append(farNumbers(), -1, 256, math.MaxInt, math.MinInt) {
			wantUnfit(t, d, api.ErrRange)
		}
	}
}

// All blocks may be.
func TestBlock(t *testing.T) {
	for _, d := range ordinary() {
		for i := range 32 {
			for _, d.Block = range []uint32{1 << i, 1<<i - 1, -(1 << i), ^uint32(1 << i)} {
				wantPut(t, d, textOf(d))
			}
		}
	}
}

// Promise 10.1: ErrRange of K, N, Index and Len.

func TestK(t *testing.T) {
	for _, kind := range []int{1, 2} {
		for k := -40; k <= 300; k++ {
			d := shard(kind, 0, max(k, 1), 255, 100)
			d.K = k
			if kind == 2 {
				d.Index = k
			}
			if k >= 1 && k <= 32 {
				wantCheck(t, d, api.OK)
			} else {
				wantUnfit(t, d, api.ErrRange)
			}
		}
		for _, k := range append(farNumbers(), -1, 0, 33, math.MaxInt, math.MinInt) {
			for _, index := range []int{0, 1, 32, 100, k, k - 1} {
				for _, n := range []int{100, 255, k, k + 1, math.MaxInt} {
					for _, length := range []int{1, 100, 32768} {
						wantUnfit(t, api.Datagram{Kind: kind, Index: index, K: k, N: n, Len: length, Body: long[:1]}, api.ErrRange)
						wantUnfit(t, api.Datagram{Kind: kind, Index: index, K: k, N: n, Len: length}, api.ErrRange)
					}
				}
			}
		}
	}
}

func TestN(t *testing.T) {
	for k := 1; k <= 32; k++ {
		d := shard(1, k-1, k, 255, 100)
		for _, d.N = range append(farNumbers(), -1, 0, k-1, 256, 257, 512, math.MaxInt, math.MinInt) {
			if d.N < k || d.N > 255 {
				wantUnfit(t, d, api.ErrRange)
				d.Kind, d.Index = 2, k
				wantUnfit(t, d, api.ErrRange)
				d.Kind, d.Index = 1, 0
				wantUnfit(t, d, api.ErrRange)
			}
		}
		for n := k; n <= 255; n++ {
			wantCheck(t, shard(1, k-1, k, n, 100), api.OK)
			if n > k {
				wantCheck(t, shard(2, k, k, n, 100), api.OK)
			}
		}
	}
}

func TestIndex(t *testing.T) {
	for _, x := range []struct{ k, n int }{{1, 1}, {1, 2}, {2, 3}, {5, 5}, {5, 6}, {5, 20}, {31, 200}, {32, 32}, {32, 33}, {1, 255}, {32, 255}} {
		for _, index := range append(farNumbers(), -1, 0, x.k-1, x.k, x.n-1, x.n, x.n+1, 254, 255, 256, math.MaxInt, math.MinInt) {
			data, repair := shard(1, 0, x.k, x.n, 100), shard(2, x.k, x.k, x.n, 100)
			data.Index, repair.Index = index, index
			if index >= 0 && index < x.k {
				wantCheck(t, data, api.OK)
			} else {
				wantUnfit(t, data, api.ErrRange)
			}
			if index >= x.k && index < x.n {
				wantCheck(t, repair, api.OK)
			} else {
				wantUnfit(t, repair, api.ErrRange)
			}
		}
	}
}

// All K, N and Index of one byte.
func TestAllKAndNAndIndex(t *testing.T) {
	for k := -1; k <= 34; k++ {
		d := api.Datagram{K: k, Len: 1, Body: "a"}
		for d.N = -1; d.N <= 257; d.N++ {
			for d.Index = -1; d.Index <= 257; d.Index++ {
				for _, d.Kind = range []int{1, 2} {
					if got, want := Check(d), errorOf(d); got != want {
						t.Fatalf("Check of %s: %d, want %d", name(d), got, want)
					}
				}
			}
		}
	}
}

func TestLen(t *testing.T) {
	for _, d := range []api.Datagram{shard(1, 31, 32, 255, 32), shard(2, 32, 32, 255, 32), shard(1, 0, 1, 1, 1), shard(2, 1, 1, 2, 1), shard(1, 4, 5, 9, 3)} {
		wantCheck(t, d, api.OK)
		for _, d.Len = range append(farNumbers(), -1, 0, 32769, 32770, 65536, 65537, -31, -32, -33, math.MaxInt, math.MaxInt-31, math.MinInt) {
			for _, d.Body = range []string{"", "a", long[:1024], long[:1025]} {
				wantUnfit(t, d, api.ErrRange)
			}
		}
	}
	for _, kind := range []int{1, 2} {
		for _, length := range []int{1, 2, 1024, 32767, 32768} {
			wantCheck(t, shard(kind, 32*(kind-1), 32, 33, length), api.OK)
		}
	}
}

// Promise 10.1: ErrLong.

func TestBody(t *testing.T) {
	for _, x := range []struct{ k, length, size int }{
		{1, 1, 1}, {1, 2, 2}, {1, 1023, 1023}, {1, 1024, 1024}, {2, 1, 1}, {2, 2, 1}, {2, 3, 2}, {2, 4, 2}, {2, 2047, 1024}, {2, 2048, 1024}, {3, 1, 1}, {3, 3, 1}, {3, 4, 2}, {3, 5, 2}, {3, 6, 2}, {3, 7, 3},
		{10, 100, 10}, {10, 101, 11}, {10, 109, 11}, {10, 110, 11}, {31, 31, 1}, {31, 32, 2}, {31, 31743, 1024}, {31, 31744, 1024}, {32, 1, 1}, {32, 31, 1}, {32, 32, 1}, {32, 33, 2}, {32, 32736, 1023}, {32, 32737, 1024}, {32, 32767, 1024}, {32, 32768, 1024},
	} {
		for _, kind := range []int{1, 2} {
			d := shard(kind, x.k*(kind-1), x.k, x.k+1, x.length)
			for _, size := range []int{0, 1, x.size - 2, x.size - 1, x.size, x.size + 1, x.size + 2, x.size * 2, x.length, x.size + 256, 1024, 1025, 65536 + x.size} {
				if size < 0 {
					continue
				}
				d.Body = long[:size]
				if size == x.size {
					wantPut(t, d, textOf(d))
				} else {
					wantUnfit(t, d, api.ErrLong)
				}
			}
		}
	}
}

// Of some lengths a shard is too long, whatever Body has.
func TestBodyOfMoreThanMaxSize(t *testing.T) {
	for k := 1; k < 32; k++ {
		for _, length := range []int{k*1024 + 1, k*1024 + 2, k * 1025, k*1025 + 1, 32767, 32768} {
			if length > 32768 || length <= k*1024 {
				continue
			}
			for _, kind := range []int{1, 2} {
				d := shard(kind, k*(kind-1), k, 40, length)
				for _, size := range []int{0, 1, 1023, 1024, 1025, sizeOf(length, k) - 1, sizeOf(length, k), sizeOf(length, k) + 1} {
					d.Body = long[:size]
					wantUnfit(t, d, api.ErrLong)
				}
			}
		}
	}
}

func TestAllLengths(t *testing.T) {
	for _, k := range []int{1, 2, 3, 7, 16, 31, 32} {
		for length := -2; length <= 32800; length++ {
			size := max(sizeOf(length, k), 1)
			for _, d := range []api.Datagram{{Kind: 1, K: k, N: 40, Len: length}, {Kind: 2, Index: 39, K: k, N: 40, Len: length}} {
				for _, d.Body = range []string{long[:size-1], long[:size], long[:size+1]} {
					if got, want := Check(d), errorOf(d); got != want {
						t.Fatalf("Check of %s: %d, want %d", name(d), got, want)
					}
				}
			}
		}
	}
}

// Promise 10.1: of Nack and Ack.

func TestHave(t *testing.T) {
	d := api.Datagram{Kind: 3, Stream: 5, Block: 6}
	for size := range 400 {
		for _, d.Have = range []string{long[:size], strings.Repeat("\x00", size)} {
			if size == 32 {
				wantCheck(t, d, api.OK)
			} else {
				wantUnfit(t, d, api.ErrForm)
			}
		}
	}
	for _, size := range []int{0, 31, 33, 1024, 32 + 256, 65536, 65536 + 32} {
		d.Have = long[:size]
		wantUnfit(t, d, api.ErrForm)
	}
	for _, d.Have = range haves() {
		wantCheck(t, d, api.OK)
	}
}

// What counts is bytes, not runes.
func TestHaveOfRunes(t *testing.T) {
	d := api.Datagram{Kind: 3, Have: strings.Repeat("\xc3\xa4", 16)}
	wantCheck(t, d, api.OK)
	d.Have = strings.Repeat("\xc3\xa4", 32)
	wantUnfit(t, d, api.ErrForm)
}

func TestCredit(t *testing.T) {
	d := api.Datagram{Kind: 4, Stream: 5, Block: 6}
	for d.Credit = range 65536 {
		if Check(d) != api.OK {
			t.Errorf("Check of %s is an error", name(d))
		}
	}
	for _, d.Credit = range []int{0, 65535} {
		wantCheck(t, d, api.OK)
	}
	for _, d.Credit = range append(farNumbers(), -1, -2, -255, -256, -65535, -65536, 65536, 65537, 131071, 131072, math.MaxInt, math.MinInt) {
		wantUnfit(t, d, api.ErrRange)
	}
}

// Promise 10.1: ErrForm of what a kind has not.

// stray is a field that some kinds have not, and what it may be set to.
type stray struct {
	kinds []int // those that have it not
	set   func(d *api.Datagram, seed int)
}

// strayNumber is one of some numbers that are not 0.
func strayNumber(seed int) int {
	l := append(farNumbers(), -1, 1, 2, 5, 255, 256, 65535, 65536, math.MaxInt, math.MinInt)
	return l[seed%len(l)]
}

// strayText is one of some texts that are not empty.
func strayText(seed int) string {
	l := []string{"\x00", "a", "\xff", long[:31], long[:32], long[:33], strings.Repeat("\x00", 32), long[:1024], long[:1025], "LS"}
	return l[seed%len(l)]
}

func strays() map[string]stray {
	other := []int{3, 4, 5, 6}
	return map[string]stray{
		"Index":  {other, func(d *api.Datagram, seed int) { d.Index = strayNumber(seed) }},
		"K":      {other, func(d *api.Datagram, seed int) { d.K = strayNumber(seed) }},
		"N":      {other, func(d *api.Datagram, seed int) { d.N = strayNumber(seed) }},
		"Len":    {other, func(d *api.Datagram, seed int) { d.Len = strayNumber(seed) }},
		"Body":   {other, func(d *api.Datagram, seed int) { d.Body = strayText(seed) }},
		"Credit": {[]int{1, 2, 3, 5, 6}, func(d *api.Datagram, seed int) { d.Credit = strayNumber(seed) }},
		"Have":   {[]int{1, 2, 4, 5, 6}, func(d *api.Datagram, seed int) { d.Have = strayText(seed) }},
	}
}

func TestJustOneStrayField(t *testing.T) {
	many := 0
	for _, x := range strays() {
		for _, d := range ordinary() {
			if !slices.Contains(x.kinds, d.Kind) {
				continue
			}
			many++
			for seed := range 120 {
				wrong := d
				x.set(&wrong, seed)
				wantUnfit(t, wrong, api.ErrForm)
			}
		}
	}
	if many != 30 {
		t.Errorf("%d fields that kinds have not, want 30", many)
	}
}

// What one kind has, and no more, is none of another one, but where both have the same.
func TestFieldsOfAnotherKind(t *testing.T) {
	for _, d := range fit() {
		for _, d.Kind = range kinds() {
			if got, want := Check(d), errorOf(d); got != want {
				t.Errorf("Check of %s: %d, want %d", name(d), got, want)
			}
		}
	}
	wantUnfit(t, api.Datagram{Kind: 5, K: 1, N: 1, Len: 1, Body: "a"}, api.ErrForm)
	wantUnfit(t, api.Datagram{Kind: 6, Have: long[:32]}, api.ErrForm)
	wantUnfit(t, api.Datagram{Kind: 5, Credit: 1}, api.ErrForm)
	wantUnfit(t, api.Datagram{Kind: 4, Have: long[:32]}, api.ErrForm)
	wantUnfit(t, api.Datagram{Kind: 3, Credit: 1}, api.ErrForm)
	wantUnfit(t, api.Datagram{Kind: 1, Index: 1, K: 1, N: 2, Len: 1, Body: "a"}, api.ErrRange)
	wantUnfit(t, api.Datagram{Kind: 2, Index: 0, K: 1, N: 2, Len: 1, Body: "a"}, api.ErrRange)
}

// Promise 10.1: of two errors the first one.

// fault makes a datagram one that may not be.
type fault struct {
	err api.Errno
	set func(d *api.Datagram)
}

// faults are, of a datagram of a kind, those that are asked for at the same time, in the order in which they are.
func faults(kind int) [][]fault {
	no := fault{api.OK, func(*api.Datagram) {}}
	args, ranges, forms := []fault{no}, []fault{no}, []fault{no}
	for _, n := range []int{-1, 0, 7, 255, 256, math.MaxInt, math.MinInt} {
		args = append(args, fault{api.ErrArg, func(d *api.Datagram) { d.Kind = n }})
	}
	for _, n := range []int{-1, 256, math.MaxInt, math.MinInt} {
		ranges = append(ranges, fault{api.ErrRange, func(d *api.Datagram) { d.Stream = n }})
	}
	for _, x := range strays() {
		if slices.Contains(x.kinds, kind) {
			forms = append(forms, fault{api.ErrForm, func(d *api.Datagram) { x.set(d, 0) }}, fault{api.ErrForm, func(d *api.Datagram) { x.set(d, 97) }})
		}
	}
	switch kind {
	case 1, 2:
		return [][]fault{args, ranges, append(shardRanges(), no), append(bodies(), no), forms}
	case 3:
		return [][]fault{args, ranges, append(haveForms(), no), forms}
	case 4:
		return [][]fault{args, ranges, append(creditRanges(), no), forms}
	}
	return [][]fault{args, ranges, forms}
}

func shardRanges() []fault {
	var l []fault
	for _, n := range []int{-1, 0, 33, math.MaxInt, math.MinInt} {
		l = append(l, fault{api.ErrRange, func(d *api.Datagram) { d.K = n }})
	}
	for _, n := range []int{-1, 2, 256, math.MaxInt, math.MinInt} {
		l = append(l, fault{api.ErrRange, func(d *api.Datagram) { d.N = n }})
	}
	for _, n := range []int{-1, 5, 256, math.MaxInt, math.MinInt} {
		l = append(l, fault{api.ErrRange, func(d *api.Datagram) { d.Index = n }})
	}
	for _, n := range []int{-1, 0, 32769, math.MaxInt, math.MinInt} {
		l = append(l, fault{api.ErrRange, func(d *api.Datagram) { d.Len = n }})
	}
	return append(l, fault{api.ErrRange, func(d *api.Datagram) { d.Index = 7 - d.K - d.Index }}) // where K is 3: of Data's 1 it is Repair's 3, and of Repair's 4 Data's 0
}

func bodies() []fault {
	var l []fault
	for _, body := range []string{"", "a", "ab", "abcde", long[:1024], long[:1025]} {
		l = append(l, fault{api.ErrLong, func(d *api.Datagram) { d.Body = body }})
	}
	return l
}

func haveForms() []fault {
	var l []fault
	for _, size := range []int{0, 31, 33} {
		l = append(l, fault{api.ErrForm, func(d *api.Datagram) { d.Have = long[:size] }})
	}
	return l
}

func creditRanges() []fault {
	var l []fault
	for _, n := range []int{-1, 65536, math.MaxInt, math.MinInt} {
		l = append(l, fault{api.ErrRange, func(d *api.Datagram) { d.Credit = n }})
	}
	return l
}

// Where those of several places apply, that of the first place is told.
func TestTheFirstOfSomeErrors(t *testing.T) {
	for _, d := range ordinary() {
		tellAll(t, d, faults(d.Kind), api.OK)
	}
}

// tellAll holds Check to all ways to take one fault of each of the places, the first of which was found already.
func tellAll(t *testing.T, d api.Datagram, l [][]fault, want api.Errno) {
	t.Helper()
	if len(l) == 0 {
		wantCheck(t, d, want)
		return
	}
	for _, x := range l[0] {
		wrong := d
		x.set(&wrong)
		err := want
		if err == api.OK {
			err = x.err
		}
		tellAll(t, wrong, l[1:], err)
	}
}

// Promise 10.2: Put.

func TestPut(t *testing.T) {
	for _, x := range []struct {
		d    api.Datagram
		want string
	}{
		{api.Datagram{Kind: api.Fin}, "LS\x05\x00\x00\x00\x00\x00\x59\xe0\x6a\x52"}, // the chapter's example: 12 bytes
		{api.Datagram{Kind: api.Fin, Stream: 7, Block: 9}, "LS\x05\x07\x00\x00\x00\x09\x92\x1c\x0e\xe6"},
		{api.Datagram{Kind: api.Rst, Stream: 255, Block: 1<<32 - 1}, "LS\x06\xff\xff\xff\xff\xff\xcb\xab\xff\x93"},
		{api.Datagram{Kind: api.Ack, Stream: 3, Block: 258, Credit: 258}, "LS\x04\x03\x00\x00\x01\x02\x01\x02\xd5\x5c\x05\xea"},
		{api.Datagram{Kind: api.Data, Stream: 2, Block: 5, K: 2, N: 4, Len: 5, Body: "abc"}, "LS\x01\x02\x00\x00\x00\x05\x00\x02\x04\x00\x04abc\x04\xce\xad\xe6"},
		{api.Datagram{Kind: api.Repair, Stream: 2, Block: 5, Index: 3, K: 2, N: 4, Len: 5, Body: "xyz"}, "LS\x02\x02\x00\x00\x00\x05\x03\x02\x04\x00\x04xyz\x28\x8a\x74\x7b"},
		{api.Datagram{Kind: api.Nack, Block: 1 << 31, Have: "\x00\x01\x02\x03\x04\x05\x06\x07\x08\x09\x0a\x0b\x0c\x0d\x0e\x0f\x10\x11\x12\x13\x14\x15\x16\x17\x18\x19\x1a\x1b\x1c\x1d\x1e\x1f"},
			"LS\x03\x00\x80\x00\x00\x00\x00\x01\x02\x03\x04\x05\x06\x07\x08\x09\x0a\x0b\x0c\x0d\x0e\x0f\x10\x11\x12\x13\x14\x15\x16\x17\x18\x19\x1a\x1b\x1c\x1d\x1e\x1f\xaa\x9c\xd3\xfa"},
	} {
		wantPut(t, x.d, x.want)
		wantRead(t, x.want, x.d)
	}
}

// Each field for itself at its bytes, told by hand but for the sum.
func TestPutOfEdges(t *testing.T) {
	a := long[:1]
	for _, x := range []struct {
		d    api.Datagram
		want string
	}{
		{api.Datagram{Kind: 5, Block: 0}, "LS\x05\x00\x00\x00\x00\x00"},
		{api.Datagram{Kind: 5, Block: 255}, "LS\x05\x00\x00\x00\x00\xff"},
		{api.Datagram{Kind: 5, Block: 256}, "LS\x05\x00\x00\x00\x01\x00"},
		{api.Datagram{Kind: 5, Block: 1 << 31}, "LS\x05\x00\x80\x00\x00\x00"},
		{api.Datagram{Kind: 5, Block: 1<<32 - 1}, "LS\x05\x00\xff\xff\xff\xff"},
		{api.Datagram{Kind: 6, Stream: 128, Block: 16909060}, "LS\x06\x80\x01\x02\x03\x04"},
		{api.Datagram{Kind: 4, Credit: 0}, "LS\x04\x00\x00\x00\x00\x00\x00\x00"},
		{api.Datagram{Kind: 4, Credit: 255}, "LS\x04\x00\x00\x00\x00\x00\x00\xff"},
		{api.Datagram{Kind: 4, Credit: 256}, "LS\x04\x00\x00\x00\x00\x00\x01\x00"},
		{api.Datagram{Kind: 4, Credit: 65535}, "LS\x04\x00\x00\x00\x00\x00\xff\xff"},
		{api.Datagram{Kind: 1, K: 1, N: 1, Len: 1, Body: a}, "LS\x01\x00\x00\x00\x00\x00\x00\x01\x01\x00\x00" + a},
		{api.Datagram{Kind: 1, K: 1, N: 255, Len: 256, Body: long[:256]}, "LS\x01\x00\x00\x00\x00\x00\x00\x01\xff\x00\xff" + long[:256]},
		{api.Datagram{Kind: 1, Index: 1, K: 2, N: 2, Len: 257, Body: long[:129]}, "LS\x01\x00\x00\x00\x00\x00\x01\x02\x02\x01\x00" + long[:129]},
		{api.Datagram{Kind: 1, Index: 31, K: 32, N: 32, Len: 32768, Body: long[:1024]}, "LS\x01\x00\x00\x00\x00\x00\x1f\x20\x20\x7f\xff" + long[:1024]},
		{api.Datagram{Kind: 2, Index: 1, K: 1, N: 2, Len: 1, Body: a}, "LS\x02\x00\x00\x00\x00\x00\x01\x01\x02\x00\x00" + a},
		{api.Datagram{Kind: 2, Index: 254, K: 32, N: 255, Len: 32768, Body: long[:1024]}, "LS\x02\x00\x00\x00\x00\x00\xfe\x20\xff\x7f\xff" + long[:1024]},
	} {
		wantPut(t, x.d, signed(x.want))
		wantRead(t, signed(x.want), x.d)
	}
}

func TestPutAndSizeOfAll(t *testing.T) {
	for _, d := range fit() {
		wantPut(t, d, textOf(d))
	}
}

func TestSize(t *testing.T) {
	for i, want := range []int{21, 20, 44, 14, 12, 12} {
		if got := Size(ordinary()[i]); got != want {
			t.Errorf("Size of %s: %d, want %d", name(ordinary()[i]), got, want)
		}
	}
	for size := 1; size <= 1024; size++ {
		for _, d := range []api.Datagram{shard(1, 0, 1, 1, size), shard(2, 40, 32, 41, 32*size), shard(2, 40, 32, 41, 32*size-31)} {
			if got := Size(d); got != 17+size {
				t.Errorf("Size of %s: %d, want %d", name(d), got, 17+size)
			}
		}
	}
}

// The sum has 4 bytes where it is a small number too.
func TestSmallSums(t *testing.T) {
	many := 0
	for block := range uint32(1 << 18) {
		d := api.Datagram{Kind: 5, Block: block}
		sum := sumOf(raw("LS", 5, 0, int(block), ""))
		if sum < 1<<18 || sum%(1<<16) == 0 || sum > math.MaxUint32-1<<16 {
			many++
			wantPut(t, d, textOf(d))
			wantRead(t, textOf(d), d)
		}
	}
	if many == 0 {
		t.Error("no such sum was found")
	}
}

// Promise 10.2: Put's error, and Size of one that may not be.

func TestPutOfUnfit(t *testing.T) {
	for _, d := range ordinary() {
		for _, place := range faults(d.Kind) {
			for _, x := range place {
				wrong := d
				x.set(&wrong)
				if x.err != api.OK {
					wantUnfit(t, wrong, x.err)
				}
			}
		}
	}
	wantUnfit(t, api.Datagram{}, api.ErrArg)
}

// Promise 10.2: Read of what may be.

func TestReadOfAll(t *testing.T) {
	for _, d := range fit() {
		wantRead(t, textOf(d), d)
	}
}

// Promise 10.2: Read's ErrCut of fewer than 12 bytes.

func TestReadOfFewerThan12Bytes(t *testing.T) {
	for size := range 12 {
		for _, s := range []string{strings.Repeat("\x00", size), strings.Repeat("\xff", size), text(size, 3), "LS\x05\x00\x00\x00\x00\x00\x59\xe0\x6a\x52"[:size], "LS\x07abcdefgh"[:size], "abcdefghijk"[:size]} {
			wantNoRead(t, s, api.ErrCut)
		}
		for _, s := range []string{"LS\x05\x00\x00\x00\x00", "LS\x07\x00\x00\x00\x00", "\x00\x00\x00\x00\x00\x00\x00", "LX\x05\x00\x00\x00\x00"} {
			if size >= 4 {
				wantNoRead(t, signed(s[:size-4]), api.ErrCut)
			}
		}
	}
	for _, d := range few() {
		for size := range 12 {
			wantNoRead(t, textOf(d)[:size], api.ErrCut)
		}
	}
}

// Promise 10.2: ErrSum.

func TestReadWithAnotherByte(t *testing.T) {
	for _, d := range few() {
		s := []byte(textOf(d))
		step := 1
		if len(s) > 100 {
			step = 61
		}
		for place, was := range s {
			for turned := 1; turned < 256; turned += step {
				s[place] = was ^ byte(turned)
				wantNoRead(t, string(s), api.ErrSum)
			}
			s[place] = was
		}
	}
}

// Of no length, kind or byte is a sum that is wrong let through, whichever of its bits are turned.
func TestReadWithAnotherSum(t *testing.T) {
	for _, d := range ordinary() {
		s := textOf(d)
		ahead, sum := s[:len(s)-4], sumOf(s[:len(s)-4])
		for i := range 32 {
			for _, other := range []uint32{sum ^ 1<<i, sum + 1<<i, sum - 1<<i, ^(sum ^ 1<<i), sum<<i | sum>>(32-i)} {
				if other != sum {
					wantNoRead(t, ahead+laid(int(other), 4), api.ErrSum)
				}
			}
		}
		for _, other := range []string{"\x00\x00\x00\x00", "\xff\xff\xff\xff", laid(int(^sum), 4), s[len(s)-1:] + s[len(s)-2:len(s)-1] + s[len(s)-3:len(s)-2] + s[len(s)-4:len(s)-3]} {
			wantNoRead(t, ahead+other, api.ErrSum)
		}
		wantNoRead(t, ahead+laid(int(sumOf(ahead[2:])), 4), api.ErrSum)
		wantNoRead(t, ahead+laid(int(sumOf(ahead[:len(ahead)-1])), 4), api.ErrSum)
	}
}

func TestReadWhereBytesLack(t *testing.T) {
	for _, d := range few() {
		s := textOf(d)
		for size := 12; size < len(s); size++ {
			wantNoRead(t, s[:size], api.ErrSum)
			wantNoRead(t, s[len(s)-size:], api.ErrSum)
			wantNoRead(t, s[:size-6]+s[len(s)-6:], api.ErrSum)
		}
	}
}

func TestReadWhereBytesAreTooMany(t *testing.T) {
	for _, d := range few() {
		s := textOf(d)
		for value := range 256 {
			one := string([]byte{byte(value)})
			wantNoRead(t, s+one, api.ErrSum)
			wantNoRead(t, one+s, api.ErrSum)
			wantNoRead(t, s[:8]+one+s[8:], api.ErrSum)
			wantNoRead(t, s[:len(s)-4]+one+s[len(s)-4:], api.ErrSum)
		}
		for _, more := range []string{s, long[:1000], "\x00\x00\x00\x00", strings.Repeat("\x00", 2000)} {
			wantNoRead(t, s+more, api.ErrSum)
		}
	}
}

// Promise 10.2: with a right sum, ErrForm of the first two bytes.

func TestReadWithAnotherMark(t *testing.T) {
	for first := range 256 {
		for second := range 256 {
			mark := string([]byte{byte(first), byte(second)})
			s := signed(raw(mark, 5, 3, 9, ""))
			if mark == "LS" {
				wantRead(t, s, api.Datagram{Kind: 5, Stream: 3, Block: 9})
			} else {
				wantNoRead(t, s, api.ErrForm)
			}
		}
	}
	for _, d := range few() {
		for _, mark := range []string{"LT", "MS", "SL", "ls", "\x00\x00", "\xff\xff", "L\x00", "\x00S"} {
			wantNoRead(t, signed(raw(mark, d.Kind, d.Stream, int(d.Block), ownOf(d))), api.ErrForm)
		}
	}
}

// Promise 10.2: with a right sum, ErrArg of a kind that is none.

func TestReadOfNoKind(t *testing.T) {
	for kind := range 256 {
		if kind >= 1 && kind <= 6 {
			continue
		}
		for _, d := range few() {
			wantNoRead(t, signed(raw("LS", kind, d.Stream, int(d.Block), ownOf(d))), api.ErrArg)
		}
		for size := range 40 {
			wantNoRead(t, signed(raw("LS", kind, 0, 0, long[:size])), api.ErrArg)
		}
	}
}

// Promise 10.2: with a right sum, ErrCut where bytes of a kind's fields lack.

func TestReadWhereFieldsLack(t *testing.T) {
	for _, d := range few() {
		fields := []int{0, 5, 5, 32, 2, 0, 0}[d.Kind]
		for size := range fields {
			wantNoRead(t, signed(raw("LS", d.Kind, d.Stream, int(d.Block), ownOf(d)[:size])), api.ErrCut)
			wantNoRead(t, signed(raw("LS", d.Kind, d.Stream, int(d.Block), strings.Repeat("\x00", size))), api.ErrCut)
			wantNoRead(t, signed(raw("LS", d.Kind, d.Stream, int(d.Block), strings.Repeat("\xff", size))), api.ErrCut)
		}
	}
}

// Promise 10.2: with a right sum, ErrForm where bytes are left.

func TestReadWhereBytesAreLeft(t *testing.T) {
	for _, d := range few() {
		if d.Kind <= 2 {
			continue
		}
		for size := 1; size <= 70; size++ {
			for _, more := range []string{long[:size], strings.Repeat("\x00", size), strings.Repeat("\xff", size)} {
				wantNoRead(t, signed(raw("LS", d.Kind, d.Stream, int(d.Block), ownOf(d)+more)), api.ErrForm)
			}
		}
		wantNoRead(t, signed(raw("LS", d.Kind, d.Stream, int(d.Block), ownOf(d)+long[:1000])), api.ErrForm)
		wantNoRead(t, signed(textOf(d)), api.ErrForm)
	}
}

// Promise 10.2: with a right sum, Check's error of each field that may not be.

func TestReadOfUnfitFields(t *testing.T) {
	for _, d := range []api.Datagram{
		{Kind: 1, K: 0, N: 5, Len: 10, Body: "abcd"},
		{Kind: 1, K: 33, N: 50, Len: 33, Body: "a"},
		{Kind: 1, K: 255, N: 255, Len: 255, Body: "a"},
		{Kind: 1, K: 3, N: 2, Len: 3, Body: "a"},
		{Kind: 1, K: 3, N: 0, Len: 3, Body: "a"},
		{Kind: 1, K: 3, N: 5, Index: 3, Len: 3, Body: "a"},
		{Kind: 1, K: 3, N: 5, Index: 5, Len: 3, Body: "a"},
		{Kind: 1, K: 3, N: 5, Index: 255, Len: 3, Body: "a"},
		{Kind: 1, K: 32, N: 32, Len: 32769, Body: long[:1025]},
		{Kind: 1, K: 32, N: 32, Len: 32769, Body: long[:1024]},
		{Kind: 1, K: 32, N: 32, Len: 65536, Body: long[:2048]},
		{Kind: 2, Index: 1, K: 0, N: 5, Len: 10, Body: "abcd"},
		{Kind: 2, Index: 40, K: 33, N: 50, Len: 33, Body: "a"},
		{Kind: 2, Index: 3, K: 3, N: 2, Len: 3, Body: "a"},
		{Kind: 2, Index: 3, K: 3, N: 3, Len: 3, Body: "a"},
		{Kind: 2, Index: 2, K: 3, N: 5, Len: 3, Body: "a"},
		{Kind: 2, Index: 0, K: 3, N: 5, Len: 3, Body: "a"},
		{Kind: 2, Index: 5, K: 3, N: 5, Len: 3, Body: "a"},
		{Kind: 2, Index: 255, K: 3, N: 255, Len: 3, Body: "a"},
		{Kind: 2, Index: 40, K: 32, N: 50, Len: 32769, Body: long[:1025]},
		{Kind: 2, Index: 40, K: 32, N: 50, Len: 65536, Body: long[:2048]},
	} {
		wantNoRead(t, textOf(d), api.ErrRange)
	}
}

func TestReadWithBodyTooShortOrTooLong(t *testing.T) {
	for _, d := range shards() {
		right := len(d.Body)
		for _, size := range []int{0, 1, right - 1, right + 1, right + 2, right + 4, right * 2, 1025} {
			if size == right || size < 0 {
				continue
			}
			d.Body = long[:size]
			wantNoRead(t, textOf(d), api.ErrLong)
		}
	}
	for _, x := range []struct{ k, length int }{{1, 1025}, {1, 32768}, {2, 2049}, {31, 31745}, {31, 32768}} {
		wantNoRead(t, textOf(shard(1, 0, x.k, 40, x.length)), api.ErrLong)
		wantNoRead(t, textOf(shard(2, 39, x.k, 40, x.length)), api.ErrLong)
	}
}

// All edges of the bytes of Index, K and N, and of Len's, with as many bytes of Body as are asked for.
func TestReadOfAllShards(t *testing.T) {
	edges := []int{0, 1, 2, 3, 30, 31, 32, 33, 127, 128, 253, 254, 255}
	for _, k := range edges {
		for _, n := range edges {
			for _, index := range edges {
				for _, length := range []int{1, 2, 64, 256, 257, 1024} {
					size := min(sizeOf(length, max(k, 1)), 1025)
					for kind := 1; kind <= 2; kind++ {
						wantModel(t, textOf(api.Datagram{Kind: kind, Index: index, K: k, N: n, Len: length, Body: long[:size]}))
					}
				}
			}
		}
	}
	for length := 1; length <= 65536; length += 61 {
		wantModel(t, textOf(shard(1, 31, 32, 40, length)))
		wantModel(t, textOf(shard(2, 39, 32, 40, length)))
	}
}

// Each byte of each datagram is made another one, and the sum is right again.
func TestReadWithAnotherByteAndItsSum(t *testing.T) {
	for _, d := range few() {
		s := textOf(d)
		ahead := []byte(s[:len(s)-4])
		for place, was := range ahead[:min(len(ahead), 60)] {
			for value := range 256 {
				ahead[place] = byte(value)
				wantModel(t, signed(string(ahead)))
			}
			ahead[place] = was
		}
	}
}

// Texts in no order behind the mark and each kind.
func TestReadOfNoOrder(t *testing.T) {
	many := 0
	for seed := range uint32(40000) {
		behind := []byte(text(4+int(seed%45), seed))
		if size := len(behind); size >= 10 && size < 20 { // else hardly any fields of a shard may be
			behind[5], behind[6], behind[7], behind[8], behind[9] = behind[5]%8, behind[6]%4, behind[7]%12, 0, behind[9]%12
		}
		s := signed("LS" + laid(int(seed%7), 1) + string(behind))
		wantModel(t, s)
		if d, err := readOf(s); err == api.OK && d.Kind <= 2 {
			many++
		}
	}
	if many < 40 {
		t.Errorf("just %d shards were read", many)
	}
}

// Promise 10.2: which error is told where two apply.

func TestWhichErrorIsRead(t *testing.T) {
	spoiled := func(s string) string { return s + laid(int(sumOf(s)^1), 4) }
	shortShard, badShard, longBody := "\x00\x02\x04\x00", "\x09\x02\x04\x00\x04abc", "\x00\x02\x04\x00\x04abcd"
	for _, x := range []struct {
		s    string
		want api.Errno
	}{
		// Fewer than 12 bytes, ahead of all.
		{spoiled("LS\x05\x00\x00\x00\x00"), api.ErrCut},
		{signed("XX\x05\x00\x00\x00\x00"), api.ErrCut},
		{signed("LS\x07\x00\x00\x00\x00"), api.ErrCut},
		{signed("LS\x04\x00\x00\x00\x00"), api.ErrCut},
		{spoiled("XX\x07"), api.ErrCut},
		// A sum that is wrong, ahead of what is behind.
		{spoiled(raw("LX", 5, 0, 0, "")), api.ErrSum},
		{spoiled(raw("LS", 7, 0, 0, "")), api.ErrSum},
		{spoiled(raw("LS", 1, 0, 0, shortShard)), api.ErrSum},
		{spoiled(raw("LS", 3, 0, 0, long[:31])), api.ErrSum},
		{spoiled(raw("LS", 5, 0, 0, "a")), api.ErrSum},
		{spoiled(raw("LS", 1, 0, 0, badShard)), api.ErrSum},
		{spoiled(raw("LS", 1, 0, 0, longBody)), api.ErrSum},
		{spoiled(raw("XX", 0, 0, 0, "abc")), api.ErrSum},
		// Another mark, ahead of what is behind.
		{signed(raw("LX", 7, 0, 0, "")), api.ErrForm},
		{signed(raw("XS", 0, 0, 0, "")), api.ErrForm},
		{signed(raw("LX", 255, 0, 0, "a")), api.ErrForm},
		{signed(raw("LX", 1, 0, 0, shortShard)), api.ErrForm},
		{signed(raw("LX", 3, 0, 0, long[:31])), api.ErrForm},
		{signed(raw("LX", 4, 0, 0, "a")), api.ErrForm},
		{signed(raw("LX", 1, 0, 0, badShard)), api.ErrForm},
		{signed(raw("LX", 2, 0, 0, longBody)), api.ErrForm},
		// No kind, however many bytes there are.
		{signed(raw("LS", 7, 0, 0, "")), api.ErrArg},
		{signed(raw("LS", 7, 0, 0, "abcdef")), api.ErrArg},
		{signed(raw("LS", 0, 255, 0, badShard)), api.ErrArg},
		// Bytes that lack, ahead of what the others are.
		{signed(raw("LS", 1, 0, 0, "\x09\x00\x00\xff")), api.ErrCut},
		{signed(raw("LS", 2, 0, 0, "\x00\x21\xff")), api.ErrCut},
		{signed(raw("LS", 1, 0, 0, "\xff\x00")), api.ErrCut},
		// Of a shard's fields, Check's order.
		{signed(raw("LS", 1, 0, 0, "\x09\x02\x04\x00\x04abcd")), api.ErrRange},
		{signed(raw("LS", 2, 0, 0, "\x00\x02\x04\x00\x04")), api.ErrRange},
		{signed(raw("LS", 1, 0, 0, "\x00\x02\x04\x80\x00abc")), api.ErrRange},
		{signed(raw("LS", 1, 0, 0, "\x00\x02\x04\x00\x04")), api.ErrLong},
	} {
		wantNoRead(t, x.s, x.want)
	}
}

// Promise 10.3: what is put is read as it was, and what is read is put as the same bytes.

// turnBack holds that d is read as it was, and is put once more as it was.
func turnBack(t *testing.T, d api.Datagram) {
	t.Helper()
	s, err := Put(d)
	if err != api.OK || Size(d) != len(s) {
		t.Fatalf("Put of %s: %d, of %d bytes where Size is %d", name(d), err, len(s), Size(d))
	}
	wantRead(t, s, d)
	got, _ := Read(s)
	if again, err := Put(got); again != s || err != api.OK {
		t.Errorf("Put of what was read of %.60q: %.60q, %d", s, again, err)
	}
}

func TestPutAndRead(t *testing.T) {
	for _, d := range fit() {
		turnBack(t, d)
	}
}

func TestPutAndReadOfNoOrder(t *testing.T) {
	for seed := range uint32(12000) {
		is := func(place, many int) int { return numberOf(text(12, seed)[place:place+2]) % many }
		d := api.Datagram{Kind: 1 + int(seed%6), Stream: is(0, 256), Block: uint32(numberOf(text(12, seed)[2:6]))}
		switch d.Kind {
		case 1, 2:
			d.K = 1 + is(6, 32)
			d.N = d.K + 1 + is(7, 255-d.K)
			d.Index = is(8, d.K)
			if d.Kind == 2 {
				d.Index = d.K + is(8, d.N-d.K)
			}
			d.Len = 1 + is(9, d.K*1024)
			d.Body = text(sizeOf(d.Len, d.K), seed)
		case 3:
			d.Have = text(32, seed+1)
		case 4:
			d.Credit = is(6, 65536)
		}
		turnBack(t, d)
	}
}

// All that is read of is put as the same bytes: no two texts are read as one datagram.
func TestReadAndPut(t *testing.T) {
	many := 0
	for _, d := range few() {
		s := textOf(d)
		ahead := []byte(s[:len(s)-4])
		for place, was := range ahead[:min(len(ahead), 60)] {
			for value := range 256 {
				ahead[place] = byte(value)
				if got, err := Read(signed(string(ahead))); err == api.OK {
					many++
					if again, err := Put(got); again != signed(string(ahead)) || err != api.OK {
						t.Errorf("Put of what was read of %.60q: %.60q, %d", ahead, again, err)
					}
				}
			}
			ahead[place] = was
		}
	}
	if many < 10000 {
		t.Errorf("just %d texts were read", many)
	}
}

func TestNoTwoDatagramsHaveTheSameBytes(t *testing.T) {
	of := map[string]api.Datagram{}
	for _, d := range fit() {
		s, _ := Put(d)
		if other, is := of[s]; is && other != d {
			t.Errorf("%s and %s have the same bytes", name(d), name(other))
		}
		of[s] = d
	}
}

// Promise 10.3: no one bit turned is read as anything.

func TestNoBitTurnedIsRead(t *testing.T) {
	for _, d := range few() {
		s := []byte(textOf(d))
		for bit := range len(s) * 8 {
			s[bit/8] ^= 1 << (bit % 8)
			wantNoRead(t, string(s), api.ErrSum)
			s[bit/8] ^= 1 << (bit % 8)
		}
		wantRead(t, string(s), d)
	}
}

// R5: the same is answered when it is asked for again, whatever was asked for in between.

func TestAskedAgain(t *testing.T) {
	for range 3 {
		for _, d := range few() {
			wantPut(t, d, textOf(d))
			wantNoRead(t, "LS", api.ErrCut)
			wantUnfit(t, api.Datagram{Kind: d.Kind, Stream: 256}, api.ErrRange)
			wantRead(t, textOf(d), d)
			wantNoRead(t, textOf(d)+"a", api.ErrSum)
		}
	}
}
