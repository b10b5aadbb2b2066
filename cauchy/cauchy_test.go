package cauchy

import (
	"bytes"
	"iter"
	"math"
	"slices"
	"strconv"
	"testing"

	"lightship/api"
	"lightship/gf"
	"lightship/matrix"
)

// told is row i, made without Row: the byte at a place is looked for that makes 1 with i exclusive or that place.
func told(k, i int) []byte {
	row := make([]byte, k)
	for j := range row {
		switch {
		case i < k && i == j:
			row[j] = 1
		case i >= k:
			for b := 1; gf.Mul(row[j], byte(i^j)) != 1; b++ {
				row[j] = byte(b)
			}
		}
	}
	return row
}

// sizes are k and n of tables that there may be: all small ones, and at each greater n k at the edges and between them.
func sizes() [][2]int {
	var l [][2]int
	for n := 1; n <= 20; n++ {
		for k := 1; k <= n; k++ {
			l = append(l, [2]int{k, n})
		}
	}
	for _, n := range []int{31, 32, 33, 64, 100, 127, 128, 129, 200, 254, 255} {
		for _, k := range []int{1, 2, 3, 31, 32, 33, 64, 127, 128, 129, n / 2, n - 2, n - 1, n} {
			if k <= n {
				l = append(l, [2]int{k, n})
			}
		}
	}
	return l
}

// noSizes are k and n of which there is no table.
func noSizes() [][2]int {
	most, least := math.MaxInt, math.MinInt
	return [][2]int{
		{0, 0}, {0, 1}, {0, 2}, {0, 255}, {0, 256},
		{-1, 1}, {-1, 255}, {-2, 255}, {-255, 255}, {-256, 3}, {-1, -1}, {-2, -1}, {-1, 0}, {least, 1}, {least, 255},
		{2, 1}, {3, 2}, {6, 5}, {33, 32}, {255, 254}, {256, 255}, {257, 255}, {257, 1}, {1, 0}, {1, -1}, {256, 1}, {most, 1}, {most, 255},
		{1, 256}, {1, 257}, {2, 258}, {32, 256}, {255, 256}, {256, 256}, {257, 257}, {1, 511}, {1, 512}, {1, 65537},
		{1, most}, {32, most}, {most, most}, {most - 1, most}, {least, most}, {0, most},
		{1, least}, {most, least}, {least, least}, {0, least}, {1, least + 255}, {1, -255},
	}
}

// outside are numbers that are not 0 to n - 1, those among them whose last 8, 16 or 32 bits are.
func outside(n int) []int {
	return []int{-1, -2, -n, -n - 1, -255, -256, n, n + 1, 2 * n, 255, 256, 257, 65536, 1 << 32, -1 << 32, math.MaxInt, math.MaxInt - 1, math.MinInt, math.MinInt + 1}
}

// upTo are the numbers from 0 to n - 1.
func upTo(n int) []int {
	l := make([]int, n)
	for i := range l {
		l[i] = i
	}
	return l
}

// mixed are many numbers from 0 to n - 1 in no order, another list for each seed.
func mixed(many, n int, seed uint32) []int {
	l := make([]int, many)
	state := seed*2654435761 + 12345
	for i := range l {
		state = state*1664525 + 1013904223
		l[i] = int(state>>8) % n
	}
	return l
}

// clone is the table in memory of its own.
func clone(m [][]byte) [][]byte {
	made := make([][]byte, len(m))
	for i, row := range m {
		made[i] = bytes.Clone(row)
	}
	return made
}

func alike(a, b [][]byte) bool { return slices.EqualFunc(a, b, bytes.Equal) }

func name(call string, k, n int) string {
	return call + "(" + strconv.Itoa(k) + ", " + strconv.Itoa(n) + ", ..)"
}

func wantRow(t *testing.T, k, n, i int, want []byte) {
	t.Helper()
	if got, err := Row(k, n, i); !bytes.Equal(got, want) || err != api.OK {
		t.Errorf("Row(%d, %d, %d): %v, %d, want %v, OK", k, n, i, got, err, want)
	}
}

func wantNoRow(t *testing.T, k, n, i int, want api.Errno) {
	t.Helper()
	if got, err := Row(k, n, i); len(got) != 0 || err != want {
		t.Errorf("Row(%d, %d, %d): %v, %d, want none, %d", k, n, i, got, err, want)
	}
}

func wantTable(t *testing.T, call string, got [][]byte, err api.Errno, want [][]byte) {
	t.Helper()
	if err != api.OK || len(got) != len(want) {
		t.Fatalf("%s: %d rows, %d, want %d, OK", call, len(got), err, len(want))
	}
	for i, row := range got {
		if !bytes.Equal(row, want[i]) {
			t.Fatalf("%s: %v at place %d, want %v", call, row, i, want[i])
		}
	}
}

func wantError(t *testing.T, call string, got [][]byte, err, want api.Errno) {
	t.Helper()
	if len(got) != 0 || err != want {
		t.Errorf("%s: %d rows, %d, want none, %d", call, len(got), err, want)
	}
}

// Promise 4.1: Row.

func TestRow(t *testing.T) {
	for _, x := range []struct {
		k, n, i int
		want    []byte
	}{
		{2, 3, 2, []byte{142, 244}}, // the chapter's example: Inv(2), Inv(3)
		{2, 3, 0, []byte{1, 0}},
		{2, 3, 1, []byte{0, 1}},
		{1, 1, 0, []byte{1}},
		{1, 3, 0, []byte{1}},
		{1, 3, 1, []byte{1}},
		{1, 3, 2, []byte{142}},
		{1, 255, 254, []byte{126}},
		{3, 3, 2, []byte{0, 0, 1}},
		{3, 5, 1, []byte{0, 1, 0}},
		{3, 5, 3, []byte{244, 142, 1}},
		{3, 5, 4, []byte{71, 167, 122}},
		{4, 6, 3, []byte{0, 0, 0, 1}},
		{4, 6, 4, []byte{71, 167, 122, 186}},
		{4, 6, 5, []byte{167, 71, 186, 122}},
		{5, 10, 9, []byte{157, 173, 152, 221, 170}},
		{5, 255, 9, []byte{157, 173, 152, 221, 170}},
	} {
		wantRow(t, x.k, x.n, x.i, x.want)
	}
}

func TestRowOfTheExampleByInv(t *testing.T) {
	second, _ := gf.Inv(2)
	third, _ := gf.Inv(3)
	wantRow(t, 2, 3, 2, []byte{second, third})
}

// All i of each table, its edges 0, k - 1, k and n - 1 among them.
func TestRowByteByByte(t *testing.T) {
	for _, s := range sizes() {
		k, n := s[0], s[1]
		for i := range n {
			if n < 200 || i < 3 || i > n-3 || i >= k-2 && i < k+2 || i%16 < 2 {
				wantRow(t, k, n, i, told(k, i))
			}
		}
	}
}

func TestRowOutsideTheTable(t *testing.T) {
	for _, s := range sizes() {
		for _, i := range outside(s[1]) {
			wantNoRow(t, s[0], s[1], i, api.ErrRange)
		}
	}
}

// That there is no such table is told ahead of an i that is not in it.
func TestRowOfNoTable(t *testing.T) {
	for _, s := range noSizes() {
		k, n := s[0], s[1]
		for _, i := range append(outside(n), 0, 1, 2, k-1, k, n-1) {
			wantNoRow(t, k, n, i, api.ErrArg)
		}
	}
}

// Promise 4.1: Rows.

func TestRows(t *testing.T) {
	for _, x := range []struct {
		k, n int
		want [][]byte
	}{
		{1, 1, [][]byte{{1}}},
		{1, 4, [][]byte{{1}, {1}, {142}, {244}}},
		{2, 2, [][]byte{{1, 0}, {0, 1}}},
		{2, 4, [][]byte{{1, 0}, {0, 1}, {142, 244}, {244, 142}}},
		{3, 5, [][]byte{{1, 0, 0}, {0, 1, 0}, {0, 0, 1}, {244, 142, 1}, {71, 167, 122}}},
	} {
		got, err := Rows(x.k, x.n)
		wantTable(t, name("Rows", x.k, x.n), got, err, x.want)
	}
}

func TestRowsByteByByte(t *testing.T) {
	for _, s := range sizes() {
		k, n := s[0], s[1]
		if n > 129 && k%32 > 1 && k < n-1 {
			continue
		}
		want := make([][]byte, n)
		for i := range want {
			want[i] = told(k, i)
		}
		got, err := Rows(k, n)
		wantTable(t, name("Rows", k, n), got, err, want)
	}
}

func TestRowsAreAllOfRow(t *testing.T) {
	for _, s := range sizes() {
		got, err := Rows(s[0], s[1])
		want := make([][]byte, s[1])
		for i := range want {
			want[i], _ = Row(s[0], s[1], i)
		}
		wantTable(t, name("Rows", s[0], s[1]), got, err, want)
	}
}

func TestRowsOfNoTable(t *testing.T) {
	for _, s := range noSizes() {
		got, err := Rows(s[0], s[1])
		wantError(t, name("Rows", s[0], s[1]), got, err, api.ErrArg)
	}
}

// Promise 4.1: Pick.

func TestPick(t *testing.T) {
	for _, x := range []struct {
		k, n int
		l    []int
		want [][]byte
	}{
		{1, 1, []int{0}, [][]byte{{1}}},
		{1, 1, []int{0, 0, 0}, [][]byte{{1}, {1}, {1}}},
		{1, 3, []int{2}, [][]byte{{142}}},
		{2, 3, []int{2}, [][]byte{{142, 244}}},
		{2, 4, []int{0, 1}, [][]byte{{1, 0}, {0, 1}}},
		{2, 4, []int{1, 0}, [][]byte{{0, 1}, {1, 0}}},
		{2, 4, []int{3, 0, 2, 3}, [][]byte{{244, 142}, {1, 0}, {142, 244}, {244, 142}}},
		{3, 5, []int{1, 1}, [][]byte{{0, 1, 0}, {0, 1, 0}}},
		{3, 5, []int{4, 3, 2, 1, 0}, [][]byte{{71, 167, 122}, {244, 142, 1}, {0, 0, 1}, {0, 1, 0}, {1, 0, 0}}},
		{3, 5, []int{3, 4}, [][]byte{{244, 142, 1}, {71, 167, 122}}},
	} {
		got, err := Pick(x.k, x.n, x.l)
		wantTable(t, name("Pick", x.k, x.n), got, err, x.want)
	}
}

// Lists of one number, of 255 and of 254; rising, falling and in no order; with numbers that are in them twice, or always the same.
func TestPickIsRowByRow(t *testing.T) {
	for _, s := range sizes() {
		k, n := s[0], s[1]
		if n > 20 && n < 254 {
			continue
		}
		falling := upTo(n)
		slices.Reverse(falling)
		for _, l := range [][]int{
			{0}, {k - 1}, {min(k, n-1)}, {n - 1}, {n - 1, 0}, {0, n - 1, 0},
			upTo(n), falling, mixed(2, n, 1), mixed(9, n, 2), mixed(254, n, 3), mixed(255, n, 4), slices.Repeat([]int{n - 1}, 255),
		} {
			got, err := Pick(k, n, l)
			want := make([][]byte, len(l))
			for place, i := range l {
				want[place], _ = Row(k, n, i)
			}
			wantTable(t, name("Pick", k, n), got, err, want)
		}
	}
}

func TestPickOfAllIsRows(t *testing.T) {
	for _, s := range sizes() {
		got, err := Pick(s[0], s[1], upTo(s[1]))
		want, _ := Rows(s[0], s[1])
		wantTable(t, name("Pick", s[0], s[1]), got, err, want)
	}
}

// noLists are lists that have not 1 to 255 numbers: nil and lists without numbers are the same, and how many there are is told ahead of which.
func noLists(n int) [][]int {
	return [][]int{
		nil, {}, make([]int, 0, 9),
		make([]int, 256), make([]int, 257), make([]int, 511), make([]int, 512), make([]int, 65537),
		mixed(256, n, 5), slices.Repeat([]int{-1}, 256), slices.Repeat([]int{n}, 256), append(make([]int, 256), math.MaxInt),
	}
}

func TestPickOfNoList(t *testing.T) {
	for _, s := range sizes() {
		for _, l := range noLists(s[1]) {
			got, err := Pick(s[0], s[1], l)
			wantError(t, name("Pick", s[0], s[1]), got, err, api.ErrArg)
		}
	}
}

// One number that is not in the table, alone, at the beginning, at the end and between others, in short lists and in one of 255.
func TestPickOutsideTheTable(t *testing.T) {
	for _, s := range sizes() {
		k, n := s[0], s[1]
		for _, bad := range outside(n) {
			long := mixed(254, n, 6)
			for _, l := range [][]int{
				{bad}, {bad, bad}, {bad, 0}, {0, bad}, {n - 1, bad}, {bad, n - 1}, {0, bad, n - 1}, {bad, 0, bad},
				slices.Insert(slices.Clone(long), 0, bad), slices.Insert(slices.Clone(long), 254, bad), slices.Insert(slices.Clone(long), 100, bad),
			} {
				// Most of the long lists' rows are made in vain: they are tried at some sizes.
				if len(l) > 3 && n > 20 && (bad != -1 && bad != n || k > 3) {
					continue
				}
				got, err := Pick(k, n, l)
				wantError(t, name("Pick", k, n), got, err, api.ErrRange)
			}
		}
	}
}

// That there is no such table is told ahead of what the list has.
func TestPickOfNoTable(t *testing.T) {
	for _, s := range noSizes() {
		k, n := s[0], s[1]
		lists := append(noLists(255), []int{0}, []int{0, 1}, []int{-1}, []int{n}, []int{0, n}, []int{n - 1}, upTo(255), slices.Repeat([]int{-1}, 255))
		for _, l := range lists {
			got, err := Pick(k, n, l)
			wantError(t, name("Pick", k, n), got, err, api.ErrArg)
		}
	}
}

// R4 and R5: what is handed in is not changed, and what is answered is memory of its own.

func TestListsHandedInAreNotChanged(t *testing.T) {
	for _, s := range [][2]int{{1, 1}, {2, 4}, {3, 3}, {4, 9}, {32, 255}, {0, 9}, {9, 8}, {1, 256}} {
		n := max(s[1], 1)
		for _, l := range [][]int{{0}, {n - 1, 0, n - 1}, mixed(9, n, 7), mixed(255, n, 8), mixed(256, n, 9), {n - 1, -1, 0}, {0, n}, {}} {
			// With room behind the list, where an append to it would write.
			whole := slices.Concat([]int{77}, l, []int{78, 79, 80})
			before := slices.Clone(whole)
			Pick(s[0], s[1], whole[1:1+len(l)])
			if !slices.Equal(whole, before) {
				t.Errorf("Pick(%d, %d, %v) changed its list", s[0], s[1], l)
			}
		}
	}
}

// answers are what calls answer, each time anew, with a number that is there twice, and with rows of both kinds.
func answers() [][][]byte {
	var made [][][]byte
	for _, s := range [][2]int{{1, 1}, {1, 3}, {2, 2}, {3, 6}, {32, 40}} {
		k, n := s[0], s[1]
		for i := range n {
			row, _ := Row(k, n, i)
			made = append(made, [][]byte{row})
		}
		rows, _ := Rows(k, n)
		some, _ := Pick(k, n, []int{n - 1, 0, n - 1, k - 1, 0})
		made = append(made, rows, some)
	}
	return made
}

// Whoever writes to a row, or behind it, writes to no other one, whether it is of the same answer or of another.
func TestAnswersAreNewMemory(t *testing.T) {
	first, second := answers(), answers()
	rows, others := slices.Concat(first...), slices.Concat(second...)
	before := clone(rows)
	for at, row := range rows {
		_ = append(row, 99, 98, 97)
		for j := range row {
			row[j] += 77
		}
		if !alike(rows[:at], before[:at]) || !alike(rows[at+1:], before[at+1:]) || !alike(others, before) {
			t.Fatalf("the row at place %d shares memory with another one", at)
		}
		copy(row, before[at])
	}
	for at, row := range rows {
		for j := range row {
			row[j] = 200
		}
		if !alike(others, before) || !alike(slices.Concat(answers()...), before) {
			t.Fatalf("whoever writes to the row at place %d changes what is answered later", at)
		}
	}
	// The lists of rows, too, are each answer's own.
	for at, l := range second {
		_ = append(l, nil)
		clear(l)
		if at+1 < len(second) && !alike(slices.Concat(second[at+1:]...), before[len(before)-len(slices.Concat(second[at+1:]...)):]) {
			t.Fatalf("the answer at place %d shares its list with another one", at)
		}
	}
}

// What is answered does not hang on the list once the call has answered.
func TestAnswersDoNotKeepTheList(t *testing.T) {
	l := []int{5, 0, 3, 5}
	got, err := Pick(3, 6, l)
	clear(l)
	Pick(3, 6, l)
	wantTable(t, "Pick", got, err, [][]byte{told(3, 5), told(3, 0), told(3, 3), told(3, 5)})
}

func TestAskedAgain(t *testing.T) {
	before := slices.Concat(answers()...)
	for range 3 {
		Rows(7, 255)
		Pick(0, 1, nil)
		Pick(3, 6, []int{1, 6})
		if !alike(slices.Concat(answers()...), before) {
			t.Fatal("other rows are answered when they are asked for again")
		}
	}
}

// Promise 4.2: any k of the rows that are unlike have an Invert.

func wantInvert(t *testing.T, k, n int, l []int) {
	t.Helper()
	rows, err := Pick(k, n, l)
	if err != api.OK || len(rows) != k {
		t.Fatalf("Pick(%d, %d, %v): %d rows, %d, want %d, OK", k, n, l, len(rows), err, k)
	}
	inverse, err := matrix.Invert(rows)
	if err != api.OK {
		t.Fatalf("Invert of Pick(%d, %d, %v): %d, want OK", k, n, l, err)
	}
	unit, _ := matrix.Identity(k)
	got, err := matrix.Mul(inverse, rows)
	wantTable(t, "the product with the Invert of "+name("Pick", k, n), got, err, unit)
}

// choices are all rising lists of k of the numbers from 0 to n - 1. Each is good till the next one is asked for.
func choices(k, n int) iter.Seq[[]int] {
	return func(yield func([]int) bool) {
		l := upTo(k)
		for yield(l) {
			last := k - 1
			for last >= 0 && l[last] == n-k+last {
				last--
			}
			if last < 0 {
				return
			}
			l[last]++
			for i := last + 1; i < k; i++ {
				l[i] = l[i-1] + 1
			}
		}
	}
}

// orders hands f all orders of l from place on.
func orders(l []int, place int, f func(l []int)) {
	if place == len(l) {
		f(l)
		return
	}
	for i := place; i < len(l); i++ {
		l[place], l[i] = l[i], l[place]
		orders(l, place+1, f)
		l[place], l[i] = l[i], l[place]
	}
}

// unlike are k of the numbers from 0 to n - 1 in no order, no number twice.
func unlike(k, n int, seed uint32) []int {
	l := upTo(n)
	for i, other := range mixed(n, n, seed) {
		l[i], l[other] = l[other], l[i]
	}
	return l[:k]
}

func TestChoicesAreAll(t *testing.T) {
	for _, x := range [][3]int{{1, 1, 1}, {1, 5, 5}, {2, 5, 10}, {5, 5, 1}, {3, 9, 84}, {5, 10, 252}} {
		many := 0
		for l := range choices(x[0], x[1]) {
			if !slices.IsSorted(l) || len(slices.Compact(slices.Clone(l))) != x[0] {
				t.Errorf("the choice %v of %d", l, x[1])
			}
			many++
		}
		if many != x[2] {
			t.Errorf("%d choices of %d out of %d, want %d", many, x[0], x[1], x[2])
		}
	}
}

func TestAllChoicesInAllOrders(t *testing.T) {
	for n := 1; n <= 5; n++ {
		for k := 1; k <= n; k++ {
			for l := range choices(k, n) {
				orders(slices.Clone(l), 0, func(l []int) { wantInvert(t, k, n, l) })
			}
		}
	}
}

func TestAllChoices(t *testing.T) {
	for n := 6; n <= 12; n++ {
		for k := 1; k <= n; k++ {
			for l := range choices(k, n) {
				wantInvert(t, k, n, l)
			}
		}
	}
}

func TestAllChoicesOfFewAmongMany(t *testing.T) {
	for _, s := range [][2]int{{1, 255}, {2, 255}, {3, 40}, {4, 20}} {
		for l := range choices(s[0], s[1]) {
			wantInvert(t, s[0], s[1], l)
		}
	}
}

func TestManyChoices(t *testing.T) {
	for _, x := range []struct{ k, n, tries int }{
		{3, 255, 3000}, {4, 255, 3000}, {5, 255, 2000}, {8, 12, 500}, {8, 255, 500}, {16, 24, 200}, {16, 255, 200},
		{32, 33, 33}, {32, 48, 100}, {32, 255, 100}, {33, 255, 20}, {64, 128, 10}, {64, 255, 10}, {100, 200, 3}, {127, 255, 2},
	} {
		for seed := range uint32(x.tries) {
			wantInvert(t, x.k, x.n, unlike(x.k, x.n, seed))
		}
	}
}

// The first k rows, the last k, those in the middle, and every second one.
func TestChoicesAtTheEdges(t *testing.T) {
	for _, s := range [][2]int{{2, 255}, {16, 32}, {31, 255}, {32, 64}, {32, 255}, {63, 126}, {64, 255}, {127, 255}, {128, 255}} {
		k, n := s[0], s[1]
		all := upTo(n)
		var second []int
		for i := range k {
			second = append(second, 2*i%n)
		}
		wantInvert(t, k, n, all[:k])
		wantInvert(t, k, n, all[n-k:])
		wantInvert(t, k, n, all[(n-k)/2:][:k])
		wantInvert(t, k, n, second)
	}
}

// All rows but one, at the greatest k.
func TestAllRowsButOne(t *testing.T) {
	for _, gone := range []int{0, 100, 253, 254} {
		wantInvert(t, 254, 255, slices.Delete(upTo(255), gone, gone+1))
	}
	for k := 1; k < 40; k++ {
		for gone := range k + 1 {
			wantInvert(t, k, k+1, slices.Delete(upTo(k+1), gone, gone+1))
		}
	}
	wantInvert(t, 255, 255, upTo(255))
}
