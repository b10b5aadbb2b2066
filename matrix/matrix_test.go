package matrix

import (
	"bytes"
	"slices"
	"testing"

	"lightship/api"
	"lightship/gf"
	"lightship/vector"
)

// mixed is a table of bytes in no order, another one for each seed.
func mixed(rows, places int, seed uint32) [][]byte {
	m := make([][]byte, rows)
	state := seed*2654435761 + 12345
	for i := range m {
		m[i] = make([]byte, places)
		for j := range m[i] {
			state = state*1664525 + 1013904223
			m[i][j] = byte(state >> 24)
		}
	}
	return m
}

// same is a table whose bytes are all c.
func same(rows, places int, c byte) [][]byte {
	m := make([][]byte, rows)
	for i := range m {
		m[i] = bytes.Repeat([]byte{c}, places)
	}
	return m
}

// unit is the table with 1 where row and place are the same, made without Identity.
func unit(n int) [][]byte {
	m := same(n, n, 0)
	for i := range m {
		m[i][i] = 1
	}
	return m
}

// turned is the table whose rows are m's columns.
func turned(m [][]byte) [][]byte {
	made := same(len(m[0]), len(m), 0)
	for i, row := range m {
		for j, x := range row {
			made[j][i] = x
		}
	}
	return made
}

// triangle is a table of n rows in no order, with 1 where row and place are the same and 0 over it: none of its rows is made of the others.
func triangle(n int, seed uint32) [][]byte {
	m := mixed(n, n, seed)
	for i, row := range m {
		row[i] = 1
		clear(row[i+1:])
	}
	return m
}

// product is a times b, byte by byte, made without Mul.
func product(a, b [][]byte) [][]byte {
	made := same(len(a), len(b[0]), 0)
	for i := range made {
		for j := range made[i] {
			for k, x := range a[i] {
				if x != 0 {
					made[i][j] = gf.Add(made[i][j], gf.Mul(x, b[k][j]))
				}
			}
		}
	}
	return made
}

// ofRank is a table of that rank: columns of which none is made of the others, times as many such rows.
func ofRank(rows, places, rank int, seed uint32) [][]byte {
	if rank == 0 {
		return same(rows, places, 0)
	}
	left, right := turned(triangle(rows, seed))[:rank], turned(triangle(places, seed+1))[:rank]
	return product(turned(left), right)
}

// determinant is the sum of the products along all ways to take one byte of each row, no two at one place.
func determinant(m [][]byte) byte {
	if len(m) == 0 {
		return 1
	}
	var sum byte
	for place, x := range m[0] {
		sum = gf.Add(sum, gf.Mul(x, determinant(without(m, place))))
	}
	return sum
}

// without is m without its first row and without one place.
func without(m [][]byte, place int) [][]byte {
	var less [][]byte
	for _, row := range m[1:] {
		less = append(less, slices.Concat(row[:place], row[place+1:]))
	}
	return less
}

// rankByDeterminants is the size of the greatest square of rows and places, chosen from m, whose determinant is not 0.
func rankByDeterminants(m [][]byte) int {
	rank := 0
	for rows := range 1 << len(m) {
		chosen := choose(m, rows)
		for places := range 1 << len(m[0]) {
			square := chosen
			if len(square) > 0 {
				square = turned(square)
			}
			square = choose(square, places)
			if len(square) == len(chosen) && len(square) > rank && determinant(square) != 0 {
				rank = len(square)
			}
		}
	}
	return rank
}

// choose are those of the rows whose bit is set.
func choose(m [][]byte, set int) [][]byte {
	var chosen [][]byte
	for i, row := range m {
		if set>>i&1 == 1 {
			chosen = append(chosen, row)
		}
	}
	return chosen
}

func alike(a, b [][]byte) bool { return slices.EqualFunc(a, b, bytes.Equal) }

func clone(m [][]byte) [][]byte {
	made := make([][]byte, len(m))
	for i, row := range m {
		made[i] = bytes.Clone(row)
	}
	return made
}

// brief is a table's text, if it is not a great one.
func brief(m [][]byte) any {
	if len(m) > 8 || len(m) > 0 && len(m[0]) > 8 {
		return "a great table"
	}
	return m
}

func wantTable(t *testing.T, call string, got, want [][]byte, err api.Errno) {
	t.Helper()
	if !alike(got, want) || err != api.OK {
		t.Errorf("%s: %v, %d, want %v, OK", call, brief(got), err, brief(want))
	}
}

func wantError(t *testing.T, call string, got [][]byte, err, want api.Errno) {
	t.Helper()
	if len(got) != 0 || err != want {
		t.Errorf("%s: %v, %d, want none, %d", call, brief(got), err, want)
	}
}

func wantRank(t *testing.T, m [][]byte, want int) {
	t.Helper()
	if got, err := Rank(m); got != want || err != api.OK {
		t.Errorf("Rank of %v: %d, %d, want %d, OK", brief(m), got, err, want)
	}
}

// Promise 3.1: Check.

// refused is what is no table, and how Check tells it.
type refused struct {
	name string
	m    [][]byte
	want api.Errno
}

// unlike is m with another row in place of one of its own.
func unlike(m [][]byte, row int, with []byte) [][]byte {
	m[row] = with
	return m
}

// refusals are all kinds of what is no table.
func refusals() []refused {
	return []refused{
		{"nil", nil, api.ErrArg},
		{"no rows", [][]byte{}, api.ErrArg},
		{"no rows, but room", make([][]byte, 0, 4), api.ErrArg},
		{"a nil row", [][]byte{nil}, api.ErrArg},
		{"a row without bytes", [][]byte{{}}, api.ErrArg},
		{"rows without bytes", [][]byte{{}, nil, {}}, api.ErrArg},
		{"a first row without bytes", [][]byte{{}, {1}}, api.ErrArg},
		{"a first row that is nil", [][]byte{nil, {1, 2}}, api.ErrArg},
		{"256 rows", same(256, 1, 1), api.ErrArg},
		{"256 rows of 255", same(256, 255, 1), api.ErrArg},
		{"1000 rows", same(1000, 2, 1), api.ErrArg},
		{"256 places", same(1, 256, 1), api.ErrArg},
		{"255 rows of 256", same(255, 256, 1), api.ErrArg},
		{"1000 places", same(2, 1000, 1), api.ErrArg},
		{"256 rows of 256", same(256, 256, 1), api.ErrArg},
		{"256 rows that are unlike", unlike(same(256, 3, 1), 9, []byte{1}), api.ErrArg},
		{"256 rows without bytes", make([][]byte, 256), api.ErrArg},
		{"a first row of 256 and one of 1", [][]byte{bytes.Repeat([]byte{1}, 256), {1}}, api.ErrArg},
		{"a second row that is longer", [][]byte{{1}, {1, 2}}, api.ErrUnlike},
		{"a second row that is shorter", [][]byte{{1, 2}, {1}}, api.ErrUnlike},
		{"a second row without bytes", [][]byte{{1}, {}}, api.ErrUnlike},
		{"a second row that is nil", [][]byte{{1}, nil}, api.ErrUnlike},
		{"a third row that is longer", [][]byte{{1, 2}, {3, 4}, {5, 6, 7}}, api.ErrUnlike},
		{"a middle row that is shorter", [][]byte{{1, 2}, {3}, {5, 6}}, api.ErrUnlike},
		{"two rows unlike, with as many bytes in all", [][]byte{{1, 2}, {3}, {4, 5, 6}}, api.ErrUnlike},
		{"a second row of 256", [][]byte{{1}, bytes.Repeat([]byte{1}, 256)}, api.ErrUnlike},
		{"a second row of 256 after 255", [][]byte{bytes.Repeat([]byte{1}, 255), bytes.Repeat([]byte{1}, 256)}, api.ErrUnlike},
		{"a last row of 255 that is shorter", unlike(same(255, 255, 1), 254, bytes.Repeat([]byte{1}, 254)), api.ErrUnlike},
	}
}

// sizes are rows and places that a table may have.
func sizes() [][2]int {
	return [][2]int{{1, 1}, {1, 2}, {2, 1}, {2, 2}, {3, 2}, {2, 3}, {7, 7}, {1, 255}, {255, 1}, {254, 255}, {255, 254}, {255, 255}}
}

func TestCheck(t *testing.T) {
	for _, s := range sizes() {
		for _, m := range [][][]byte{mixed(s[0], s[1], 4), same(s[0], s[1], 0)} {
			if err := Check(m); err != api.OK {
				t.Errorf("Check of %d rows of %d: %d, want OK", s[0], s[1], err)
			}
		}
	}
	for _, x := range refusals() {
		if err := Check(x.m); err != x.want {
			t.Errorf("Check of %s: %d, want %d", x.name, err, x.want)
		}
	}
}

// Promise 3.1: Identity.

func TestIdentity(t *testing.T) {
	for n := 1; n <= 255; n++ {
		got, err := Identity(n)
		wantTable(t, "Identity", got, unit(n), err)
	}
	got, err := Identity(3)
	wantTable(t, "Identity of 3", got, [][]byte{{1, 0, 0}, {0, 1, 0}, {0, 0, 1}}, err)
	got, err = Identity(1)
	wantTable(t, "Identity of 1", got, [][]byte{{1}}, err)
}

func TestIdentityOfWhatIsNoSize(t *testing.T) {
	const most = int(^uint(0) >> 1)
	for _, n := range []int{0, -1, -2, -255, -256, 256, 257, 511, 512, 65537, most, most - 250, -most - 1, -most + 4} {
		got, err := Identity(n)
		wantError(t, "Identity", got, err, api.ErrArg)
	}
}

// Promise 3.1: Mul.

func TestMul(t *testing.T) {
	for _, x := range []struct{ a, b, want [][]byte }{
		{[][]byte{{2}}, [][]byte{{128}}, [][]byte{{29}}},
		{[][]byte{{1, 2}}, [][]byte{{3}, {4}}, [][]byte{{11}}},
		{[][]byte{{3}, {4}}, [][]byte{{1, 2}}, [][]byte{{3, 6}, {4, 8}}},
		{[][]byte{{1, 2}, {3, 4}}, [][]byte{{1, 0}, {0, 1}}, [][]byte{{1, 2}, {3, 4}}},
		{[][]byte{{1, 2}, {3, 4}}, [][]byte{{0, 1}, {1, 0}}, [][]byte{{2, 1}, {4, 3}}},
		{[][]byte{{0, 1}, {1, 0}}, [][]byte{{1, 2}, {3, 4}}, [][]byte{{3, 4}, {1, 2}}},
		{[][]byte{{1, 2}, {3, 4}}, [][]byte{{5, 6}, {7, 8}}, [][]byte{{11, 22}, {19, 42}}},
		{[][]byte{{5, 6}, {7, 8}}, [][]byte{{1, 2}, {3, 4}}, [][]byte{{15, 18}, {31, 46}}},
		{[][]byte{{1, 1, 1}}, [][]byte{{1, 2}, {4, 8}, {16, 32}}, [][]byte{{21, 42}}},
		{[][]byte{{0, 0}, {0, 0}}, [][]byte{{1, 2, 3}, {4, 5, 6}}, [][]byte{{0, 0, 0}, {0, 0, 0}}},
	} {
		got, err := Mul(x.a, x.b)
		wantTable(t, "Mul", got, x.want, err)
	}
}

func TestMulByteByByte(t *testing.T) {
	for seed, s := range [][3]int{{1, 1, 1}, {1, 2, 3}, {3, 2, 1}, {2, 1, 3}, {4, 4, 4}, {5, 9, 2}, {9, 2, 5}, {17, 33, 20}, {1, 255, 1}, {255, 1, 255}, {2, 255, 255}, {255, 2, 255}, {255, 255, 2}} {
		a, b := mixed(s[0], s[1], uint32(seed)), mixed(s[1], s[2], uint32(seed)+50)
		got, err := Mul(a, b)
		wantTable(t, "Mul", got, product(a, b), err)
		places := turned(b)
		for i, row := range a {
			for j, place := range places {
				if want, _ := vector.Dot(row, place); got[i][j] != want {
					t.Fatalf("Mul of sizes %v: %d in row %d, place %d, want the Dot %d", s, got[i][j], i, j, want)
				}
			}
		}
	}
}

func TestMulAtTheGreatestSize(t *testing.T) {
	a, b := mixed(255, 255, 7), mixed(255, 255, 8)
	got, err := Mul(a, b)
	wantTable(t, "Mul", got, product(a, b), err)
	got, err = Mul(unit(255), a)
	wantTable(t, "Mul of the Identity with a", got, a, err)
	got, err = Mul(a, unit(255))
	wantTable(t, "Mul of a with the Identity", got, a, err)
}

func TestMulOfTablesThatDoNotFit(t *testing.T) {
	for _, x := range []struct{ a, b [][]byte }{
		{[][]byte{{1, 2}}, [][]byte{{1}}},
		{[][]byte{{1}}, [][]byte{{1}, {2}}},
		{[][]byte{{1, 2}}, [][]byte{{1, 2}}},
		{[][]byte{{1}, {2}}, [][]byte{{1}, {2}}},
		{[][]byte{{1, 2}, {3, 4}, {5, 6}}, [][]byte{{1, 2}, {3, 4}, {5, 6}}},
		{[][]byte{{1, 2, 3}, {4, 5, 6}}, [][]byte{{1, 2, 3}, {4, 5, 6}}},
		{same(255, 254, 1), same(255, 255, 1)},
		{same(255, 255, 1), same(254, 255, 1)},
	} {
		got, err := Mul(x.a, x.b)
		wantError(t, "Mul of tables that do not fit", got, err, api.ErrUnlike)
	}
}

// a's error comes first, then b's, then that they do not fit.
func TestMulOfWhatIsNoTable(t *testing.T) {
	for _, x := range refusals() {
		for _, s := range sizes() {
			good := same(s[0], s[1], 1)
			got, err := Mul(x.m, good)
			wantError(t, "Mul of "+x.name+" with a table", got, err, x.want)
			got, err = Mul(good, x.m)
			wantError(t, "Mul of a table with "+x.name, got, err, x.want)
		}
		for _, y := range refusals() {
			got, err := Mul(x.m, y.m)
			wantError(t, "Mul of "+x.name+" with "+y.name, got, err, x.want)
		}
	}
}

// Promise 3.1: Rank.

func TestRank(t *testing.T) {
	for _, x := range []struct {
		m    [][]byte
		want int
	}{
		{[][]byte{{0}}, 0},
		{[][]byte{{1}}, 1},
		{[][]byte{{255}}, 1},
		{[][]byte{{0, 0, 0}}, 0},
		{[][]byte{{0, 0, 9}}, 1},
		{[][]byte{{0}, {0}, {0}}, 0},
		{[][]byte{{0}, {0}, {7}}, 1},
		{[][]byte{{3}, {5}, {7}}, 1},
		{[][]byte{{0, 0}, {0, 0}}, 0},
		{[][]byte{{1, 0}, {0, 1}}, 2},
		{[][]byte{{0, 1}, {1, 0}}, 2},
		{[][]byte{{1, 2}, {3, 4}}, 2},
		{[][]byte{{1, 2}, {1, 2}}, 1},
		{[][]byte{{1, 2}, {2, 4}}, 1},
		{[][]byte{{1, 128}, {2, 29}}, 1},
		{[][]byte{{1, 128}, {2, 0}}, 2},
		{[][]byte{{1, 2}, {0, 0}}, 1},
		{[][]byte{{0, 0}, {1, 2}}, 1},
		{[][]byte{{0, 1}, {0, 2}}, 1},
		{[][]byte{{1, 0, 0}, {0, 1, 0}, {1, 1, 0}}, 2},
		{[][]byte{{1, 2, 3}, {4, 5, 6}, {5, 7, 5}}, 2},
		{[][]byte{{1, 2, 3}, {4, 5, 6}, {5, 7, 4}}, 3},
		{[][]byte{{0, 0, 1}, {0, 0, 2}, {0, 1, 0}}, 2},
		{[][]byte{{0, 0, 1}, {0, 1, 0}, {1, 0, 0}}, 3},
		{[][]byte{{0, 0, 0, 1}, {0, 1, 0, 0}}, 2},
		{[][]byte{{1, 2, 3, 4}, {5, 6, 7, 8}}, 2},
		{[][]byte{{1, 5}, {2, 6}, {3, 7}, {4, 8}}, 2},
		{[][]byte{{1, 1}, {2, 2}, {3, 3}, {4, 5}}, 2},
		{[][]byte{{1, 1}, {2, 2}, {3, 3}, {4, 4}}, 1},
	} {
		wantRank(t, x.m, x.want)
	}
}

// All tables of some small sizes whose bytes are 0 to 3, and greater ones in which many bytes are the same.
func TestRankByDeterminants(t *testing.T) {
	for _, s := range [][2]int{{1, 1}, {1, 3}, {3, 1}, {2, 2}, {2, 3}, {3, 2}} {
		n := s[0] * s[1]
		for number := range 1 << (2 * n) {
			m := same(s[0], s[1], 0)
			for i := range n {
				m[i/s[1]][i%s[1]] = byte(number >> (2 * i) & 3)
			}
			wantRank(t, m, rankByDeterminants(m))
		}
	}
	for seed := range uint32(300) {
		m := mixed(1+int(seed%4), 1+int(seed/4%4), seed)
		for _, row := range m {
			for j := range row {
				row[j] %= byte(2 + seed%5)
			}
		}
		wantRank(t, m, rankByDeterminants(m))
	}
}

func TestRankOfTablesMadeOfARank(t *testing.T) {
	for _, x := range []struct{ rows, places, rank int }{
		{1, 255, 1}, {2, 255, 1}, {2, 255, 2}, {3, 255, 3}, {30, 50, 29}, {30, 50, 30}, {100, 20, 19}, {100, 20, 20},
		{254, 255, 3}, {254, 255, 254}, {255, 255, 128}, {255, 255, 254}, {255, 255, 255},
	} {
		m := ofRank(x.rows, x.places, x.rank, uint32(x.rank))
		wantRank(t, m, x.rank)
		wantRank(t, turned(m), x.rank)
	}
}

func TestRankOfTablesOfAllRanks(t *testing.T) {
	for rows := 1; rows <= 9; rows++ {
		for places := 1; places <= 9; places++ {
			for rank := 0; rank <= min(rows, places); rank++ {
				wantRank(t, ofRank(rows, places, rank, uint32(rows*100+places*10+rank)), rank)
			}
		}
	}
}

// Nothing but 0, and one byte alone, wherever it stands.
func TestRankOfAlmostNothing(t *testing.T) {
	for _, s := range sizes() {
		m := same(s[0], s[1], 0)
		wantRank(t, m, 0)
		for _, at := range [][2]int{{0, 0}, {s[0] - 1, 0}, {0, s[1] - 1}, {s[0] - 1, s[1] - 1}, {s[0] / 2, s[1] / 2}} {
			m[at[0]][at[1]] = 200
			wantRank(t, m, 1)
			m[at[0]][at[1]] = 0
		}
		wantRank(t, same(s[0], s[1], 77), 1)
	}
}

// A row that is made of all others adds nothing, wherever it stands.
func TestRankWithARowMadeOfOthers(t *testing.T) {
	for n := 2; n <= 12; n++ {
		for at := range n {
			m := product(triangle(n, uint32(n)), turned(triangle(n, uint32(n+at))))
			wantRank(t, m, n)
			made := make([]byte, n)
			for i, row := range m {
				if i != at {
					made, _ = vector.MulAdd(made, byte(17*i+3), row)
				}
			}
			m[at] = made
			wantRank(t, m, n-1)
		}
	}
}

func TestRankOfWhatIsNoTable(t *testing.T) {
	for _, x := range refusals() {
		if got, err := Rank(x.m); got != 0 || err != x.want {
			t.Errorf("Rank of %s: %d, %d, want 0, %d", x.name, got, err, x.want)
		}
	}
}

// Promise 3.1: Invert.

func TestInvert(t *testing.T) {
	for _, x := range []struct{ m, want [][]byte }{
		{[][]byte{{0, 1}, {1, 0}}, [][]byte{{0, 1}, {1, 0}}}, // the chapter's example
		{[][]byte{{1}}, [][]byte{{1}}},
		{[][]byte{{2}}, [][]byte{{142}}},
		{[][]byte{{1, 0}, {0, 1}}, [][]byte{{1, 0}, {0, 1}}},
		{[][]byte{{1, 1}, {0, 1}}, [][]byte{{1, 1}, {0, 1}}},
		{[][]byte{{1, 7}, {0, 1}}, [][]byte{{1, 7}, {0, 1}}},
		{[][]byte{{0, 2}, {142, 0}}, [][]byte{{0, 2}, {142, 0}}},
		{[][]byte{{2, 0}, {0, 142}}, [][]byte{{142, 0}, {0, 2}}},
		{[][]byte{{1, 2}, {3, 7}}, [][]byte{{7, 2}, {3, 1}}},
		{[][]byte{{0, 1, 0}, {0, 0, 1}, {1, 0, 0}}, [][]byte{{0, 0, 1}, {1, 0, 0}, {0, 1, 0}}},
		{[][]byte{{1, 0, 0}, {5, 1, 0}, {0, 6, 1}}, [][]byte{{1, 0, 0}, {5, 1, 0}, {30, 6, 1}}},
	} {
		got, err := Invert(x.m)
		wantTable(t, "Invert", got, x.want, err)
	}
}

func TestInvertOfOneByte(t *testing.T) {
	got, err := Invert([][]byte{{0}})
	wantError(t, "Invert of 0", got, err, api.ErrSingular)
	for x := 1; x < 256; x++ {
		want, _ := gf.Inv(byte(x))
		got, err := Invert([][]byte{{byte(x)}})
		wantTable(t, "Invert of a byte", got, [][]byte{{want}}, err)
	}
}

// Of two rows each byte is told by a rule: those on one line change places, and all are parted by the determinant.
func TestInvertOfTwoRows(t *testing.T) {
	for seed := range uint32(4000) {
		m := mixed(2, 2, seed)
		if seed%2 == 1 {
			for i := range 4 {
				m[i/2][i%2] %= 4
			}
		}
		got, err := Invert(m)
		d := determinant(m)
		if d == 0 {
			wantError(t, "Invert of two rows", got, err, api.ErrSingular)
			continue
		}
		part, _ := gf.Inv(d)
		want := [][]byte{vector.Scale(part, []byte{m[1][1], m[0][1]}), vector.Scale(part, []byte{m[1][0], m[0][0]})}
		wantTable(t, "Invert of two rows", got, want, err)
	}
}

// A table has an inverse, if its determinant is not 0, and none else.
func TestInvertByDeterminants(t *testing.T) {
	for seed := range uint32(600) {
		n := 1 + int(seed%5)
		m := mixed(n, n, seed)
		for _, row := range m {
			for j := range row {
				row[j] %= byte(2 + seed%3)
			}
		}
		got, err := Invert(m)
		if determinant(m) == 0 {
			wantError(t, "Invert", got, err, api.ErrSingular)
			continue
		}
		wantTable(t, "the product with what Invert answers", product(m, got), unit(n), err)
	}
}

func TestInvertOfTablesThatAreNotSquare(t *testing.T) {
	for _, s := range [][2]int{{1, 2}, {2, 1}, {2, 3}, {3, 2}, {1, 255}, {255, 1}, {254, 255}, {255, 254}} {
		for _, m := range [][][]byte{same(s[0], s[1], 0), mixed(s[0], s[1], 3)} {
			got, err := Invert(m)
			wantError(t, "Invert of a table that is not square", got, err, api.ErrUnlike)
		}
	}
}

func TestInvertOfALesserRank(t *testing.T) {
	for n := 1; n <= 12; n++ {
		for rank := range n {
			got, err := Invert(ofRank(n, n, rank, uint32(n+rank)))
			wantError(t, "Invert of a lesser rank", got, err, api.ErrSingular)
		}
	}
	for _, m := range [][][]byte{
		{{0, 0}, {0, 0}},
		{{1, 2}, {1, 2}},
		{{1, 2}, {2, 4}},
		{{0, 1}, {0, 2}},
		{{0, 0}, {1, 2}},
		{{1, 2, 3}, {4, 5, 6}, {5, 7, 5}},
		same(255, 255, 0), same(255, 255, 1), ofRank(255, 255, 254, 2),
	} {
		got, err := Invert(m)
		wantError(t, "Invert of a lesser rank", got, err, api.ErrSingular)
	}
}

func TestInvertOfWhatIsNoTable(t *testing.T) {
	for _, x := range refusals() {
		got, err := Invert(x.m)
		wantError(t, "Invert of "+x.name, got, err, x.want)
	}
}

// Promise 3.2: what Invert answers makes the Identity from both sides.

func wantBothSides(t *testing.T, m [][]byte) {
	t.Helper()
	one, _ := Identity(len(m))
	inverse, err := Invert(m)
	if err != api.OK {
		t.Errorf("Invert of %v: %d, want OK", brief(m), err)
		return
	}
	got, err := Mul(m, inverse)
	wantTable(t, "m with its inverse", got, one, err)
	got, err = Mul(inverse, m)
	wantTable(t, "the inverse with m", got, one, err)
	again, err := Invert(inverse)
	wantTable(t, "the inverse of the inverse", again, m, err)
}

func TestBothSides(t *testing.T) {
	for n := 1; n <= 40; n++ {
		for seed := range uint32(6) {
			m := product(triangle(n, seed), turned(triangle(n, seed+9)))
			wantBothSides(t, m)
		}
	}
	wantBothSides(t, product(triangle(255, 1), turned(triangle(255, 2))))
}

// In all orders of rows, and with other bytes than 1, a 0 stands where a pivot would.
func TestBothSidesWithZerosWherePivotsWouldStand(t *testing.T) {
	wantBothSides(t, [][]byte{{0, 3}, {5, 7}})
	wantBothSides(t, [][]byte{{0, 0, 3}, {0, 5, 7}, {9, 2, 0}})
	wantBothSides(t, [][]byte{{1, 2, 3}, {1, 2, 4}, {0, 1, 1}})
	wantBothSides(t, [][]byte{{0, 1, 1}, {1, 0, 1}, {1, 1, 1}})
	for n := 2; n <= 30; n++ {
		for step := 1; step < n; step++ {
			m := same(n, n, 0)
			for i, row := range triangle(n, uint32(n)) {
				m[(i+step)%n] = row
			}
			wantBothSides(t, m)
			wantBothSides(t, turned(m))
		}
	}
	m := unit(255)
	slices.Reverse(m)
	wantBothSides(t, m)
}

// R4: what is handed in is not changed, and what is answered is memory of its own.

// among is a table of those sizes, at the beginning of rows that are parts of one list, with bytes ahead of each and behind it, where an append to them would write.
func among(rows, places int, seed uint32) (whole []byte, m [][]byte) {
	whole = slices.Concat(mixed(rows+1, places+8, seed)...)
	m = make([][]byte, rows, rows+3)
	for i, row := range product(triangle(rows, seed), mixed(rows, places, seed)) {
		m[i] = whole[i*(places+8)+4:][:places]
		copy(m[i], row)
	}
	return whole, m
}

// calls are all calls about tables.
func calls() map[string]func(a, b [][]byte) [][]byte {
	return map[string]func(a, b [][]byte) [][]byte{
		"Check": func(a, b [][]byte) [][]byte {
			Check(a)
			return nil
		},
		"Identity": func(a, b [][]byte) [][]byte {
			made, _ := Identity(len(a))
			return made
		},
		"Mul": func(a, b [][]byte) [][]byte {
			made, _ := Mul(a, b)
			return made
		},
		"Rank": func(a, b [][]byte) [][]byte {
			Rank(a)
			return nil
		},
		"Invert": func(a, b [][]byte) [][]byte {
			made, _ := Invert(a)
			return made
		},
	}
}

// tried are pairs of tables that fit, of which the first one has an inverse, or none, or is not square.
func tried() [][2][]int {
	return [][2][]int{{{1, 1}, {1, 1}}, {{2, 2}, {2, 2}}, {{5, 5}, {5, 5}}, {{3, 7}, {7, 2}}, {{9, 4}, {4, 9}}, {{60, 60}, {60, 60}}, {{2, 3}, {2, 3}}}
}

func TestNothingHandedInIsChanged(t *testing.T) {
	for name, call := range calls() {
		for _, s := range tried() {
			wholeA, a := among(s[0][0], s[0][1], 5)
			wholeB, b := among(s[1][0], s[1][1], 6)
			if s[0][0] > 2 {
				clear(a[0][:1])
			}
			beforeA, beforeB := bytes.Clone(wholeA), bytes.Clone(wholeB)
			rowsA, rowsB := clone(a[:cap(a)]), clone(b[:cap(b)])
			call(a, b)
			if !bytes.Equal(wholeA, beforeA) || !bytes.Equal(wholeB, beforeB) || !alike(a[:cap(a)], rowsA) || !alike(b[:cap(b)], rowsB) {
				t.Errorf("%s changed what it was handed, of sizes %v", name, s)
			}
		}
	}
}

// The rows of a table that is handed in stay in their order and in their memory, even where pivots are looked for in other rows.
func TestRowsHandedInStayWhereTheyAre(t *testing.T) {
	for name, call := range calls() {
		m := [][]byte{{0, 0, 3}, {0, 5, 7}, {9, 2, 0}}
		rows := slices.Clone(m)
		before := clone(m)
		call(m, m)
		for i := range m {
			if &m[i][0] != &rows[i][0] || !bytes.Equal(m[i], before[i]) {
				t.Errorf("%s changed row %d of what it was handed", name, i)
			}
		}
	}
}

func TestNothingHandedInIsChangedBesideAnError(t *testing.T) {
	for name, call := range calls() {
		for _, x := range refusals() {
			before := clone(x.m)
			call(x.m, x.m)
			call(unit(2), x.m)
			if !alike(x.m, before) {
				t.Errorf("%s changed %s", name, x.name)
			}
		}
		m := [][]byte{{0, 1, 2}, {0, 2, 4}, {3, 1, 0}}
		call(m, m)
		if !alike(m, [][]byte{{0, 1, 2}, {0, 2, 4}, {3, 1, 0}}) {
			t.Errorf("%s changed a table of a lesser rank", name)
		}
	}
}

// Whoever writes to an answer, or behind its rows, writes neither to what was handed in nor to other rows of the answer.
func TestAnswersAreNewMemory(t *testing.T) {
	for name, call := range calls() {
		for _, s := range tried() {
			wholeA, a := among(s[0][0], s[0][1], 5)
			wholeB, b := among(s[1][0], s[1][1], 6)
			beforeA, beforeB := bytes.Clone(wholeA), bytes.Clone(wholeB)
			got := call(a, b)
			before := clone(got)
			for i, row := range got {
				_ = append(row, 99, 98, 97)
				for j := range row {
					row[j]++
				}
				if !alike(got[i+1:], before[i+1:]) || !alike(got[:i], before[:i]) {
					t.Errorf("%s of sizes %v answers rows that share memory", name, s)
				}
				copy(row, before[i])
			}
			for _, row := range got {
				clear(row)
			}
			if !bytes.Equal(wholeA, beforeA) || !bytes.Equal(wholeB, beforeB) {
				t.Errorf("%s of sizes %v answers memory that it was handed", name, s)
			}
		}
	}
}

// Whoever writes to what was handed in does not change what was answered.
func TestAnswersStay(t *testing.T) {
	for name, call := range calls() {
		for _, s := range tried() {
			wholeA, a := among(s[0][0], s[0][1], 5)
			wholeB, b := among(s[1][0], s[1][1], 6)
			got := call(a, b)
			before := clone(got)
			clear(wholeA)
			clear(wholeB)
			call(a, b)
			if !alike(got, before) {
				t.Errorf("%s of sizes %v answers memory that it was handed", name, s)
			}
		}
	}
}

// One table may be handed in twice, and one row stand in a table more than once.
func TestATableWithItself(t *testing.T) {
	m := mixed(20, 20, 9)
	before := clone(m)
	got, err := Mul(m, m)
	wantTable(t, "Mul of a table with itself", got, product(before, before), err)
	row := []byte{0, 4, 6}
	twice := [][]byte{row, row, {1, 2, 3}}
	wantRank(t, twice, 2)
	got, err = Invert(twice)
	wantError(t, "Invert of a table with a row twice", got, err, api.ErrSingular)
	if !alike(m, before) || !bytes.Equal(row, []byte{0, 4, 6}) {
		t.Error("a table that was handed in twice was changed")
	}
}

// R5: what is answered hangs on the arguments alone.
func TestAskedAgain(t *testing.T) {
	for name, call := range calls() {
		_, a := among(30, 30, 5)
		_, b := among(30, 30, 6)
		first := call(a, b)
		call(b, a)
		if !alike(first, call(a, b)) {
			t.Errorf("%s answers another table when it is asked again", name)
		}
	}
}
