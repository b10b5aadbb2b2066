package vector

import (
	"bytes"
	"testing"

	"lightship/api"
	"lightship/gf"
)

// mixed is a row of n bytes in no order, another one for each seed: 256 of them hold all bytes once.
func mixed(n int, seed byte) []byte {
	v := make([]byte, n)
	for i := range v {
		v[i] = byte(i)*(2*seed+1) + seed
	}
	return v
}

// same is a row of n times c.
func same(n int, c byte) []byte { return bytes.Repeat([]byte{c}, n) }

// lengths are those at which rows are tried, from none on.
func lengths() []int { return []int{0, 1, 2, 3, 7, 8, 9, 31, 32, 33, 255, 256, 257, 1024, 5000} }

// empties are all pairs of rows that have no byte: nil is the same as a row of length 0.
func empties() [][2][]byte {
	none, roomy := []byte{}, make([]byte, 0, 8)
	return [][2][]byte{{nil, nil}, {nil, none}, {none, nil}, {none, none}, {nil, roomy}, {roomy, nil}, {roomy, roomy}}
}

// unlikes are pairs of rows that are unlike long.
func unlikes() [][2][]byte {
	return [][2][]byte{
		{nil, {1}}, {{1}, nil}, {{}, {0}}, {{0}, {}},
		{{1}, {1, 2}}, {{1, 2}, {1}}, {{1, 2, 0}, {1, 2}}, {{0, 0}, {0, 0, 0}},
		{mixed(255, 3), mixed(256, 3)}, {mixed(1025, 3), mixed(1024, 3)}, {nil, mixed(1024, 3)},
	}
}

func wantRow(t *testing.T, call string, got, want []byte, err api.Errno) {
	t.Helper()
	if !bytes.Equal(got, want) || err != api.OK {
		t.Errorf("%s: %v, %d, want %v, OK", call, got, err, want)
	}
}

// Promise 2.1: ordinary rows, with answers told by hand.

func TestAdd(t *testing.T) {
	for _, x := range []struct{ a, b, want []byte }{
		{[]byte{5}, []byte{3}, []byte{6}},
		{[]byte{1, 2, 3}, []byte{4, 5, 6}, []byte{5, 7, 5}},
		{[]byte{0, 255, 170}, []byte{255, 255, 85}, []byte{255, 0, 255}},
		{[]byte{9, 8}, []byte{0, 0}, []byte{9, 8}},
		{[]byte{0, 0}, []byte{9, 8}, []byte{9, 8}},
		{[]byte{9, 8, 7}, []byte{9, 8, 7}, []byte{0, 0, 0}},
	} {
		got, err := Add(x.a, x.b)
		wantRow(t, "Add", got, x.want, err)
	}
}

func TestScale(t *testing.T) {
	for _, x := range []struct {
		c       byte
		v, want []byte
	}{
		{2, []byte{128, 1, 142}, []byte{29, 2, 1}},
		{3, []byte{3, 2, 1, 0}, []byte{5, 6, 3, 0}},
		{255, []byte{255, 1}, []byte{226, 255}},
		{142, []byte{2, 4}, []byte{1, 2}},
		{0, []byte{1, 2, 255}, []byte{0, 0, 0}},
		{1, []byte{1, 2, 255}, []byte{1, 2, 255}},
		{77, []byte{0, 0}, []byte{0, 0}},
	} {
		wantRow(t, "Scale", Scale(x.c, x.v), x.want, api.OK)
	}
}

func TestMulAdd(t *testing.T) {
	for _, x := range []struct {
		a       []byte
		c       byte
		b, want []byte
	}{
		{[]byte{1, 1}, 2, []byte{128, 3}, []byte{28, 7}},
		{[]byte{5, 6, 3, 0}, 3, []byte{3, 2, 1, 0}, []byte{0, 0, 0, 0}},
		{[]byte{0, 0}, 255, []byte{255, 1}, []byte{226, 255}},
		{[]byte{5, 6}, 0, []byte{255, 1}, []byte{5, 6}},
		{[]byte{5, 6}, 1, []byte{3, 6}, []byte{6, 0}},
		{[]byte{5, 6}, 9, []byte{0, 0}, []byte{5, 6}},
	} {
		got, err := MulAdd(x.a, x.c, x.b)
		wantRow(t, "MulAdd", got, x.want, err)
	}
}

func TestDot(t *testing.T) {
	for _, x := range []struct {
		a, b []byte
		want byte
	}{
		{[]byte{1, 2}, []byte{3, 4}, 11}, // the chapter's example
		{[]byte{3, 4}, []byte{1, 2}, 11},
		{[]byte{128}, []byte{2}, 29},
		{[]byte{128, 1, 255}, []byte{2, 29, 1}, 255},
		{[]byte{7, 7}, []byte{9, 9}, 0},
		{[]byte{0, 0, 0}, []byte{1, 2, 3}, 0},
		{[]byte{0, 0, 1}, []byte{1, 2, 3}, 3},
		{[]byte{1, 0, 0}, []byte{1, 2, 3}, 1},
	} {
		if got, err := Dot(x.a, x.b); got != x.want || err != api.OK {
			t.Errorf("Dot(%v, %v): %d, %d, want %d, OK", x.a, x.b, got, err, x.want)
		}
	}
}

// Promise 2.1: the edges.

func TestRowsWithoutBytes(t *testing.T) {
	for _, x := range empties() {
		sum, err := Add(x[0], x[1])
		wantRow(t, "Add of none", sum, nil, err)
		for _, c := range []byte{0, 1, 2, 255} {
			wantRow(t, "Scale of none", Scale(c, x[0]), nil, api.OK)
			both, err := MulAdd(x[0], c, x[1])
			wantRow(t, "MulAdd of none", both, nil, err)
		}
		if got, err := Dot(x[0], x[1]); got != 0 || err != api.OK {
			t.Errorf("Dot of none: %d, %d, want 0, OK", got, err)
		}
	}
}

func TestRowsUnlikeLong(t *testing.T) {
	for _, x := range unlikes() {
		if got, err := Add(x[0], x[1]); len(got) != 0 || err != api.ErrUnlike {
			t.Errorf("Add of %d and %d bytes: %v, %d, want none, ErrUnlike", len(x[0]), len(x[1]), got, err)
		}
		for _, c := range []byte{0, 1, 2, 255} {
			if got, err := MulAdd(x[0], c, x[1]); len(got) != 0 || err != api.ErrUnlike {
				t.Errorf("MulAdd of %d and %d times %d bytes: %v, %d, want none, ErrUnlike", len(x[0]), c, len(x[1]), got, err)
			}
		}
		if got, err := Dot(x[0], x[1]); got != 0 || err != api.ErrUnlike {
			t.Errorf("Dot of %d and %d bytes: %d, %d, want 0, ErrUnlike", len(x[0]), len(x[1]), got, err)
		}
	}
}

// With 0 nothing is left of a row, and nothing comes of it; with 1 it stays as it is.
func TestZeroAndOne(t *testing.T) {
	for _, n := range lengths() {
		a, b := mixed(n, 5), mixed(n, 90)
		wantRow(t, "Scale with 0", Scale(0, a), same(n, 0), api.OK)
		wantRow(t, "Scale with 1", Scale(1, a), a, api.OK)
		got, err := MulAdd(a, 0, b)
		wantRow(t, "MulAdd with 0", got, a, err)
		got, err = MulAdd(a, 1, b)
		sum, _ := Add(a, b)
		wantRow(t, "MulAdd with 1", got, sum, err)
	}
}

// Promise 2.1: what chapter 1's calls answer, byte by byte.

func TestAddByteByByte(t *testing.T) {
	for _, n := range lengths() {
		for seed := range 8 {
			a, b := mixed(n, byte(seed)), mixed(n, byte(seed*31+7))
			want := make([]byte, n)
			for i := range want {
				want[i] = gf.Add(a[i], b[i])
			}
			got, err := Add(a, b)
			wantRow(t, "Add", got, want, err)
		}
	}
}

func TestScaleByteByByte(t *testing.T) {
	for i := range 256 {
		c := byte(i)
		for _, n := range lengths() {
			v := mixed(n, c)
			want := make([]byte, n)
			for i := range want {
				want[i] = gf.Mul(c, v[i])
			}
			wantRow(t, "Scale", Scale(c, v), want, api.OK)
		}
	}
}

func TestMulAddByteByByte(t *testing.T) {
	for i := range 256 {
		c := byte(i)
		for _, n := range lengths() {
			a, b := mixed(n, c+1), mixed(n, c*3+2)
			want := make([]byte, n)
			for i := range want {
				want[i] = gf.Add(a[i], gf.Mul(c, b[i]))
			}
			got, err := MulAdd(a, c, b)
			wantRow(t, "MulAdd", got, want, err)
		}
	}
}

func TestDotByteByByte(t *testing.T) {
	for _, n := range lengths() {
		for seed := range 64 {
			a, b := mixed(n, byte(seed)), mixed(n, byte(seed*31+7))
			var want byte
			for i := range a {
				want = gf.Add(want, gf.Mul(a[i], b[i]))
			}
			if got, err := Dot(a, b); got != want || err != api.OK {
				t.Errorf("Dot of %d bytes, seed %d: %d, %d, want %d, OK", n, seed, got, err, want)
			}
		}
	}
}

// Each byte of a row counts, wherever it stands.
func TestDotOfOneByteAmongZeros(t *testing.T) {
	for _, n := range lengths() {
		b := mixed(n, 11)
		for at := range min(n, 300) {
			a := same(n, 0)
			a[at] = 200
			if got, err := Dot(a, b); got != gf.Mul(200, b[at]) || err != api.OK {
				t.Fatalf("Dot of %d bytes, 200 at %d: %d, %d, want %d, OK", n, at, got, err, gf.Mul(200, b[at]))
			}
		}
	}
}

// R4: what is handed in is not changed, and what is answered is memory of its own.

// rowsAmongOthers are two rows of n bytes that are parts of one list, with bytes ahead of each and behind it, where an append to them would write.
func rowsAmongOthers(n int) (whole, a, b []byte) {
	whole = mixed(2*n+24, 77)
	return whole, whole[8 : 8+n], whole[16+n : 16+2*n]
}

// rowCalls are the calls that answer a row.
func rowCalls() map[string]func(a, b []byte) []byte {
	return map[string]func(a, b []byte) []byte{
		"Add": func(a, b []byte) []byte {
			sum, _ := Add(a, b)
			return sum
		},
		"Scale with 0": func(a, b []byte) []byte { return Scale(0, a) },
		"Scale with 1": func(a, b []byte) []byte { return Scale(1, a) },
		"Scale with 7": func(a, b []byte) []byte { return Scale(7, a) },
		"MulAdd with 0": func(a, b []byte) []byte {
			sum, _ := MulAdd(a, 0, b)
			return sum
		},
		"MulAdd with 1": func(a, b []byte) []byte {
			sum, _ := MulAdd(a, 1, b)
			return sum
		},
		"MulAdd with 7": func(a, b []byte) []byte {
			sum, _ := MulAdd(a, 7, b)
			return sum
		},
	}
}

func TestNothingHandedInIsChanged(t *testing.T) {
	for name, call := range rowCalls() {
		for _, n := range lengths() {
			whole, a, b := rowsAmongOthers(n)
			before := bytes.Clone(whole)
			call(a, b)
			if !bytes.Equal(whole, before) {
				t.Errorf("%s changed what it was handed, of %d bytes", name, n)
			}
		}
	}
	for _, n := range lengths() {
		whole, a, b := rowsAmongOthers(n)
		before := bytes.Clone(whole)
		Dot(a, b)
		if !bytes.Equal(whole, before) {
			t.Errorf("Dot changed what it was handed, of %d bytes", n)
		}
	}
}

func TestNothingHandedInIsChangedBesideAnError(t *testing.T) {
	for _, x := range unlikes() {
		a, b := bytes.Clone(x[0]), bytes.Clone(x[1])
		Add(x[0], x[1])
		MulAdd(x[0], 7, x[1])
		Dot(x[0], x[1])
		if !bytes.Equal(a, x[0]) || !bytes.Equal(b, x[1]) {
			t.Errorf("rows of %d and %d bytes were changed", len(a), len(b))
		}
	}
}

// Whoever writes to an answer, or behind it, does not write to what was handed in.
func TestAnswersAreNewMemory(t *testing.T) {
	for name, call := range rowCalls() {
		for _, n := range lengths() {
			whole, a, b := rowsAmongOthers(n)
			before := bytes.Clone(whole)
			got := call(a, b)
			for i := range got {
				got[i]++
			}
			_ = append(got, 1, 2, 3)
			if !bytes.Equal(whole, before) {
				t.Errorf("%s of %d bytes answers memory that it was handed", name, n)
			}
		}
	}
}

// Whoever writes to what was handed in does not change what was answered.
func TestAnswersStay(t *testing.T) {
	for name, call := range rowCalls() {
		for _, n := range lengths() {
			whole, a, b := rowsAmongOthers(n)
			got := call(a, b)
			before := bytes.Clone(got)
			clear(whole)
			if !bytes.Equal(got, before) {
				t.Errorf("%s of %d bytes answers memory that it was handed", name, n)
			}
		}
	}
}

// Two who append to one answer do not write over each other.
func TestAppendsToOneAnswerStayApart(t *testing.T) {
	for name, call := range rowCalls() {
		for _, n := range lengths() {
			got := call(mixed(n, 1), mixed(n, 2))
			one := append(got, 1)
			other := append(got, 2)
			if one[n] != 1 || other[n] != 2 {
				t.Errorf("%s of %d bytes: appended 1 and 2, got %d and %d", name, n, one[n], other[n])
			}
		}
	}
}

// One row may be handed in twice.
func TestARowWithItself(t *testing.T) {
	for _, n := range lengths() {
		v := mixed(n, 9)
		before := bytes.Clone(v)
		sum, err := Add(v, v)
		wantRow(t, "Add of a row with itself", sum, same(n, 0), err)
		sum, err = MulAdd(v, 3, v)
		wantRow(t, "MulAdd of a row with three times itself", sum, Scale(2, v), err)
		wantRow(t, "the row", v, before, api.OK)
	}
}

// R5: what is answered hangs on the arguments alone.
func TestAskedAgain(t *testing.T) {
	for name, call := range rowCalls() {
		a, b := mixed(300, 4), mixed(300, 6)
		first := call(a, b)
		call(b, a)
		if !bytes.Equal(first, call(a, b)) {
			t.Errorf("%s answers another row when it is asked again", name)
		}
	}
}
