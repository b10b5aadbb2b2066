package decode_test

import (
	"strings"

	"lightship/api"
)

// What chapters 1 to 6 and 20 say, reckoned out by their words alone, without their packages.

// products are those of all bytes, and inverses what makes 1 with each.
var products, inverses = field()

func field() (*[256][256]byte, *[256]byte) {
	var all [256][256]byte
	var ones [256]byte
	for a := range 256 {
		for b := range 256 {
			all[a][b] = product(a, b)
			if all[a][b] == 1 {
				ones[a] = byte(b)
			}
		}
	}
	return &all, &ones
}

// product is a times b as polynomials over bits, and what is left of that by x^8, x^4, x^3, x^2, 1 together.
func product(a, b int) byte {
	whole := 0
	for bit := range 8 {
		if b>>bit&1 == 1 {
			whole ^= a << bit
		}
	}
	for bit := 14; bit >= 8; bit-- {
		if whole>>bit&1 == 1 {
			whole ^= 0x11d << (bit - 8)
		}
	}
	return byte(whole)
}

// plainRow is row i of k bytes (4).
func plainRow(k, i int) []byte {
	row := make([]byte, k)
	for j := range row {
		switch {
		case i >= k:
			row[j] = inverses[i^j]
		case i == j:
			row[j] = 1
		}
	}
	return row
}

// plainShard is shard i of data (5).
func plainShard(data []string, i int) string {
	made := make([]byte, len(data[0]))
	for j, c := range plainRow(len(data), i) {
		for place := range made {
			made[place] ^= products[c][data[j][place]]
		}
	}
	return string(made)
}

// plainCut is s in m texts, bytes 0 behind (6).
func plainCut(s string, m int) []string {
	size := 0
	for size*m < len(s) {
		size++
	}
	s += strings.Repeat("\x00", size*m-len(s))
	l := make([]string, m)
	for i := range l {
		l[i] = s[i*size : (i+1)*size]
	}
	return l
}

// plainShards is what chapter 20 says of Shards.
func plainShards(s string, k, repair int) ([]string, int, api.Errno) {
	if k < 1 || k > 32 || repair < 0 || repair > 255-k {
		return nil, 0, api.ErrArg
	}
	if len(s) == 0 || len(s) > k*1024 {
		return nil, 0, api.ErrLong
	}
	m := k
	if len(s) < k {
		m = len(s)
	}
	data := plainCut(s, m)
	var l []string
	for i := range m + repair {
		l = append(l, plainShard(data, i))
	}
	return l, m, api.OK
}

// plainDecode is what chapter 5 says of Decode.
func plainDecode(k, n int, l []api.Shard) ([]string, api.Errno) {
	if k < 1 || k > 32 || n < k || n > 255 {
		return nil, api.ErrArg
	}
	bodies := map[int]string{}
	var first []api.Shard
	for _, x := range l {
		if x.Index < 0 || x.Index >= n {
			return nil, api.ErrRange
		}
		if len(x.Body) < 1 || len(x.Body) > 1024 {
			return nil, api.ErrLong
		}
		body, was := bodies[x.Index]
		if len(x.Body) != len(l[0].Body) || was && body != x.Body {
			return nil, api.ErrUnlike
		}
		if !was {
			bodies[x.Index] = x.Body
			first = append(first, x)
		}
	}
	if len(first) < k {
		return nil, api.ErrLess
	}
	return plainSolve(first[:k]), api.OK
}

// plainSolve are the data whose shards l are, as many as data: rows are taken from one another, until each has a 1 alone.
func plainSolve(l []api.Shard) []string {
	rows := make([][]byte, len(l))
	for i, x := range l {
		rows[i] = append(plainRow(len(l), x.Index), x.Body...)
	}
	for at := range rows {
		lead := at
		for rows[lead][at] == 0 {
			lead++
		}
		rows[at], rows[lead] = rows[lead], rows[at]
		scale := inverses[rows[at][at]]
		for place, b := range rows[at] {
			rows[at][place] = products[scale][b]
		}
		for i, row := range rows {
			if c := row[at]; i != at && c != 0 {
				for place, b := range rows[at] {
					row[place] ^= products[c][b]
				}
			}
		}
	}
	data := make([]string, len(l))
	for i, row := range rows {
		data[i] = string(row[len(l):])
	}
	return data
}

// plainJoin is what chapter 6 says of Join, of texts that are equally long.
func plainJoin(l []string, length int) (string, api.Errno) {
	all := strings.Join(l, "")
	if length < 0 || length > len(all) {
		return "", api.ErrRange
	}
	for _, b := range []byte(all[length:]) {
		if b != 0 {
			return "", api.ErrForm
		}
	}
	return all[:length], api.OK
}

// plainDo is what chapter 20 says of Do.
func plainDo(j api.Job) api.Result {
	data, err := plainDecode(j.K, j.N, j.Shards)
	if err != api.OK {
		return api.Result{Key: j.Key, Err: err}
	}
	body, err := plainJoin(data, j.Len)
	return api.Result{Key: j.Key, Body: body, Err: err}
}
