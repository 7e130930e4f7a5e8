package bigend_test

import (
	"bytes"
	"encoding/binary"
	"math"
	"math/big"
	"math/rand"
	"testing"

	"tempo/api"
	"tempo/bigend"
)

const maxUint = uint64(math.MaxUint64)

// numbers returns the numbers at all edges (powers of two and their neighbours), and some others; always the same ones.
func numbers() []uint64 {
	out := []uint64{0, maxUint, 258, 0x0102030405060708, 0xfedcba9876543210}
	for bit := range 64 {
		power := uint64(1) << bit
		out = append(out, power-1, power, power+1)
	}
	random := rand.New(rand.NewSource(1))
	for range 200 {
		out = append(out, random.Uint64()>>random.Intn(64))
	}
	return out
}

// fits says by the definition, with numbers of any size, whether n is less than 256^width.
func fits(n uint64, width int) bool {
	bound := new(big.Int).Exp(big.NewInt(256), big.NewInt(int64(width)), nil)
	return new(big.Int).SetUint64(n).Cmp(bound) < 0
}

// fixed returns the encoding of n in a width, by division.
func fixed(n uint64, width int) []byte {
	out := make([]byte, width)
	for i := width - 1; i >= 0; i-- {
		out[i] = byte(n % 256)
		n /= 256
	}
	return out
}

// grouped returns the encoding of n in groups, by division.
func grouped(n uint64) []byte {
	out := []byte{byte(n % 128)}
	for n /= 128; n > 0; n /= 128 {
		out = append([]byte{128 + byte(n%128)}, out...)
	}
	return out
}

// words calls f for all byte strings of up to so many bytes, each from the alphabet.
func words(alphabet []byte, length int, f func([]byte)) {
	var extend func(word []byte)
	extend = func(word []byte) {
		f(bytes.Clone(word))
		if len(word) == length {
			return
		}
		for _, letter := range alphabet {
			extend(append(bytes.Clone(word), letter))
		}
	}
	extend(nil)
}

func repeat(b byte, count int, rest ...byte) []byte {
	return append(bytes.Repeat([]byte{b}, count), rest...)
}

// P1.1
func TestAppend(t *testing.T) {
	for _, x := range []struct {
		name  string
		b     []byte
		n     uint64
		width int
		want  []byte
		e     api.Errno
	}{
		{"behind a byte", []byte{7}, 258, 3, []byte{7, 0, 1, 2}, api.OK},
		{"behind nothing", []byte{}, 5, 2, []byte{0, 5}, api.OK},
		{"nil", nil, 0, 1, []byte{0}, api.OK},
		{"zeros", nil, 0, 8, make([]byte, 8), api.OK},
		{"greatest of 1", nil, 255, 1, []byte{255}, api.OK},
		{"too great for 1", []byte{1}, 256, 1, nil, api.ErrOver},
		{"greatest of 7", nil, 1<<56 - 1, 7, repeat(255, 7), api.OK},
		{"too great for 7", nil, 1 << 56, 7, nil, api.ErrOver},
		{"greatest of 8", nil, maxUint, 8, repeat(255, 8), api.OK},
		{"the high bit alone", nil, 1 << 63, 8, []byte{128, 0, 0, 0, 0, 0, 0, 0}, api.OK},
		{"width 0", []byte{1}, 0, 0, nil, api.ErrArg},
		{"width 9", nil, 0, 9, nil, api.ErrArg},
		{"width below 0", nil, 0, -1, nil, api.ErrArg},
		{"least width", nil, 0, math.MinInt, nil, api.ErrArg},
		{"greatest width", nil, 0, math.MaxInt, nil, api.ErrArg},
		{"the width before the number", nil, maxUint, 0, nil, api.ErrArg},
	} {
		if b, e := bigend.Append(x.b, x.n, x.width); !bytes.Equal(b, x.want) || e != x.e {
			t.Errorf("%s: Append(%x, %d, %d) = %x, %d", x.name, x.b, x.n, x.width, b, e)
		}
	}
}

// P1.1
func TestAppendIsTheEncoding(t *testing.T) {
	prefix := []byte{200, 0}
	for _, n := range numbers() {
		for width := 1; width <= 8; width++ {
			want, wantErr := append(bytes.Clone(prefix), fixed(n, width)...), api.OK
			if !fits(n, width) {
				want, wantErr = nil, api.ErrOver
			}
			if b, e := bigend.Append(prefix, n, width); !bytes.Equal(b, want) || e != wantErr {
				t.Errorf("Append(%x, %d, %d) = %x, %d", prefix, n, width, b, e)
			}
		}
		if b, _ := bigend.Append(nil, n, 8); !bytes.Equal(b, binary.BigEndian.AppendUint64(nil, n)) {
			t.Errorf("Append(nil, %d, 8) = %x", n, b)
		}
	}
}

// P1.2
func TestUint(t *testing.T) {
	b := []byte{7, 0, 1, 2, 9, 8, 7, 6, 255}
	for _, x := range []struct {
		name      string
		b         []byte
		at, width int
		n         uint64
		e         api.Errno
	}{
		{"in the middle", b, 1, 3, 258, api.OK},
		{"the first byte", b, 0, 1, 7, api.OK},
		{"the last byte", b, 8, 1, 255, api.OK},
		{"the first eight", b, 0, 8, 0x0700010209080706, api.OK},
		{"the last eight", b, 1, 8, 0x00010209080706ff, api.OK},
		{"all ones", repeat(255, 8), 0, 8, maxUint, api.OK},
		{"one byte short", b, 2, 8, 0, api.ErrTorn},
		{"one byte short, in width 2", b, 8, 2, 0, api.ErrTorn},
		{"at the end", b, 9, 1, 0, api.ErrTorn},
		{"behind the end", b, 10, 1, 0, api.ErrTorn},
		{"greatest offset", b, math.MaxInt, 1, 0, api.ErrTorn},
		{"greatest offset and width", b, math.MaxInt, 8, 0, api.ErrTorn},
		{"the sum would be 0", b, math.MaxInt - 7, 8, 0, api.ErrTorn},
		{"nil", nil, 0, 1, 0, api.ErrTorn},
		{"empty", []byte{}, 0, 8, 0, api.ErrTorn},
		{"offset below 0", b, -1, 1, 0, api.ErrRange},
		{"least offset", b, math.MinInt, 8, 0, api.ErrRange},
		{"the offset before the length", nil, -1, 8, 0, api.ErrRange},
		{"width 0", b, 0, 0, 0, api.ErrArg},
		{"width 9", repeat(1, 20), 0, 9, 0, api.ErrArg},
		{"width below 0", b, 0, -1, 0, api.ErrArg},
		{"least width", b, 0, math.MinInt, 0, api.ErrArg},
		{"greatest width", b, 0, math.MaxInt, 0, api.ErrArg},
		{"the width before the offset", b, -1, 0, 0, api.ErrArg},
		{"the width before the length", nil, 0, 9, 0, api.ErrArg},
	} {
		if n, e := bigend.Uint(x.b, x.at, x.width); n != x.n || e != x.e {
			t.Errorf("%s: Uint(%x, %d, %d) = %d, %d", x.name, x.b, x.at, x.width, n, e)
		}
	}
}

// R4: elements behind the length are not read.
func TestNothingBehindTheLengthIsRead(t *testing.T) {
	whole := []byte{0x81, 0, 5, 6}
	if n, e := bigend.Uint(whole[:1], 0, 2); n != 0 || e != api.ErrTorn {
		t.Errorf("Uint = %d, %d", n, e)
	}
	if n, next, e := bigend.Var(whole[:1], 0); n != 0 || next != 0 || e != api.ErrTorn {
		t.Errorf("Var = %d, %d, %d", n, next, e)
	}
	if c := bigend.Compare(whole[:1], whole); c != -1 {
		t.Errorf("Compare = %d", c)
	}
}

// P1.3
func TestAppendVar(t *testing.T) {
	for _, x := range []struct {
		n    uint64
		want []byte
	}{
		{0, []byte{0}},
		{1, []byte{1}},
		{127, []byte{0x7f}},
		{128, []byte{0x81, 0}},
		{255, []byte{0x81, 0x7f}},
		{16383, []byte{0xff, 0x7f}},
		{16384, []byte{0x81, 0x80, 0}},
		{1<<63 - 1, repeat(0xff, 8, 0x7f)},
		{1 << 63, append([]byte{0x81}, repeat(0x80, 8, 0)...)},
		{maxUint, append([]byte{0x81}, repeat(0xff, 8, 0x7f)...)},
	} {
		if b := bigend.AppendVar(nil, x.n); !bytes.Equal(b, x.want) {
			t.Errorf("AppendVar(nil, %d) = %x", x.n, b)
		}
		if size := bigend.Size(x.n); size != len(x.want) {
			t.Errorf("Size(%d) = %d", x.n, size)
		}
	}
	for _, n := range numbers() {
		for _, b := range [][]byte{nil, {}, {9}, {128, 200, 0}} {
			if got := bigend.AppendVar(b, n); !bytes.Equal(got, append(bytes.Clone(b), grouped(n)...)) {
				t.Errorf("AppendVar(%x, %d) = %x", b, n, got)
			}
		}
	}
}

// P1.3
func TestSize(t *testing.T) {
	for size := 1; size <= 9; size++ {
		last := uint64(1)<<(7*size) - 1
		if got := bigend.Size(last); got != size {
			t.Errorf("Size(%d) = %d", last, got)
		}
		if got := bigend.Size(last + 1); got != size+1 {
			t.Errorf("Size(%d) = %d", last+1, got)
		}
	}
	for _, n := range numbers() {
		if got := bigend.Size(n); got != len(bigend.AppendVar(nil, n)) || got < 1 || got > 10 {
			t.Errorf("Size(%d) = %d", n, got)
		}
	}
}

// P1.4
func TestVar(t *testing.T) {
	most := append([]byte{0x81}, repeat(0xff, 8, 0x7f)...)
	for _, x := range []struct {
		name string
		b    []byte
		at   int
		n    uint64
		next int
	}{
		{"two groups", []byte{5, 0x81, 0}, 1, 128, 3},
		{"one group", []byte{5, 0x81, 0}, 0, 5, 1},
		{"zero", []byte{0}, 0, 0, 1},
		{"from the middle of groups", []byte{0x81, 0x82, 3}, 1, 259, 3},
		{"the last of groups", []byte{0x81, 0x80, 3}, 2, 3, 3},
		{"128 behind the first byte", []byte{0x81, 0x80, 0x80, 0}, 0, 1 << 21, 4},
		{"nothing behind is read", []byte{0x7f, 0x80, 0x80}, 0, 127, 1},
		{"the greatest number", most, 0, maxUint, 10},
		{"the greatest number, bytes on both sides", append(append([]byte{1, 2}, most...), 0xff), 2, maxUint, 12},
		{"2^63", append([]byte{0x81}, repeat(0x80, 8, 0)...), 0, 1 << 63, 10},
		{"nine groups", repeat(0xff, 8, 0x7f), 0, 1<<63 - 1, 9},
	} {
		if n, next, e := bigend.Var(x.b, x.at); n != x.n || next != x.next || e != api.OK {
			t.Errorf("%s: Var(%x, %d) = %d, %d, %d", x.name, x.b, x.at, n, next, e)
		}
	}
}

// P1.4
func TestVarErrors(t *testing.T) {
	for _, x := range []struct {
		name string
		b    []byte
		at   int
		e    api.Errno
	}{
		{"offset below 0", []byte{5}, -1, api.ErrRange},
		{"least offset", []byte{5}, math.MinInt, api.ErrRange},
		{"the offset before the end", nil, -1, api.ErrRange},
		{"nil", nil, 0, api.ErrTorn},
		{"at the end", []byte{5}, 1, api.ErrTorn},
		{"behind the end", []byte{5}, 2, api.ErrTorn},
		{"greatest offset", []byte{5}, math.MaxInt, api.ErrTorn},
		{"no last group", []byte{0x81}, 0, api.ErrTorn},
		{"the last group is in front", []byte{5, 0x81, 0xff}, 1, api.ErrTorn},
		{"the end before the form", []byte{0x80}, 0, api.ErrTorn},
		{"the end before the form, many groups", repeat(0x80, 30), 0, api.ErrTorn},
		{"the end before the size", repeat(0xff, 30), 0, api.ErrTorn},
		{"zero in two groups", []byte{0x80, 0}, 0, api.ErrForm},
		{"one in two groups", []byte{0x80, 1}, 0, api.ErrForm},
		{"at an offset", []byte{0x81, 0x80, 1}, 1, api.ErrForm},
		{"the form before the size", append([]byte{0x80}, repeat(0xff, 30, 0)...), 0, api.ErrForm},
		{"the greatest number, one more group", append([]byte{0x80, 0x81}, repeat(0xff, 8, 0x7f)...), 0, api.ErrForm},
		{"2^64", append([]byte{0x82}, repeat(0x80, 8, 0)...), 0, api.ErrOver},
		{"2^64 and more", append([]byte{0x83}, repeat(0xff, 8, 0x7f)...), 0, api.ErrOver},
		{"ten groups of ones", repeat(0xff, 9, 0x7f), 0, api.ErrOver},
		{"2^70", append([]byte{0x81}, repeat(0x80, 9, 0)...), 0, api.ErrOver},
		{"eleven ones and zero", repeat(0xff, 11, 0), 0, api.ErrOver},
		{"a number that is small modulo 2^64", append([]byte{0x81}, repeat(0x80, 15, 5)...), 0, api.ErrOver},
		{"a last group far behind", repeat(0x81, 1000, 0), 0, api.ErrOver},
		{"at an offset", append([]byte{5, 0x82}, repeat(0x80, 8, 0)...), 1, api.ErrOver},
	} {
		if n, next, e := bigend.Var(x.b, x.at); n != 0 || next != 0 || e != x.e {
			t.Errorf("%s: Var(%x, %d) = %d, %d, %d; want the error %d", x.name, x.b, x.at, n, next, e, x.e)
		}
	}
}

// P1.5
func TestCompare(t *testing.T) {
	for _, x := range []struct {
		a, b []byte
		want int
	}{
		{nil, nil, 0},
		{nil, []byte{}, 0},
		{nil, []byte{0}, -1},
		{[]byte{1, 2}, []byte{1, 3}, -1},
		{[]byte{1}, []byte{1, 0}, -1},
		{[]byte{255}, []byte{0, 0}, 1},
		{[]byte{127}, []byte{128}, -1},
		{[]byte{0}, []byte{255}, -1},
		{[]byte{2, 0}, []byte{1, 255}, 1},
		{[]byte{1, 2, 3}, []byte{1, 2, 3}, 0},
		{repeat(1, 1000, 2), repeat(1, 1000, 3), -1},
		{repeat(1, 1000), repeat(1, 1001), -1},
	} {
		if n := bigend.Compare(x.a, x.b); n != x.want {
			t.Errorf("Compare(%x, %x) = %d", x.a, x.b, n)
		}
		if n := bigend.Compare(x.b, x.a); n != -x.want {
			t.Errorf("Compare(%x, %x) = %d", x.b, x.a, n)
		}
	}
	var all [][]byte
	words([]byte{0, 1, 127, 128, 255}, 3, func(word []byte) { all = append(all, word) })
	for _, a := range all {
		for _, b := range all {
			if n := bigend.Compare(a, b); n != bytes.Compare(a, b) {
				t.Errorf("Compare(%x, %x) = %d", a, b, n)
			}
		}
	}
}

// P1.6
func TestRoundTrip(t *testing.T) {
	for _, b := range [][]byte{nil, {0}, {128}, {255, 255, 255}} {
		for _, n := range numbers() {
			for width := 1; width <= 8; width++ {
				if !fits(n, width) {
					continue
				}
				all, _ := bigend.Append(b, n, width)
				if got, e := bigend.Uint(all, len(b), width); got != n || e != api.OK {
					t.Errorf("Uint(%x, %d, %d) = %d, %d; want %d", all, len(b), width, got, e, n)
				}
			}
			all := bigend.AppendVar(b, n)
			if got, next, e := bigend.Var(append(all, 0x80), len(b)); got != n || next != len(all) || e != api.OK {
				t.Errorf("Var(%x, %d) = %d, %d, %d; want %d", all, len(b), got, next, e, n)
			}
		}
	}
}

// P1.6: nothing but the shortest encoding is decoded.
func TestVarDecodesNothingElse(t *testing.T) {
	check := func(b []byte) {
		n, next, e := bigend.Var(b, 0)
		if e == api.OK && !bytes.Equal(bigend.AppendVar(nil, n), b[:next]) {
			t.Errorf("Var(%x, 0) = %d, %d, but AppendVar makes %x of it", b, n, next, bigend.AppendVar(nil, n))
		}
	}
	words([]byte{0, 1, 127, 128, 129, 255}, 5, check)
	random := rand.New(rand.NewSource(2))
	for range 2000 {
		b := repeat(0x80, random.Intn(13))
		for i := range b {
			b[i] |= byte(random.Intn(128) >> random.Intn(8))
		}
		check(append(b, byte(random.Intn(128))))
	}
}

// P1.7
func TestOrder(t *testing.T) {
	all := numbers()
	for _, a := range all {
		for _, b := range all {
			want := new(big.Int).SetUint64(a).Cmp(new(big.Int).SetUint64(b))
			for width := 1; width <= 8; width++ {
				if !fits(a, width) || !fits(b, width) {
					continue
				}
				x, _ := bigend.Append(nil, a, width)
				y, _ := bigend.Append(nil, b, width)
				if got := bigend.Compare(x, y); got != want {
					t.Fatalf("%d and %d in the width %d: %d", a, b, width, got)
				}
			}
			x, y := bigend.AppendVar(nil, a), bigend.AppendVar(nil, b)
			if a != b && bytes.HasPrefix(y, x) {
				t.Fatalf("the groups of %d are a prefix of those of %d", a, b)
			}
		}
	}
}

// P1.8
func TestMemory(t *testing.T) {
	appends := map[string]func([]byte, byte) []byte{
		"Append": func(b []byte, n byte) []byte {
			out, _ := bigend.Append(b, uint64(n), 2)
			return out
		},
		"AppendVar": func(b []byte, n byte) []byte { return bigend.AppendVar(b, uint64(n)) },
	}
	for name, f := range appends {
		for _, length := range []int{0, 1, 3} {
			whole := []byte{1, 2, 3, 4, 5, 6, 7, 8, 9, 10, 11, 12}
			before := bytes.Clone(whole)
			first := f(whole[:length], 77)
			if !bytes.Equal(whole, before) {
				t.Errorf("%s writes to b, or behind its end: %x", name, whole)
			}
			kept := bytes.Clone(first)
			second := f(whole[:length], 78)
			clear(second[:cap(second)])
			clear(whole)
			if !bytes.Equal(first, kept) {
				t.Errorf("%s: a result shares memory with b, or with another result: %x", name, first)
			}
			copy(whole, before)
			clear(first[:cap(first)])
			if !bytes.Equal(whole, before) {
				t.Errorf("%s: b shares memory with a result: %x", name, whole)
			}
		}
	}
	b, c := []byte{0x81, 0, 3}, []byte{0x81, 0, 4}
	bigend.Uint(b, 0, 3)
	bigend.Var(b, 0)
	bigend.Compare(b, c)
	if !bytes.Equal(b, []byte{0x81, 0, 3}) || !bytes.Equal(c, []byte{0x81, 0, 4}) {
		t.Errorf("arguments have changed: %x, %x", b, c)
	}
}

// P1: no panic, and zero values together with errors, whatever the arguments are.
func TestAllArguments(t *testing.T) {
	ints := []int{math.MinInt, math.MinInt + 1, -9, -8, -1, 0, 1, 2, 7, 8, 9, 10, 63, 64, 65, math.MaxInt - 8, math.MaxInt - 7, math.MaxInt - 1, math.MaxInt}
	strings := [][]byte{nil, {}, {0}, {128}, {255, 0}, repeat(255, 9), repeat(255, 30), repeat(128, 11, 0)}
	for _, b := range strings {
		for _, i := range ints {
			if n, next, e := bigend.Var(b, i); e != api.OK && (n != 0 || next != 0) {
				t.Errorf("Var(%x, %d) = %d, %d, %d", b, i, n, next, e)
			}
			for _, n := range []uint64{0, 1, 255, 256, 1 << 63, maxUint} {
				if out, e := bigend.Append(b, n, i); e != api.OK && len(out) != 0 {
					t.Errorf("Append(%x, %d, %d) = %x, %d", b, n, i, out, e)
				}
			}
			for _, width := range ints {
				if n, e := bigend.Uint(b, i, width); e != api.OK && n != 0 {
					t.Errorf("Uint(%x, %d, %d) = %d, %d", b, i, width, n, e)
				}
			}
		}
	}
}
