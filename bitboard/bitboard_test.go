package bitboard_test

import (
	"math"
	"slices"
	"strings"
	"testing"

	"tempo/api"
	"tempo/bitboard"
	"tempo/mix"
)

const (
	squares   = 64
	allBits   = bitboard.Set(math.MaxUint64)
	emptyText = "........\n........\n........\n........\n........\n........\n........\n........\n"
)

// edges returns numbers far outside of all ranges, and those around them. Some would be inside if they were cut to 8, 16 or 32 bits.
func edges() []int {
	out := []int{
		math.MinInt, math.MinInt + 1, math.MinInt + 7, math.MinInt + 8, math.MinInt + 63, math.MinInt + 64,
		math.MaxInt - 64, math.MaxInt - 63, math.MaxInt - 8, math.MaxInt - 7, math.MaxInt - 1, math.MaxInt,
		math.MinInt32 - 1, math.MinInt32, math.MaxInt32, math.MaxInt32 + 1,
		1 << 8, 1<<8 + 1, -1 << 8, 1<<8 - 1, 1 << 16, 1<<16 + 1, 1 << 32, 1<<32 + 1, 1<<32 - 1, -1 << 32, 1 - 1<<32, 1 << 40, 1 << 61, 1 << 62, -1 << 62,
	}
	for n := -140; n <= 140; n++ {
		out = append(out, n)
	}
	return out
}

func isSquare(n int) bool { return n >= 0 && n <= 63 }

func isLine(n int) bool { return n >= 0 && n <= 7 }

// sets returns the sets with no, one or all squares, those with all but one, those with regular bits, and others.
func sets() []bitboard.Set {
	out := []bitboard.Set{
		0, allBits,
		0x5555555555555555, 0xAAAAAAAAAAAAAAAA, 0x55AA55AA55AA55AA, 0x0F0F0F0F0F0F0F0F, 0x8040201008040201, 0x0102040810204080,
		0x8100000000000081, 0xFF818181818181FF, 0xFFFFFFFF, 0xFFFFFFFF00000000, 0x0000FFFF00000000, 0x0123456789ABCDEF,
	}
	for i := range squares {
		out = append(out, 1<<i, allBits^1<<i)
	}
	for i := range uint64(40) {
		// The and of two numbers has few bits, their or has many.
		a, b := bitboard.Set(mix.At(5, 2*i)), bitboard.Set(mix.At(5, 2*i+1))
		out = append(out, a, a&b, a|b)
	}
	return out
}

// list returns the squares that All yields.
func list(s bitboard.Set) []int { return slices.Collect(s.All()) }

// of returns the set of some squares, and fails if there is none.
func of(t *testing.T, l ...int) bitboard.Set {
	t.Helper()
	s, e := bitboard.Of(l)
	if e != api.OK {
		t.Fatalf("Of(%v): %d", l, e)
	}
	return s
}

// where returns the set of the squares, by file and rank, that a condition accepts.
func where(accepts func(file, rank int) bool) bitboard.Set {
	var s bitboard.Set
	for rank := range 8 {
		for file := range 8 {
			if accepts(file, rank) {
				s |= 1 << (8*rank + file)
			}
		}
	}
	return s
}

// moved returns the set of the squares to which those of a set go; a square that goes nowhere is lost.
func moved(s bitboard.Set, to func(file, rank int) (int, int, bool)) bitboard.Set {
	var out bitboard.Set
	for rank := range 8 {
		for file := range 8 {
			if s>>(8*rank+file)&1 == 0 {
				continue
			}
			if f, r, is := to(file, rank); is {
				out |= 1 << (8*r + f)
			}
		}
	}
	return out
}

// textOf returns the text of a set, put together from its lines.
func textOf(s bitboard.Set) string {
	text := ""
	for rank := 7; rank >= 0; rank-- {
		for file := range 8 {
			if s>>(8*rank+file)&1 == 1 {
				text += "x"
			} else {
				text += "."
			}
		}
		text += "\n"
	}
	return text
}

// refused fails if a string is parsed.
func refused(t *testing.T, s string) {
	t.Helper()
	if x, e := bitboard.Parse(s); x != 0 || e != api.ErrForm {
		t.Errorf("Parse(%q) = %X, %d", s, uint64(x), e)
	}
}

// The chapter's examples.
func TestExamples(t *testing.T) {
	s := of(t, 0, 9, 63)
	if low, is := s.Lowest(); s.Len() != 3 || low != 0 || !is || !s.Has(9) || s.Has(64) {
		t.Errorf("Of(0, 9, 63): Len %d, Lowest %d, %t, Has(9) %t, Has(64) %t", s.Len(), low, is, s.Has(9), s.Has(64))
	}
	if x, e := bitboard.Of([]int{64}); x != 0 || e != api.ErrRange {
		t.Errorf("Of(64) = %X, %d", uint64(x), e)
	}
	if x, e := s.With(-1); x != 0 || e != api.ErrRange {
		t.Errorf("With(-1) = %X, %d", uint64(x), e)
	}
	file, e := bitboard.File(0)
	rank, f := bitboard.Rank(0)
	if e != api.OK || f != api.OK {
		t.Errorf("File(0): %d; Rank(0): %d", e, f)
	}
	for _, x := range []struct {
		call string
		got  bitboard.Set
		want []int
	}{
		{"Of(7, 8).Shift(1, 0)", of(t, 7, 8).Shift(1, 0), []int{9}},
		{"Of(7, 8).Shift(0, 7)", of(t, 7, 8).Shift(0, 7), []int{63}},
		{"Of(0).Shift(1, 2)", of(t, 0).Shift(1, 2), []int{17}},
		{"Of(0, 9).Flip()", of(t, 0, 9).Flip(), []int{49, 56}},
		{"Of(0, 9).Mirror()", of(t, 0, 9).Mirror(), []int{7, 14}},
		{"File(0)", file, []int{0, 8, 16, 24, 32, 40, 48, 56}},
		{"Rank(0)", rank, []int{0, 1, 2, 3, 4, 5, 6, 7}},
	} {
		if !slices.Equal(list(x.got), x.want) {
			t.Errorf("%s has %v; want %v", x.call, list(x.got), x.want)
		}
	}
	lines := strings.Split(of(t, 0, 63).Text(), "\n")
	if len(lines) != 9 || lines[0] != ".......x" || lines[7] != "x......." || lines[8] != "" {
		t.Errorf("the text of Of(0, 63) has the lines %q", lines)
	}
}

// Definitions: the square s has the bit 2^s.
func TestEachSquareHasItsBit(t *testing.T) {
	for square := range squares {
		want := bitboard.Set(1) << square
		if s, e := bitboard.Of([]int{square}); s != want || e != api.OK {
			t.Errorf("Of(%d) = %X, %d; want %X", square, uint64(s), e, uint64(want))
		}
		if low, is := want.Lowest(); low != square || !is || want.Len() != 1 || !slices.Equal(list(want), []int{square}) {
			t.Errorf("%X: Lowest %d, %t, Len %d, All %v; want the square %d", uint64(want), low, is, want.Len(), list(want), square)
		}
		for other := range squares {
			if want.Has(other) != (other == square) {
				t.Errorf("%X: Has(%d) = %t", uint64(want), other, want.Has(other))
			}
		}
	}
}

// P5.1: the order of the list does not matter, nor how often a square is in it.
func TestOf(t *testing.T) {
	for _, x := range []struct {
		l    []int
		want bitboard.Set
	}{
		{nil, 0},
		{[]int{}, 0},
		{[]int{0}, 1},
		{[]int{63}, 1 << 63},
		{[]int{0, 0, 0}, 1},
		{[]int{63, 0}, 1<<63 | 1},
		{[]int{9, 63, 0, 9}, 1<<63 | 1<<9 | 1},
		{[]int{7, 8}, 0x180},
		{[]int{31, 32}, 0x180000000},
	} {
		if s, e := bitboard.Of(x.l); s != x.want || e != api.OK {
			t.Errorf("Of(%v) = %X, %d; want %X", x.l, uint64(s), e, uint64(x.want))
		}
	}
	for _, s := range sets() {
		l := list(s)
		backward := slices.Clone(l)
		slices.Reverse(backward)
		for _, order := range [][]int{l, backward, append(slices.Clone(l), backward...)} {
			if x, e := bitboard.Of(order); x != s || e != api.OK {
				t.Errorf("Of(%v) = %X, %d; want %X", order, uint64(x), e, uint64(s))
			}
		}
	}
}

// P5.1: one number that is no square, wherever in the list it is.
func TestOfErrors(t *testing.T) {
	for _, n := range edges() {
		if isSquare(n) {
			continue
		}
		for _, l := range [][]int{{n}, {n, 5}, {5, n}, {0, n, 63}, {1, 2, 3, 4, n}, {n, n}, {1, n, 1, n}} {
			if s, e := bitboard.Of(l); s != 0 || e != api.ErrRange {
				t.Errorf("Of(%v) = %X, %d", l, uint64(s), e)
			}
		}
	}
}

// R4: the list is not changed, and what stands behind its end is not read.
func TestOfLeavesItsList(t *testing.T) {
	memory := []int{63, 9, 0, 64, -1, 5}
	if s, e := bitboard.Of(memory[:3]); s != of(t, 0, 9, 63) || e != api.OK {
		t.Errorf("Of = %X, %d", uint64(s), e)
	}
	if _, e := bitboard.Of(memory); e != api.ErrRange {
		t.Errorf("Of(%v): %d", memory, e)
	}
	if !slices.Equal(memory, []int{63, 9, 0, 64, -1, 5}) {
		t.Errorf("the list is %v now", memory)
	}
}

// P5.1: with the square, or without it, whether it was in the set or not; all other squares stay.
func TestWithAndWithout(t *testing.T) {
	for _, s := range sets() {
		for square := range squares {
			with, e := s.With(square)
			without, f := s.Without(square)
			if e != api.OK || f != api.OK || !with.Has(square) || without.Has(square) {
				t.Errorf("%X, square %d: With %X, %d; Without %X, %d", uint64(s), square, uint64(with), e, uint64(without), f)
			}
			if only := bitboard.Set(1) << square; with&^only != s&^only || without&^only != s&^only {
				t.Errorf("%X, square %d: With %X and Without %X have other squares", uint64(s), square, uint64(with), uint64(without))
			}
		}
	}
}

// P5.1
func TestWithAndWithoutErrors(t *testing.T) {
	for _, s := range []bitboard.Set{0, 1, 1 << 63, 0x8000000000000001, allBits} {
		for _, n := range edges() {
			want := api.ErrRange
			if isSquare(n) {
				want = api.OK
			}
			with, e := s.With(n)
			without, f := s.Without(n)
			if e != want || f != want {
				t.Errorf("%X, square %d: With %d, Without %d; want %d", uint64(s), n, e, f, want)
			}
			if want != api.OK && (with != 0 || without != 0) {
				t.Errorf("%X, square %d: With %X, Without %X", uint64(s), n, uint64(with), uint64(without))
			}
		}
	}
}

// P5.2
func TestHas(t *testing.T) {
	for _, s := range sets() {
		for _, n := range edges() {
			want := isSquare(n) && s>>n&1 == 1
			if s.Has(n) != want {
				t.Errorf("%X: Has(%d) = %t", uint64(s), n, !want)
			}
		}
	}
}

// P5.2
func TestLenAndLowest(t *testing.T) {
	for _, s := range sets() {
		size, least := 0, -1
		for square := 63; square >= 0; square-- {
			if s>>square&1 == 1 {
				size, least = size+1, square
			}
		}
		if s.Len() != size {
			t.Errorf("%X: Len = %d; want %d", uint64(s), s.Len(), size)
		}
		low, is := s.Lowest()
		if is != (size > 0) || is && low != least || !is && low != 0 {
			t.Errorf("%X: Lowest = %d, %t; want %d", uint64(s), low, is, least)
		}
	}
}

// P5.2: the empty set, and the full one.
func TestNoSquareAndAllSquares(t *testing.T) {
	var none bitboard.Set
	if low, is := none.Lowest(); none.Len() != 0 || low != 0 || is || len(list(none)) != 0 {
		t.Errorf("none: Len %d, Lowest %d, %t, All %v", none.Len(), low, is, list(none))
	}
	if low, is := allBits.Lowest(); allBits.Len() != 64 || low != 0 || !is || len(list(allBits)) != 64 {
		t.Errorf("all: Len %d, Lowest %d, %t, All %v", allBits.Len(), low, is, list(allBits))
	}
}

// P5.2: from the least one on.
func TestAll(t *testing.T) {
	for _, s := range sets() {
		var want []int
		for square := range squares {
			if s>>square&1 == 1 {
				want = append(want, square)
			}
		}
		if !slices.Equal(list(s), want) {
			t.Errorf("%X: All yields %v; want %v", uint64(s), list(s), want)
		}
	}
}

// R7: a loop may end early, at each square, and the next one begins anew.
func TestAllEndsEarly(t *testing.T) {
	for _, s := range sets() {
		all := s.All()
		want := list(s)
		for n := range want {
			var got []int
			for square := range all {
				got = append(got, square)
				if len(got) > n {
					break
				}
			}
			if !slices.Equal(got, want[:n+1]) {
				t.Errorf("%X: the first %d squares are %v", uint64(s), n+1, got)
			}
		}
		if !slices.Equal(slices.Collect(all), want) || !slices.Equal(slices.Collect(all), want) {
			t.Errorf("%X: the iterator does not begin anew", uint64(s))
		}
	}
}

// R7: a loop inside of another one over the same iterator; and one over the set as it was when All was called.
func TestLoopsOverAllAreIndependent(t *testing.T) {
	s := of(t, 3, 20, 41)
	all := s.All()
	var got []int
	for a := range all {
		for b := range all {
			got = append(got, 100*a+b)
		}
	}
	if want := []int{303, 320, 341, 2003, 2020, 2041, 4103, 4120, 4141}; !slices.Equal(got, want) {
		t.Errorf("a loop in a loop yields %v", got)
	}
	s, _ = s.Without(20)
	if !slices.Equal(slices.Collect(all), []int{3, 20, 41}) || !slices.Equal(list(s), []int{3, 41}) {
		t.Errorf("All yields %v, and of the set without 20 %v", slices.Collect(all), list(s))
	}
}

// checkShift fails if a shift is not what the promise says.
func checkShift(t *testing.T, s bitboard.Set, files, ranks int) {
	t.Helper()
	want := moved(s, func(file, rank int) (int, int, bool) {
		// What is 8 or more away is off the board; the sums of the others do not overflow.
		near := files > -8 && files < 8 && ranks > -8 && ranks < 8
		return file + files, rank + ranks, near && isLine(file+files) && isLine(rank+ranks)
	})
	if got := s.Shift(files, ranks); got != want {
		t.Errorf("%X: Shift(%d, %d) = %X; want %X", uint64(s), files, ranks, uint64(got), uint64(want))
	}
}

// P5.3: all shifts that leave a square on the board, and those around them.
func TestShift(t *testing.T) {
	for _, s := range sets() {
		for files := -9; files <= 9; files++ {
			for ranks := -9; ranks <= 9; ranks++ {
				checkShift(t, s, files, ranks)
			}
		}
	}
}

// P5.3: files and ranks may be any numbers, also those whose sums with a file or a rank, or whose products with 8, would not fit.
func TestShiftByAnyNumbers(t *testing.T) {
	far := append(edges(), 1<<58, 1<<59, 1<<60, 1<<61+1, -1<<61, -1<<60, 1<<62+1, math.MaxInt/8, math.MaxInt/8+1, math.MinInt/8, math.MinInt/8-1)
	for _, s := range []bitboard.Set{1, 1 << 7, 1 << 56, 1 << 63, 1 << 27, allBits, 0x0123456789ABCDEF, 0} {
		for _, n := range far {
			for near := -8; near <= 8; near++ {
				checkShift(t, s, n, near)
				checkShift(t, s, near, n)
			}
			for _, other := range []int{math.MinInt, math.MaxInt, n, -n, -8 * n, 64, -64} {
				checkShift(t, s, n, other)
				checkShift(t, s, other, n)
			}
		}
	}
}

// P5.4
func TestFlipAndMirror(t *testing.T) {
	for _, s := range sets() {
		flip := moved(s, func(file, rank int) (int, int, bool) { return file, 7 - rank, true })
		if s.Flip() != flip {
			t.Errorf("%X: Flip = %X; want %X", uint64(s), uint64(s.Flip()), uint64(flip))
		}
		mirror := moved(s, func(file, rank int) (int, int, bool) { return 7 - file, rank, true })
		if s.Mirror() != mirror {
			t.Errorf("%X: Mirror = %X; want %X", uint64(s), uint64(s.Mirror()), uint64(mirror))
		}
	}
}

// P5.5
func TestFileAndRank(t *testing.T) {
	for _, n := range edges() {
		var wantFile, wantRank bitboard.Set
		want := api.ErrRange
		if isLine(n) {
			wantFile = where(func(file, _ int) bool { return file == n })
			wantRank = where(func(_, rank int) bool { return rank == n })
			want = api.OK
		}
		if s, e := bitboard.File(n); s != wantFile || e != want {
			t.Errorf("File(%d) = %X, %d; want %X, %d", n, uint64(s), e, uint64(wantFile), want)
		}
		if s, e := bitboard.Rank(n); s != wantRank || e != want {
			t.Errorf("Rank(%d) = %X, %d; want %X, %d", n, uint64(s), e, uint64(wantRank), want)
		}
	}
}

// P5.6
func TestText(t *testing.T) {
	for _, x := range []struct {
		s    bitboard.Set
		want string
	}{
		{0, emptyText},
		{allBits, strings.Repeat("xxxxxxxx\n", 8)},
		{1, emptyText[:63] + "x.......\n"},
		{1 << 7, emptyText[:63] + ".......x\n"},
		{1 << 56, "x" + emptyText[1:]},
		{1 << 63, ".......x" + emptyText[8:]},
		{1 << 8, emptyText[:54] + "x" + emptyText[55:]},
		{0xFF, emptyText[:63] + "xxxxxxxx\n"},
		{0x0101010101010101, strings.Repeat("x.......\n", 8)},
		{0x8040201008040201, ".......x\n......x.\n.....x..\n....x...\n...x....\n..x.....\n.x......\nx.......\n"},
	} {
		if x.s.Text() != x.want {
			t.Errorf("%X: Text = %q; want %q", uint64(x.s), x.s.Text(), x.want)
		}
		if s, e := bitboard.Parse(x.want); s != x.s || e != api.OK {
			t.Errorf("Parse(%q) = %X, %d; want %X", x.want, uint64(s), e, uint64(x.s))
		}
	}
	for _, s := range sets() {
		if s.Text() != textOf(s) {
			t.Errorf("%X: Text = %q; want %q", uint64(s), s.Text(), textOf(s))
		}
	}
}

// P5.6: texts that differ from the text of a set in one byte. It is the text of another set only if x stands there instead of . or the other way around.
func TestParseWithAnotherByte(t *testing.T) {
	for _, set := range []bitboard.Set{0, allBits, 0x0123456789ABCDEF} {
		text := textOf(set)
		for i := range len(text) {
			for c := range 256 {
				changed := []byte(text)
				changed[i] = byte(c)
				if i%9 == 8 && c != '\n' || i%9 < 8 && c != 'x' && c != '.' {
					refused(t, string(changed))
					continue
				}
				want := set
				if square := 8*(7-i/9) + i%9; i%9 < 8 && c == 'x' {
					want |= 1 << square
				} else if i%9 < 8 {
					want &^= 1 << square
				}
				if s, e := bitboard.Parse(string(changed)); s != want || e != api.OK {
					t.Errorf("Parse(%q) = %X, %d; want %X", changed, uint64(s), e, uint64(want))
				}
			}
		}
	}
}

// P5.6: texts that differ from the text of a set in their length.
func TestParseWithAnotherLength(t *testing.T) {
	for _, set := range []bitboard.Set{0, allBits, 0x0123456789ABCDEF} {
		text := textOf(set)
		for i := range len(text) {
			refused(t, text[:i])
			refused(t, text[i+1:])
			refused(t, text[:i]+text[i+1:])
		}
		for i := range len(text) + 1 {
			for _, more := range []string{"x", ".", "\n", "\r", " ", "\x00", "........\n", "xxxxxxxx\n"} {
				refused(t, text[:i]+more+text[i:])
			}
		}
		refused(t, text+text)
	}
}

// P5.6: strings that have the length of a text, or almost its form.
func TestParseErrors(t *testing.T) {
	for _, s := range []string{
		"",
		"x",
		"\n",
		strings.Repeat("x", 72),
		strings.Repeat(".", 72),
		strings.Repeat("\n", 72),
		strings.Repeat("\x00", 72),
		strings.Repeat("\n........", 8),
		strings.Repeat("........\r", 8),
		strings.Repeat("........\r\n", 8),
		strings.Repeat("........ ", 8),
		strings.Repeat("......../", 8),
		strings.Repeat("XXXXXXXX\n", 8),
		strings.Repeat("--------\n", 8),
		strings.Repeat("0000000\n", 9),
		strings.Repeat(".......\n", 9),
		".........\n.......\n" + emptyText[18:],
		emptyText[:54] + ".......\n.........\n",
		"......\u00b7\n" + emptyText[9:],
		"......\u0445\n" + emptyText[9:],
		"\ufeff" + emptyText[3:],
		strings.TrimSuffix(emptyText, "\n"),
		strings.TrimSuffix(emptyText, "\n") + " ",
		strings.ReplaceAll(emptyText, "\n", "\r\n"),
		" " + emptyText[1:],
		"\n" + emptyText[:71],
		strings.Repeat(emptyText, 1000),
	} {
		refused(t, s)
	}
}

// P5.7: the set of what Has reports is the set, and two sets in which it reports the same are equal.
func TestSetIsDeterminedByHas(t *testing.T) {
	all := sets()
	for _, s := range all {
		if x := where(func(file, rank int) bool { return s.Has(8*rank + file) }); x != s {
			t.Errorf("%X: Has reports the squares of %X", uint64(s), uint64(x))
		}
	}
	for _, a := range all {
		for _, b := range all {
			same := true
			for square := range squares {
				same = same && a.Has(square) == b.Has(square)
			}
			if same != (a == b) {
				t.Errorf("%X and %X: Has reports the same: %t", uint64(a), uint64(b), same)
			}
		}
	}
}

// P5.7
func TestLenIsTheNumberOfSquares(t *testing.T) {
	for _, s := range sets() {
		n := 0
		for square := range s.All() {
			if !s.Has(square) {
				t.Errorf("%X: All yields %d", uint64(s), square)
			}
			n++
		}
		if s.Len() != n {
			t.Errorf("%X: Len = %d, but All yields %d squares", uint64(s), s.Len(), n)
		}
	}
}

// P5.8: shifts one after the other, by which nothing leaves the board in between, are the same as one shift.
func TestShiftsOneAfterTheOther(t *testing.T) {
	for square := range squares {
		s := of(t, square)
		for files := -8; files <= 8; files++ {
			for ranks := -8; ranks <= 8; ranks++ {
				first := s.Shift(files, ranks)
				if first == 0 {
					continue
				}
				for n := -8; n <= 8; n++ {
					if got, want := first.Shift(n, -n), s.Shift(files+n, ranks-n); got != want {
						t.Errorf("square %d: (%d, %d), and then (%d, %d): %X; at once %X", square, files, ranks, n, -n, uint64(got), uint64(want))
					}
				}
				if first.Shift(-files, -ranks) != s {
					t.Errorf("square %d: (%d, %d), and back: %X", square, files, ranks, uint64(first.Shift(-files, -ranks)))
				}
			}
		}
	}
	for _, s := range sets() {
		inner := s & where(func(file, rank int) bool { return file > 1 && file < 6 && rank > 1 && rank < 6 })
		if inner.Shift(2, -1).Shift(-1, 2).Shift(-3, -3).Shift(2, 2) != inner {
			t.Errorf("%X: shifts around and back end at %X", uint64(inner), uint64(inner.Shift(2, -1).Shift(-1, 2).Shift(-3, -3).Shift(2, 2)))
		}
	}
}

// P5.8: what was at an edge is gone, and nothing has come in at the opposite one.
func TestShiftMovesNothingAroundAnEdge(t *testing.T) {
	for n := 1; n <= 8; n++ {
		for _, x := range []struct {
			files, ranks int
			stay         func(file, rank int) bool
		}{
			{n, 0, func(file, _ int) bool { return file >= n }},
			{-n, 0, func(file, _ int) bool { return file < 8-n }},
			{0, n, func(_, rank int) bool { return rank >= n }},
			{0, -n, func(_, rank int) bool { return rank < 8-n }},
		} {
			if got, want := allBits.Shift(x.files, x.ranks), where(x.stay); got != want {
				t.Errorf("all squares, Shift(%d, %d) = %X; want %X", x.files, x.ranks, uint64(got), uint64(want))
			}
			for _, s := range sets() {
				if got := s.Shift(x.files, x.ranks); got.Len() > s.Len() || got&^where(x.stay) != 0 {
					t.Errorf("%X: Shift(%d, %d) = %X", uint64(s), x.files, x.ranks, uint64(got))
				}
			}
		}
	}
}

// P5.9
func TestTwice(t *testing.T) {
	for _, s := range sets() {
		if s.Flip().Flip() != s || s.Mirror().Mirror() != s {
			t.Errorf("%X: flipped twice %X, mirrored twice %X", uint64(s), uint64(s.Flip().Flip()), uint64(s.Mirror().Mirror()))
		}
		if s.Flip().Mirror() != s.Mirror().Flip() {
			t.Errorf("%X: flipped and mirrored %X, mirrored and flipped %X", uint64(s), uint64(s.Flip().Mirror()), uint64(s.Mirror().Flip()))
		}
	}
}

// P5.9
func TestTextsAreDecodedToTheirSets(t *testing.T) {
	for _, s := range sets() {
		if x, e := bitboard.Parse(s.Text()); x != s || e != api.OK {
			t.Errorf("%X: the text is decoded to %X, %d", uint64(s), uint64(x), e)
		}
		if x, e := bitboard.Parse(textOf(s)); x != s || e != api.OK || x.Text() != textOf(s) {
			t.Errorf("%X: decoded to %X, %d", uint64(s), uint64(x), e)
		}
	}
}
