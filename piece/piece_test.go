package piece_test

import (
	"math"
	"slices"
	"strings"
	"testing"

	"tempo/api"
	"tempo/piece"
)

// row is what the chapter says of a piece.
type row struct {
	piece, color, kind int
	letter             string
	swapped            int
}

// all returns the twelve pieces.
func all() []row {
	return []row{
		{1, api.White, api.Pawn, "P", 7},
		{2, api.White, api.Knight, "N", 8},
		{3, api.White, api.Bishop, "B", 9},
		{4, api.White, api.Rook, "R", 10},
		{5, api.White, api.Queen, "Q", 11},
		{6, api.White, api.King, "K", 12},
		{7, api.Black, api.Pawn, "p", 1},
		{8, api.Black, api.Knight, "n", 2},
		{9, api.Black, api.Bishop, "b", 3},
		{10, api.Black, api.Rook, "r", 4},
		{11, api.Black, api.Queen, "q", 5},
		{12, api.Black, api.King, "k", 6},
	}
}

func isPiece(n int) bool { return n >= 1 && n <= 12 }

func isKind(n int) bool { return n >= 1 && n <= 6 }

func isColor(n int) bool { return n == 0 || n == 1 }

// edges returns the pieces, kinds and colors, the numbers around them, and numbers far outside of them. Some of the far ones would be inside if they were cut to 8, 16 or 32 bits, or if their product with the number of kinds overflowed.
func edges() []int {
	out := []int{
		math.MinInt, math.MinInt + 1, math.MinInt + 2, math.MinInt + 6, math.MinInt + 7, math.MinInt + 12, math.MinInt + 13,
		math.MaxInt - 12, math.MaxInt - 7, math.MaxInt - 6, math.MaxInt - 1, math.MaxInt,
		math.MinInt32 - 1, math.MinInt32, math.MinInt32 + 1, math.MinInt32 + 3, math.MaxInt32, math.MaxInt32 + 1,
		1<<8 + 3, -1<<8 + 3, 1 << 16, 1<<16 + 1, 1<<16 + 3, -1<<16 + 3, 1 << 32, 1<<32 + 1, 1<<32 + 3, -1<<32 + 3, 1<<32 - 1, 1 << 40, 1 << 61, 1 << 62, 1<<62 + 1, 1<<62 + 3, -1 << 62,
	}
	for n := -300; n <= 300; n++ {
		out = append(out, n)
	}
	return out
}

// off returns the edges that are no pieces.
func off() []int { return slices.DeleteFunc(edges(), isPiece) }

// notLetters returns strings that are no letters of pieces: of other characters, lengths and encodings.
func notLetters() []string {
	return []string{
		"", " ", "  ", "\x00", "\n", "\t", "-", ".", ",", "*", "+", "/", "=", "?", "@", "[", "`", "{", "1", "2", "8", "12",
		"A", "C", "D", "E", "F", "G", "H", "I", "J", "L", "M", "O", "S", "T", "U", "V", "W", "X", "Y", "Z",
		"a", "c", "d", "e", "f", "g", "h", "i", "j", "l", "m", "o", "s", "t", "u", "v", "w", "x", "y", "z",
		"NN", "nn", "Nn", "nN", "PP", "KQ", "kq", "PN", "BR", "pnbrqk", "PNBRQK", "PNBRQKpnbrqk", "Kp", "PNB", "RQK",
		" N", "N ", "N\n", "\nN", "N\x00", "\x00N", "N\t", "N,", ",N", "N.", "wN", "bn", "Nf3", "e8=Q", "=Q", "1N", "2",
		"pawn", "knight", "bishop", "rook", "queen", "king", "Pawn", "King", "QUEEN",
		"\x80", "\xbf", "\xc3", "\xe9", "\xfe", "\xff", "\xce", "\xd0", "\xcb", "\xf0", "\xee", "\xff\xff", "N\xff", "\xffN", "\xc3N", "n\x80", "\xc1\x8e", "\xe0\x81\x8e", "\xed\xa0\x80", "\ufffd",
		"\u00e9", "\u00d1", "\u00f1", "\u0143", "\u014e", "\u016e", "\u039a", "\u03c1", "\u041a", "\u043a", "\u0420", "\u0440", "\u212a", "\uff2b", "\uff4b", "\uff2e", "\u0100", "\u0150", "\u2654", "\u2659", "\u265a", "\u265f", "\U0001D40A", "\U0001004E", "N\u0301", "n\u0301", "\ufeffN", "N\u200d",
		strings.Repeat("N", 1000), strings.Repeat("k", 100000), strings.Repeat("\xff", 100000),
	}
}

// refused fails if a string is decoded as a letter.
func refused(t *testing.T, s string) {
	t.Helper()
	if p, e := piece.Parse(s); p != 0 || e != api.ErrForm {
		t.Errorf("Parse(%q) = %d, %d", s, p, e)
	}
}

// letterOf returns the piece with a letter; 0 if there is none.
func letterOf(s string) int {
	return slices.IndexFunc(all(), func(x row) bool { return x.letter == s }) + 1
}

// P8.1, the chapter's examples: Of and Other.
func TestExamplesOfOfAndOther(t *testing.T) {
	for _, x := range []struct {
		color, kind, want int
		e                 api.Errno
	}{{api.White, api.Knight, 2, api.OK}, {api.Black, api.King, 12, api.OK}, {2, api.Pawn, 0, api.ErrRange}, {api.White, 7, 0, api.ErrRange}} {
		if p, e := piece.Of(x.color, x.kind); p != x.want || e != x.e {
			t.Errorf("Of(%d, %d) = %d, %d; want %d, %d", x.color, x.kind, p, e, x.want, x.e)
		}
	}
	if c, e := piece.Other(api.White); c != api.Black || e != api.OK {
		t.Errorf("Other(White) = %d, %d", c, e)
	}
	if c, e := piece.Other(-1); c != 0 || e != api.ErrRange {
		t.Errorf("Other(-1) = %d, %d", c, e)
	}
}

// P8.2, the chapter's examples: Color and Swap.
func TestExamplesOfColorAndSwap(t *testing.T) {
	for _, x := range []struct {
		piece, want int
		e           api.Errno
	}{{6, api.White, api.OK}, {7, api.Black, api.OK}, {0, 0, api.ErrRange}} {
		if c, e := piece.Color(x.piece); c != x.want || e != x.e {
			t.Errorf("Color(%d) = %d, %d; want %d, %d", x.piece, c, e, x.want, x.e)
		}
	}
	for _, x := range []struct {
		piece, want int
		e           api.Errno
	}{{1, 7, api.OK}, {12, 6, api.OK}, {0, 0, api.ErrRange}} {
		if p, e := piece.Swap(x.piece); p != x.want || e != x.e {
			t.Errorf("Swap(%d) = %d, %d; want %d, %d", x.piece, p, e, x.want, x.e)
		}
	}
}

// P8.3 and P8.5, the chapter's examples: Kind, Is and Word.
func TestExamplesOfKindIsAndWord(t *testing.T) {
	if piece.Kind(12) != api.King || piece.Kind(13) != 0 {
		t.Errorf("Kind(12) = %d, Kind(13) = %d", piece.Kind(12), piece.Kind(13))
	}
	if !piece.Is(7, api.Black) || piece.Is(0, api.White) {
		t.Errorf("Is(7, Black) = %t, Is(0, White) = %t", piece.Is(7, api.Black), piece.Is(0, api.White))
	}
	if piece.Word(api.Rook) != "rook" || piece.Word(0) != "" {
		t.Errorf("Word(Rook) = %q, Word(0) = %q", piece.Word(api.Rook), piece.Word(0))
	}
}

// P8.4, the chapter's examples: Letter and Parse.
func TestExamplesOfLetters(t *testing.T) {
	for n, want := range map[int]string{2: "N", 8: "n"} {
		if s, e := piece.Letter(n); s != want || e != api.OK {
			t.Errorf("Letter(%d) = %q, %d; want %q", n, s, e, want)
		}
		if p, e := piece.Parse(want); p != n || e != api.OK {
			t.Errorf("Parse(%q) = %d, %d; want %d", want, p, e, n)
		}
	}
	for _, s := range []string{"x", "NN"} {
		refused(t, s)
	}
}

// P8.1
func TestOf(t *testing.T) {
	for _, x := range all() {
		if p, e := piece.Of(x.color, x.kind); p != x.piece || e != api.OK {
			t.Errorf("Of(%d, %d) = %d, %d; want %d", x.color, x.kind, p, e, x.piece)
		}
	}
	for _, color := range edges() {
		for _, kind := range edges() {
			if isColor(color) && isKind(kind) {
				continue
			}
			if p, e := piece.Of(color, kind); p != 0 || e != api.ErrRange {
				t.Errorf("Of(%d, %d) = %d, %d", color, kind, p, e)
			}
		}
	}
}

// P8.1: colors and kinds whose piece would be one, or would be one behind an overflow, were it computed all the same.
func TestOfNoColorOrKind(t *testing.T) {
	for _, x := range [][2]int{
		{0, 0}, {1, 0}, {0, 7}, {0, 12}, {1, -5}, {1, 7}, {-1, 7}, {-1, 12}, {-1, 18}, {2, -6}, {2, -11}, {2, 1}, {2, 0}, {-1, 1}, {-1, 6},
		{1 << 62, math.MinInt + 1}, {1 << 62, math.MinInt + 6}, {math.MinInt, 1}, {math.MinInt, 6}, {math.MinInt + 1, 1}, {math.MinInt + 1, 6},
		{0, math.MinInt}, {1, math.MinInt}, {0, math.MaxInt}, {1, math.MaxInt}, {math.MaxInt, 1}, {math.MaxInt, 6}, {math.MinInt, math.MinInt}, {math.MaxInt, math.MaxInt}, {math.MinInt, math.MaxInt}, {math.MaxInt, math.MinInt},
	} {
		if p, e := piece.Of(x[0], x[1]); p != 0 || e != api.ErrRange {
			t.Errorf("Of(%d, %d) = %d, %d", x[0], x[1], p, e)
		}
	}
}

// P8.1
func TestOther(t *testing.T) {
	for color, want := range []int{api.Black, api.White} {
		if c, e := piece.Other(color); c != want || e != api.OK {
			t.Errorf("Other(%d) = %d, %d; want %d", color, c, e, want)
		}
	}
	for _, n := range slices.DeleteFunc(edges(), isColor) {
		if c, e := piece.Other(n); c != 0 || e != api.ErrRange {
			t.Errorf("Other(%d) = %d, %d", n, c, e)
		}
	}
}

// P8.2
func TestColorAndSwap(t *testing.T) {
	for _, x := range all() {
		if c, e := piece.Color(x.piece); c != x.color || e != api.OK {
			t.Errorf("Color(%d) = %d, %d; want %d", x.piece, c, e, x.color)
		}
		if p, e := piece.Swap(x.piece); p != x.swapped || e != api.OK {
			t.Errorf("Swap(%d) = %d, %d; want %d", x.piece, p, e, x.swapped)
		}
	}
	for _, n := range off() {
		if c, e := piece.Color(n); c != 0 || e != api.ErrRange {
			t.Errorf("Color(%d) = %d, %d", n, c, e)
		}
		if p, e := piece.Swap(n); p != 0 || e != api.ErrRange {
			t.Errorf("Swap(%d) = %d, %d", n, p, e)
		}
	}
}

// P8.3
func TestKind(t *testing.T) {
	for _, x := range all() {
		if k := piece.Kind(x.piece); k != x.kind {
			t.Errorf("Kind(%d) = %d; want %d", x.piece, k, x.kind)
		}
	}
	for _, n := range off() {
		if k := piece.Kind(n); k != 0 {
			t.Errorf("Kind(%d) = %d", n, k)
		}
	}
}

// P8.3: pieces with each number as their color, and each number with both colors.
func TestIs(t *testing.T) {
	for _, x := range all() {
		for _, color := range edges() {
			if want := color == x.color; piece.Is(x.piece, color) != want {
				t.Errorf("Is(%d, %d) = %t", x.piece, color, !want)
			}
		}
	}
	for _, n := range off() {
		for _, color := range []int{api.White, api.Black} {
			if piece.Is(n, color) {
				t.Errorf("Is(%d, %d) = true", n, color)
			}
		}
	}
}

// P8.3: numbers that are no pieces, with those that are no colors.
func TestIsOfNoPieceAndNoColor(t *testing.T) {
	for _, n := range off() {
		for _, color := range edges() {
			if piece.Is(n, color) {
				t.Errorf("Is(%d, %d) = true", n, color)
			}
		}
	}
}

// P8.4
func TestLetter(t *testing.T) {
	for _, x := range all() {
		if s, e := piece.Letter(x.piece); s != x.letter || e != api.OK {
			t.Errorf("Letter(%d) = %q, %d; want %q", x.piece, s, e, x.letter)
		}
	}
	for _, n := range off() {
		if s, e := piece.Letter(n); s != "" || e != api.ErrRange {
			t.Errorf("Letter(%d) = %q, %d", n, s, e)
		}
	}
}

// P8.4
func TestParse(t *testing.T) {
	for _, x := range all() {
		if p, e := piece.Parse(x.letter); p != x.piece || e != api.OK {
			t.Errorf("Parse(%q) = %d, %d; want %d", x.letter, p, e, x.piece)
		}
	}
	for _, s := range notLetters() {
		refused(t, s)
	}
}

// P8.4: all strings of one byte, and of two.
func TestParseBytes(t *testing.T) {
	for a := range 256 {
		one := string([]byte{byte(a)})
		if want := letterOf(one); want == 0 {
			refused(t, one)
		} else if p, e := piece.Parse(one); p != want || e != api.OK {
			t.Errorf("Parse(%q) = %d, %d; want %d", one, p, e, want)
		}
		for b := range 256 {
			refused(t, string([]byte{byte(a), byte(b)}))
		}
	}
}

// P8.4: all characters of several bytes.
func TestParseCharacters(t *testing.T) {
	for r := rune(0x80); r <= 0x10FFFF; r++ {
		refused(t, string(r))
	}
}

// P8.4: letters with a byte around them, or twice, or with those of other pieces.
func TestParseMoreThanALetter(t *testing.T) {
	for _, x := range all() {
		for c := range 256 {
			b := string([]byte{byte(c)})
			refused(t, b+x.letter)
			refused(t, x.letter+b)
			refused(t, b+x.letter+b)
		}
		for _, y := range all() {
			refused(t, x.letter+y.letter)
			refused(t, x.letter+y.letter+x.letter)
		}
	}
}

// P8.5
func TestWord(t *testing.T) {
	for kind, want := range map[int]string{
		api.Pawn: "pawn", api.Knight: "knight", api.Bishop: "bishop", api.Rook: "rook", api.Queen: "queen", api.King: "king",
	} {
		if s := piece.Word(kind); s != want {
			t.Errorf("Word(%d) = %q; want %q", kind, s, want)
		}
	}
	for _, n := range slices.DeleteFunc(edges(), isKind) {
		if s := piece.Word(n); s != "" {
			t.Errorf("Word(%d) = %q", n, s)
		}
	}
}

// P8.6: each piece is found again from its color and its kind, and from its letter; and it has no other color.
func TestPiecesAreFoundAgain(t *testing.T) {
	for n := 1; n <= 12; n++ {
		color, e := piece.Color(n)
		if e != api.OK || !isColor(color) || !isKind(piece.Kind(n)) {
			t.Errorf("%d has the color %d, %d, and the kind %d", n, color, e, piece.Kind(n))
		}
		if p, e := piece.Of(color, piece.Kind(n)); p != n || e != api.OK {
			t.Errorf("%d has the color %d and the kind %d, which are those of %d, %d", n, color, piece.Kind(n), p, e)
		}
		if !piece.Is(n, color) || piece.Is(n, 1-color) {
			t.Errorf("%d has the color %d, but Is says: %t, and %t for the other one", n, color, piece.Is(n, color), piece.Is(n, 1-color))
		}
		letter, e := piece.Letter(n)
		if e != api.OK {
			t.Errorf("Letter(%d): %d", n, e)
		}
		if p, e := piece.Parse(letter); p != n || e != api.OK {
			t.Errorf("%d has the letter %q, which is that of %d, %d", n, letter, p, e)
		}
	}
}

// P8.6: there are twelve pieces: by colors and kinds, by numbers, and by letters.
func TestTwelvePieces(t *testing.T) {
	byKind, byNumber, byLetter := map[int]bool{}, map[int]bool{}, map[int]bool{}
	for _, color := range edges() {
		for _, kind := range edges() {
			if p, e := piece.Of(color, kind); e == api.OK {
				byKind[p] = true
			}
		}
	}
	for _, n := range edges() {
		if _, e := piece.Color(n); e == api.OK {
			byNumber[n] = true
		}
	}
	letters := 0
	for r := rune(0); r < 0x3000; r++ {
		if p, e := piece.Parse(string(r)); e == api.OK {
			byLetter[p] = true
			letters++
		}
	}
	if len(byKind) != 12 || len(byNumber) != 12 || len(byLetter) != 12 || letters != 12 {
		t.Errorf("%d pieces by their kinds, %d by their numbers, %d by %d letters", len(byKind), len(byNumber), len(byLetter), letters)
	}
}

// P8.7
func TestSwapAndOtherTwice(t *testing.T) {
	for n := 1; n <= 12; n++ {
		once, e := piece.Swap(n)
		twice, f := piece.Swap(once)
		if twice != n || once == n || e != api.OK || f != api.OK {
			t.Errorf("Swap(%d) = %d, %d; Swap of this = %d, %d", n, once, e, twice, f)
		}
		before, e := piece.Color(n)
		behind, f := piece.Color(once)
		other, g := piece.Other(before)
		if behind == before || behind != other || e != api.OK || f != api.OK || g != api.OK {
			t.Errorf("Swap(%d) = %d changes the color from %d to %d", n, once, before, behind)
		}
		if piece.Kind(once) != piece.Kind(n) {
			t.Errorf("Swap(%d) = %d changes the kind from %d to %d", n, once, piece.Kind(n), piece.Kind(once))
		}
	}
	for color := range 2 {
		once, e := piece.Other(color)
		twice, f := piece.Other(once)
		if twice != color || once == color || e != api.OK || f != api.OK {
			t.Errorf("Other(%d) = %d, %d; Other of this = %d, %d", color, once, e, twice, f)
		}
	}
}
