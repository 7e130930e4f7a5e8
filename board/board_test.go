package board_test

import (
	"fmt"
	"math"
	"regexp"
	"slices"
	"strings"
	"testing"

	"tempo/api"
	"tempo/bitboard"
	"tempo/board"
	"tempo/mix"
)

const (
	start     = "rnbqkbnr/pppppppp/8/8/8/8/PPPPPPPP/RNBQKBNR"
	noPiece   = "8/8/8/8/8/8/8/8"
	letters   = "PNBRQKpnbrqk" // of the pieces 1 to 12
	allBits   = bitboard.Set(math.MaxUint64)
	whiteKing = 6
	blackKing = 12
)

// placements returns those of boards with a piece on no square, on some and on all, with no kings and with several ones, and with rows of empty squares of all lengths.
func placements() []string {
	return []string{
		start, noPiece,
		"pppppppp/pppppppp/pppppppp/pppppppp/pppppppp/pppppppp/pppppppp/pppppppp",
		"KKKKKKKK/KKKKKKKK/KKKKKKKK/KKKKKKKK/KKKKKKKK/KKKKKKKK/KKKKKKKK/KKKKKKKK",
		"PNBRQKpn/brqkPNBR/QKpnbrqk/PNBRQKpn/brqkPNBR/QKpnbrqk/PNBRQKpn/brqkPNBR",
		"rnbqkbnr/pppppppp/PPPPPPPP/RNBQKBNR/rnbqkbnr/pppppppp/PPPPPPPP/RNBQKBNR",
		"4k3/8/8/8/8/8/8/4K3", "4k3/P1P5/8/8/3q4/8/p7/R3K3", "1p1p1p1p/p1p1p1p1/8/7k/K7/8/2Q5/R6R",
		"K7/8/8/8/8/8/8/7K", "k6k/8/8/k7/8/8/8/8", "4k3/8/8/8/8/8/8/8", "8/8/8/8/8/8/8/4K3", "kk6/8/8/8/8/8/8/K7", "k7/8/8/8/8/8/8/KK6",
		"7p/6p1/5p2/4p3/3p4/2p5/1p6/p7", "P7/1P6/2P5/3P4/4P3/5P2/6P1/7P", "R6r/1N4n1/2B2b2/3Qq3/3kK3/2b2B2/1n4N1/r6R",
		"8/8/8/8/8/8/8/P7", "7p/8/8/8/8/8/8/8", "pppppppp/8/8/8/8/8/8/8", "8/8/8/8/8/8/8/QQQQQQQQ", "8/8/8/pPpPpPpP/8/8/8/8",
	}
}

// boards returns the boards of the placements, those with each piece on each square alone, and others: with few pieces, and with many.
func boards(t *testing.T) []api.Board {
	t.Helper()
	var out []api.Board
	for _, s := range placements() {
		out = append(out, boardOf(t, s))
	}
	for square := range 64 {
		for p := 1; p <= 12; p++ {
			var b api.Board
			b[square] = p
			out = append(out, b)
		}
	}
	for i := range uint64(200) {
		var b api.Board
		for square := range b {
			if n := mix.At(9, 64*i+uint64(square)); n>>32%200 < i {
				b[square] = int(n % 13)
			}
		}
		out = append(out, b)
	}
	return out
}

// notPieces returns numbers that no square of a valid board has. Some would be pieces if they were cut to 4, 8, 16 or 32 bits, or without their sign.
func notPieces() []int {
	return []int{
		-1, 13, -2, -6, -7, -12, -13, -16, 14, 15, 16, 17, 18, 19, 22, 28, 64, 99, 127, 128, 129, 134, 255, 256, 257, 262, 268, -250, -256,
		1 << 16, 1<<16 + 6, 1<<16 + 12, math.MaxInt32, math.MaxInt32 + 1, math.MinInt32, math.MinInt32 - 1, 1 << 32, 1<<32 + 6, 1<<32 + 12, -1<<32 + 6, 1<<32 - 1, 1<<62 + 6,
		math.MinInt, math.MinInt + 1, math.MinInt + 6, math.MinInt + 12, math.MaxInt - 12, math.MaxInt - 1, math.MaxInt,
	}
}

// notSquares returns numbers that are no squares. Some would be if they were cut to 6, 8, 16 or 32 bits, or without their sign.
func notSquares() []int {
	return []int{
		-1, 64, -2, -8, -12, -28, -63, -64, 65, 76, 127, 128, 255, 256, 268, -244, -256, 1 << 16, 1<<16 + 12, 1 << 32, 1<<32 + 12, -1<<32 + 12, 1<<32 - 1, math.MaxInt32, math.MinInt32,
		math.MinInt, math.MinInt + 1, math.MinInt + 12, math.MinInt + 63, math.MaxInt - 63, math.MaxInt - 1, math.MaxInt,
	}
}

// spoilt returns boards that are not valid: with each of the numbers that are no pieces on one square, on several, and on all.
func spoilt(t *testing.T) []api.Board {
	t.Helper()
	var out []api.Board
	for _, s := range []string{start, noPiece, "4k3/P1P5/8/8/3q4/8/p7/R3K3"} {
		for i, n := range notPieces() {
			one := boardOf(t, s)
			one[i*7%64] = n
			several := one
			several[0], several[31], several[63] = n, 13, n
			out = append(out, one, several)
		}
	}
	for _, n := range notPieces() {
		var all api.Board
		for square := range all {
			all[square] = n
		}
		out = append(out, all)
	}
	return out
}

// cleaned returns the board whose squares are empty where there is no piece.
func cleaned(b api.Board) api.Board {
	for square := range b {
		if b[square] < 1 || b[square] > 12 {
			b[square] = 0
		}
	}
	return b
}

var (
	shape    = regexp.MustCompile(`^[PNBRQKpnbrqk1-8]+(/[PNBRQKpnbrqk1-8]+){7}$`)
	twoInRow = regexp.MustCompile(`[1-8][1-8]`)
)

// decoded decodes a placement, of which the test checks the form as a whole before it looks at the squares.
func decoded(s string) (api.Board, bool) {
	if !shape.MatchString(s) || twoInRow.MatchString(s) {
		return api.Board{}, false
	}
	for n := 1; n <= 8; n++ {
		s = strings.ReplaceAll(s, fmt.Sprint(n), strings.Repeat(".", n))
	}
	var b api.Board
	for i, rank := range strings.Split(s, "/") {
		if len(rank) != 8 {
			return api.Board{}, false
		}
		for file := range 8 {
			b[8*(7-i)+file] = strings.Index(letters, rank[file:file+1]) + 1
		}
	}
	return b, true
}

// encoded returns the placement of a valid board.
func encoded(b api.Board) string {
	var ranks []string
	for rank := 7; rank >= 0; rank-- {
		text := ""
		for _, n := range b[8*rank : 8*rank+8] {
			text += string("." + letters)[n : n+1]
		}
		for n := 8; n >= 1; n-- {
			text = strings.ReplaceAll(text, strings.Repeat(".", n), fmt.Sprint(n))
		}
		ranks = append(ranks, text)
	}
	return strings.Join(ranks, "/")
}

// boardOf returns the board with a placement, and fails if the test gave none.
func boardOf(t *testing.T, s string) api.Board {
	t.Helper()
	b, is := decoded(s)
	if !is {
		t.Fatalf("%q is no placement", s)
	}
	return b
}

// refused fails if a string is decoded.
func refused(t *testing.T, s string) {
	t.Helper()
	if b, e := board.Parse(s); b != (api.Board{}) || e != api.ErrBadFEN {
		t.Errorf("Parse(%q) = %v, %d", s, b, e)
	}
}

// parsed fails if Parse does not treat a string as the test does.
func parsed(t *testing.T, s string) {
	t.Helper()
	want, is := decoded(s)
	if !is {
		refused(t, s)
		return
	}
	if b, e := board.Parse(s); b != want || e != api.OK {
		t.Errorf("Parse(%q) = %v, %d; want %v", s, b, e, want)
	}
}

// moved fails if Move does not return a board, or an error.
func moved(t *testing.T, b api.Board, from, to int, want api.Board, wantErr api.Errno) {
	t.Helper()
	before := b
	if m, e := board.Move(b, from, to); m != want || e != wantErr {
		t.Errorf("Move(%v, %d, %d) = %v, %d; want %v, %d", b, from, to, m, e, want, wantErr)
	}
	if b != before {
		t.Errorf("Move(%v, %d, %d) changed the board to %v", before, from, to, b)
	}
}

// list returns the squares of a set.
func list(s bitboard.Set) []int { return slices.Collect(s.All()) }

// squaresWith returns the squares with one of the numbers from least to greatest.
func squaresWith(b api.Board, least, greatest int) bitboard.Set {
	var s bitboard.Set
	for square, n := range b {
		if least <= n && n <= greatest {
			s |= 1 << square
		}
	}
	return s
}

// The chapter's examples.
func TestExamples(t *testing.T) {
	s, e := board.Parse(start)
	if e != api.OK || s[0] != 4 || s[4] != 6 || s[12] != 1 || s[60] != 12 || s[28] != 0 {
		t.Errorf("Parse(%q) = %v, %d", start, s, e)
	}
	if l := list(board.Of(s, 1)); !slices.Equal(l, []int{8, 9, 10, 11, 12, 13, 14, 15}) {
		t.Errorf("Of(S, 1) has %v", l)
	}
	if square, is := board.King(s, 1); square != 60 || !is {
		t.Errorf("King(S, 1) = %d, %t", square, is)
	}
	if n := board.Count(s); n[0] != 32 || n[7] != 8 || n[12] != 1 {
		t.Errorf("Count(S) = %v", n)
	}
	m, e := board.Move(s, 12, 28)
	if p, f := board.Placement(m); p != "rnbqkbnr/pppppppp/8/8/4P3/8/PPPP1PPP/RNBQKBNR" || e != api.OK || f != api.OK {
		t.Errorf("Move(S, 12, 28) has the placement %q, %d, %d", p, e, f)
	}
	moved(t, s, 28, 36, api.Board{}, api.ErrNone)
	moved(t, s, 12, 12, api.Board{}, api.ErrArg)
	moved(t, s, 12, 64, api.Board{}, api.ErrRange)
	for _, bad := range []string{"8/8/8/8/8/8/8", "8/8/8/8/8/8/8/44", "8/8/8/8/8/8/8/9", "8/8/8/8/8/8/8/7x"} {
		refused(t, bad)
	}
}

// P9.1
func TestCheck(t *testing.T) {
	for _, b := range boards(t) {
		if e := board.Check(b); e != api.OK {
			t.Errorf("Check(%v) = %d", b, e)
		}
	}
	for _, b := range spoilt(t) {
		if e := board.Check(b); e != api.ErrArg {
			t.Errorf("Check(%v) = %d", b, e)
		}
	}
}

// P9.1: a number that is no piece, on each square alone.
func TestCheckOfEachSquare(t *testing.T) {
	for square := range 64 {
		for _, n := range notPieces() {
			b := boardOf(t, start)
			b[square] = n
			if e := board.Check(b); e != api.ErrArg {
				t.Errorf("Check with %d on %d = %d", n, square, e)
			}
			if s, e := board.Placement(b); s != "" || e != api.ErrArg {
				t.Errorf("Placement with %d on %d = %q, %d", n, square, s, e)
			}
		}
	}
}

// P9.1
func TestPlacement(t *testing.T) {
	for _, want := range placements() {
		if s, e := board.Placement(boardOf(t, want)); s != want || e != api.OK {
			t.Errorf("Placement = %q, %d; want %q", s, e, want)
		}
	}
	for _, b := range boards(t) {
		if s, e := board.Placement(b); s != encoded(b) || e != api.OK {
			t.Errorf("Placement(%v) = %q, %d; want %q", b, s, e, encoded(b))
		}
	}
	for _, b := range spoilt(t) {
		if s, e := board.Placement(b); s != "" || e != api.ErrArg {
			t.Errorf("Placement(%v) = %q, %d", b, s, e)
		}
	}
}

// P9.1, P9.2: each rank, with pieces on each subset of its squares.
func TestRanks(t *testing.T) {
	for rank := range 8 {
		for subset := range 256 {
			var b api.Board
			for file := range 8 {
				if subset>>file&1 == 1 {
					b[8*rank+file] = 1 + (subset+file)%12
				}
			}
			want := encoded(b)
			if s, e := board.Placement(b); s != want || e != api.OK {
				t.Errorf("Placement(%v) = %q, %d; want %q", b, s, e, want)
			}
			if back, e := board.Parse(want); back != b || e != api.OK {
				t.Errorf("Parse(%q) = %v, %d; want %v", want, back, e, b)
			}
		}
	}
}

// P9.2
func TestParse(t *testing.T) {
	for _, s := range placements() {
		if b, e := board.Parse(s); b != boardOf(t, s) || e != api.OK {
			t.Errorf("Parse(%q) = %v, %d; want %v", s, b, e, boardOf(t, s))
		}
	}
	b, e := board.Parse("r7/8/8/8/8/8/8/N6q")
	if e != api.OK || b[56] != 10 || b[0] != 2 || b[7] != 11 || squaresWith(b, 1, 12) != 1<<56|1|1<<7 {
		t.Errorf("Parse(r7/8/8/8/8/8/8/N6q) = %v, %d", b, e)
	}
}

// P9.2: strings with too few or too many ranks, and with separators where none belongs.
func TestParseRanks(t *testing.T) {
	for n := range 100 {
		for _, rank := range []string{"8", "pppppppp", "4P3", "", "K7"} {
			s := strings.Join(slices.Repeat([]string{rank}, n), "/")
			if n != 8 || rank == "" {
				refused(t, s)
			}
			refused(t, s+"/")
			refused(t, "/"+s)
			refused(t, "/"+s+"/")
		}
	}
	for _, s := range []string{
		"/", "//", "///////", "////////", "8", "88888888", "8 8 8 8 8 8 8 8", "8,8,8,8,8,8,8,8", "8\n8\n8\n8\n8\n8\n8\n8", `8\8\8\8\8\8\8\8`, "8-8-8-8-8-8-8-8",
		"8//8/8/8/8/8/8", "8//8/8/8/8/8/8/8", "8/8/8/8/8/8/8//8", "8/8/8/8/8/8/8//", "8/8/8/8//8/8/8", "/8/8/8/8/8/8/8", "8/8/8/8/8/8/8/", "//8/8/8/8/8/8/8/8",
		"8/8/8/8/8/8/8 /8", "8/8/8/8/8/8/8/ 8", "64", "pppppppppppppppp/8/8/8/8/8/8", "8/8/8/8/8/8/8/8/8", start + "/8", "8/" + start, start + start, start + "/" + start,
	} {
		refused(t, s)
	}
}

// P9.2: ranks that are too short or too long, with digits that there are not or that stand side by side, with spaces, and with other characters; each of them in each rank.
func TestParseOtherRanks(t *testing.T) {
	bad := []string{
		"", "7", "1", "p", "6p", "p6", "ppppppp", "7p1", "8p", "p8", "ppppppppp", "pppp5", "4p4", "5pppp", "8pppppppp", "81", "88", "71p",
		"0", "9", "08", "80", "0p7", "p07", "p70", "9p", "p9", "008", "10", "16", "007p", "8.0", "+8", "-8", "8e0",
		"44", "17", "71", "11111111", "p16", "p61", "16p", "61p", "22p3", "p34", "1111pppp", "53", "2222", "p1p11p2", "12p4", "41p2",
		" ", " 8", "8 ", "4 4", "4  4", "p 7", "p7 ", " p7", "        ", "pppp ppp", "pppp pppp", "4\t3", "8\n", "\n8", "8\x00", "\x008", "\r8", "pppppppp\x00",
		"x7", "7x", "pppppppx", "........", "4.3", "xxxxxxxx", "A7", "a7", "C7", "c7", "O7", "o7", "S7", "7s", "w7", "B7b", "3-4", "4,3", "*7", "_7", "=7", "p=6", "PNBRQKAB", "kqrbnpcd",
		"pawn", "king", "Nf3", "4K2k1", "p+7", "l7", "I7", "(8)", "8?", "[8]", "{8}", "P:7",
	}
	for _, rank := range bad {
		for i := range 8 {
			ranks := slices.Repeat([]string{"8"}, 8)
			ranks[i] = rank
			refused(t, strings.Join(ranks, "/"))
			ranks = strings.Split(start, "/")
			ranks[i] = rank
			refused(t, strings.Join(ranks, "/"))
		}
	}
}

// P9.2: ranks whose lengths are wrong, and make up for each other.
func TestParseUnequalRanks(t *testing.T) {
	for _, s := range []string{
		"7/8p/8/8/8/8/8/8", "8p/7/8/8/8/8/8/8", "7/p8/8/8/8/8/8/8", "ppppppp/ppppppppp/8/8/8/8/8/8", "ppppppppp/ppppppp/8/8/8/8/8/8", "8/8/8/8/8/8/pppp/pppppppppppp",
		"88//8/8/8/8/8/8", "4/48/8/8/8/8/8/8", "8/8/8/8/8/8/8p/7", "8/8/8/8/8/8/7/p8", "8/8/8/8/8/8/8/8p", "9p/6/8/8/8/8/8/8",
	} {
		refused(t, s)
	}
}

// P9.2: bytes that are no UTF-8, and characters of several bytes, some of them digits or letters that look like those of placements, or are cut to them.
func TestParseEncodings(t *testing.T) {
	for _, c := range []string{
		"\x80", "\xb8", "\xbf", "\xc0", "\xc3", "\xd0", "\xed\xa0\x80", "\xf0", "\xf0\x9f", "\xff", "\xfe", "\xc0\xaf", "\xc1\x90", "\xe0\x80\xaf", "\xb1", "\xd0\xb8", "\ufffd",
		"\u00e9", "\u00b2", "\u00b3", "\u00b9", "\u0131", "\u0138", "\u0150", "\u0170", "\u0338", "\u0430", "\u043a", "\u0440", "\u0420", "\u041a", "\u0664", "\u0667", "\u0668", "\u06f8", "\u096e", "\u1038", "\u212a", "\u2044", "\u2215", "\u2088", "\u2078",
		"\u2654", "\u265a", "\u265f", "\uff0f", "\uff11", "\uff18", "\uff2b", "\uff50", "\ufeff", "\u200d", "\u0301", "\U0001d7e0", "\U00010050", "\U00010038",
	} {
		for _, s := range []string{c, c + "7/8/8/8/8/8/8/8", "8/8/8/8/8/8/8/7" + c, "8/8/8/8/8/8/8/" + c, "8/8/8/3" + c + "4/8/8/8/8", "8/8/8/" + c + "8/8/8/8/8", start + c, c + start, "8" + c + "8/8/8/8/8/8/8", noPiece + c, strings.Repeat(c, 64)} {
			refused(t, s)
		}
		for i := range start {
			refused(t, start[:i]+c+start[i:])
			refused(t, start[:i]+c+start[i+1:])
		}
	}
}

// P9.2, Limits: the longest placements have 71 bytes, and what is longer is none.
func TestParseLongStrings(t *testing.T) {
	longest := strings.Join(slices.Repeat([]string{"QqRrBbNn"}, 8), "/")
	if len(longest) != 71 {
		t.Fatal(len(longest))
	}
	if b, e := board.Parse(longest); b != boardOf(t, longest) || e != api.OK {
		t.Errorf("Parse(%q) = %v, %d", longest, b, e)
	}
	for _, c := range []string{"p", "8", "1", "/", " ", "\x00", "\xff", "\u265f", "0"} {
		refused(t, longest+c)
		refused(t, c+longest)
		refused(t, longest[:35]+c+longest[35:])
		for _, n := range []int{64, 71, 72, 1000, 1 << 20} {
			refused(t, strings.Repeat(c, n))
			refused(t, start+strings.Repeat(c, n))
			refused(t, strings.Repeat(c, n)+start)
		}
	}
	for _, s := range []string{noPiece + "/", start, " ", "8/8/8/8/8/8/8/0"} {
		refused(t, strings.Repeat(s, 100000))
	}
}

// P9.2: all strings that differ from a placement in a byte: another one, one more, or one less.
func TestParseChangedBytes(t *testing.T) {
	for _, s := range []string{start, noPiece, "4k3/P1P5/8/8/3q4/8/p7/R3K3", "1p1p1p1p/p1p1p1p1/8/7k/K7/8/2Q5/R6R"} {
		for i := 0; i <= len(s); i++ {
			for c := range 256 {
				one := string([]byte{byte(c)})
				parsed(t, s[:i]+one+s[i:])
				if i < len(s) {
					parsed(t, s[:i]+one+s[i+1:])
				}
			}
			if i < len(s) {
				parsed(t, s[:i]+s[i+1:])
			}
			refused(t, s[:i]+" "+s[i:])
		}
		for i := range s {
			refused(t, s[:i])
		}
	}
}

// P9.2: all ranks of up to five characters, of those that matter.
func TestParseShortRanks(t *testing.T) {
	ranks := []string{""}
	for range 5 {
		var longer []string
		for _, rank := range ranks {
			for _, c := range []string{"1", "2", "5", "8", "0", "9", "p", "K"} {
				longer = append(longer, rank+c)
			}
		}
		for _, rank := range longer {
			parsed(t, "8/8/8/"+rank+"/8/8/8/8")
		}
		ranks = longer
	}
}

// P9.3
func TestOf(t *testing.T) {
	for _, b := range slices.Concat(boards(t), spoilt(t)) {
		for p := 1; p <= 12; p++ {
			if s := board.Of(b, p); s != squaresWith(b, p, p) {
				t.Errorf("Of(%v, %d) has %v", b, p, list(s))
			}
		}
		if s := board.Of(b, 0); s != 0 {
			t.Errorf("Of(%v, 0) has %v", b, list(s))
		}
	}
	b := boardOf(t, "4k3/P1P5/8/8/3q4/8/p7/R3K3")
	for p, want := range map[int][]int{1: {48, 50}, 2: nil, 4: {0}, 5: nil, 6: {4}, 7: {8}, 11: {27}, 12: {60}} {
		if l := list(board.Of(b, p)); !slices.Equal(l, want) {
			t.Errorf("Of(%v, %d) has %v; want %v", b, p, l, want)
		}
	}
}

// P9.3: numbers that are no pieces are on no square, not even if they are on the board.
func TestOfNoPiece(t *testing.T) {
	for _, b := range append(spoilt(t), boardOf(t, start), boardOf(t, noPiece)) {
		for _, n := range append(notPieces(), 0) {
			if s := board.Of(b, n); s != 0 {
				t.Errorf("Of(%v, %d) has %v", b, n, list(s))
			}
		}
	}
}

// P9.3
func TestColor(t *testing.T) {
	for _, b := range slices.Concat(boards(t), spoilt(t)) {
		if s := board.Color(b, api.White); s != squaresWith(b, 1, 6) {
			t.Errorf("Color(%v, White) has %v", b, list(s))
		}
		if s := board.Color(b, api.Black); s != squaresWith(b, 7, 12) {
			t.Errorf("Color(%v, Black) has %v", b, list(s))
		}
		for _, color := range append(notPieces(), 2, 3, 6, 7, 12) {
			if s := board.Color(b, color); s != 0 {
				t.Errorf("Color(%v, %d) has %v", b, color, list(s))
			}
		}
	}
	b := boardOf(t, "4k3/P1P5/8/8/3q4/8/p7/R3K3")
	for color, want := range [][]int{{0, 4, 48, 50}, {8, 27, 60}} {
		if l := list(board.Color(b, color)); !slices.Equal(l, want) {
			t.Errorf("Color(%v, %d) has %v; want %v", b, color, l, want)
		}
	}
}

// P9.3: a king on each square, alone, with the other king, and among numbers that would be kings if they were cut.
func TestKing(t *testing.T) {
	for square := range 64 {
		for color, king := range []int{whiteKing, blackKing} {
			other := (square + 17) % 64
			var alone api.Board
			alone[square] = king
			both := alone
			both[other] = whiteKing + blackKing - king
			cut := alone
			cut[(square+1)%64], cut[(square+2)%64], cut[(square+3)%64] = king+256, king+1<<32, king-256
			for _, b := range []api.Board{alone, both, cut} {
				if k, is := board.King(b, color); k != square || !is {
					t.Errorf("King(%v, %d) = %d, %t; want %d", b, color, k, is, square)
				}
			}
			for _, b := range []api.Board{alone, cut} {
				if k, is := board.King(b, 1-color); k != 0 || is {
					t.Errorf("King(%v, %d) = %d, %t", b, 1-color, k, is)
				}
			}
			if k, is := board.King(both, 1-color); k != other || !is {
				t.Errorf("King(%v, %d) = %d, %t; want %d", both, 1-color, k, is, other)
			}
		}
	}
}

// P9.3: boards without kings, with several ones, and colors that there are not.
func TestKingMissing(t *testing.T) {
	for _, x := range []struct {
		s     string
		color int
	}{
		{noPiece, 0}, {noPiece, 1}, {"4k3/8/8/8/8/8/8/8", 0}, {"8/8/8/8/8/8/8/4K3", 1}, {"QRBNPqrb/np6/8/8/8/8/8/8", 0}, {"QRBNPqrb/np6/8/8/8/8/8/8", 1},
		{"K7/8/8/8/8/8/8/7K", 0}, {"K7/8/8/8/8/8/8/7K", 1}, {"KK5k/8/8/8/8/8/8/8", 0}, {"kk6/8/8/8/8/8/8/K7", 1}, {"kkk5/8/8/8/8/8/8/K7", 1},
		{"KKKKKKKK/KKKKKKKK/KKKKKKKK/KKKKKKKK/KKKKKKKK/KKKKKKKK/KKKKKKKK/KKKKKKKK", 0}, {"kkkkkkkk/kkkkkkkk/kkkkkkkk/kkkkkkkk/kkkkkkkk/kkkkkkkk/kkkkkkkk/kkkkkkkk", 1},
	} {
		if square, is := board.King(boardOf(t, x.s), x.color); square != 0 || is {
			t.Errorf("King of %q, %d = %d, %t", x.s, x.color, square, is)
		}
	}
	for _, b := range append(spoilt(t), boardOf(t, start)) {
		for _, color := range append(notPieces(), 2, 3, 6, 7, 12) {
			if square, is := board.King(b, color); square != 0 || is {
				t.Errorf("King(%v, %d) = %d, %t", b, color, square, is)
			}
		}
	}
}

// P9.3: what King says of other boards follows from how many kings there are.
func TestKingOfBoards(t *testing.T) {
	for _, b := range slices.Concat(boards(t), spoilt(t)) {
		for color, king := range []int{whiteKing, blackKing} {
			l := list(squaresWith(b, king, king))
			want := 0
			if len(l) == 1 {
				want = l[0]
			}
			if square, is := board.King(b, color); square != want || is != (len(l) == 1) {
				t.Errorf("King(%v, %d) = %d, %t, with the kings %v", b, color, square, is, l)
			}
		}
	}
}

// P9.3
func TestCount(t *testing.T) {
	for s, want := range map[string][13]int{
		start:                        {32, 8, 2, 2, 2, 1, 1, 8, 2, 2, 2, 1, 1},
		noPiece:                      {64},
		"4k3/P1P5/8/8/3q4/8/p7/R3K3": {57, 2, 0, 0, 1, 0, 1, 1, 0, 0, 0, 1, 1},
		"pppppppp/pppppppp/pppppppp/pppppppp/pppppppp/pppppppp/pppppppp/pppppppp": {7: 64},
		"KKKKKKKK/KKKKKKKK/KKKKKKKK/KKKKKKKK/KKKKKKKK/KKKKKKKK/KKKKKKKK/KKKKKKKK": {6: 64},
	} {
		if n := board.Count(boardOf(t, s)); n != want {
			t.Errorf("Count of %q = %v; want %v", s, n, want)
		}
	}
	for _, b := range slices.Concat(boards(t), spoilt(t)) {
		want := [13]int{64}
		for p := 1; p <= 12; p++ {
			want[p] = squaresWith(b, p, p).Len()
			want[0] -= want[p]
		}
		if n := board.Count(b); n != want {
			t.Errorf("Count(%v) = %v; want %v", b, n, want)
		}
	}
}

// P9.3: numbers that are no pieces count as empty squares.
func TestUnknownNumbersAreEmptySquares(t *testing.T) {
	for _, b := range spoilt(t) {
		clean := cleaned(b)
		if board.Count(b) != board.Count(clean) {
			t.Errorf("Count(%v) = %v; want %v", b, board.Count(b), board.Count(clean))
		}
		for p := -1; p <= 13; p++ {
			if board.Of(b, p) != board.Of(clean, p) {
				t.Errorf("Of(%v, %d) has %v; want %v", b, p, list(board.Of(b, p)), list(board.Of(clean, p)))
			}
		}
		for color := range 2 {
			if board.Color(b, color) != board.Color(clean, color) {
				t.Errorf("Color(%v, %d) has %v; want %v", b, color, list(board.Color(b, color)), list(board.Color(clean, color)))
			}
			square, is := board.King(b, color)
			if want, wanted := board.King(clean, color); square != want || is != wanted {
				t.Errorf("King(%v, %d) = %d, %t; want %d, %t", b, color, square, is, want, wanted)
			}
		}
	}
}

// P9.4: from each square to each other one, whatever is there, and whatever chess says of it.
func TestMove(t *testing.T) {
	for _, s := range placements() {
		b := boardOf(t, s)
		for from := range 64 {
			for to := range 64 {
				if from == to {
					moved(t, b, from, to, api.Board{}, api.ErrArg)
					continue
				}
				if b[from] == 0 {
					moved(t, b, from, to, api.Board{}, api.ErrNone)
					continue
				}
				want := b
				want[to] = b[from]
				want[from] = 0
				moved(t, b, from, to, want, api.OK)
			}
		}
	}
}

// P9.4: a piece goes to an empty square, takes one of the other color, one of its own, and a king.
func TestMovesOfTheStart(t *testing.T) {
	b := boardOf(t, start)
	for _, x := range []struct {
		from, to int
		want     string
	}{
		{6, 21, "rnbqkbnr/pppppppp/8/8/8/5N2/PPPPPPPP/RNBQKB1R"},
		{0, 63, "rnbqkbnR/pppppppp/8/8/8/8/PPPPPPPP/1NBQKBNR"},
		{63, 0, "rnbqkbn1/pppppppp/8/8/8/8/PPPPPPPP/rNBQKBNR"},
		{4, 3, "rnbqkbnr/pppppppp/8/8/8/8/PPPPPPPP/RNBK1BNR"},
		{8, 60, "rnbqPbnr/pppppppp/8/8/8/8/1PPPPPPP/RNBQKBNR"},
		{52, 4, "rnbqkbnr/pppp1ppp/8/8/8/8/PPPPPPPP/RNBQpBNR"},
		{60, 35, "rnbq1bnr/pppppppp/8/3k4/8/8/PPPPPPPP/RNBQKBNR"},
	} {
		m, e := board.Move(b, x.from, x.to)
		if s := encoded(cleaned(m)); s != x.want || e != api.OK {
			t.Errorf("Move(S, %d, %d) = %q, %d; want %q", x.from, x.to, s, e, x.want)
		}
	}
}

// P9.4: squares that there are not.
func TestMoveOffTheBoard(t *testing.T) {
	b := boardOf(t, start)
	for _, n := range notSquares() {
		for _, square := range []int{0, 12, 28, 63} {
			moved(t, b, n, square, api.Board{}, api.ErrRange)
			moved(t, b, square, n, api.Board{}, api.ErrRange)
		}
		for _, m := range notSquares() {
			want := api.ErrRange
			if n == m {
				want = api.ErrArg
			}
			moved(t, b, n, m, api.Board{}, want)
		}
	}
}

// P9.4: if several errors apply, the one that is named first is returned.
func TestMoveErrorsInOrder(t *testing.T) {
	for _, b := range spoilt(t) {
		for _, x := range [][2]int{{12, 28}, {12, 12}, {12, 64}, {-1, 12}, {-1, 64}, {64, 64}, {28, 36}, {28, 28}, {28, -1}, {0, 63}, {math.MinInt, math.MaxInt}} {
			moved(t, b, x[0], x[1], api.Board{}, api.ErrArg)
		}
	}
	b := boardOf(t, start)
	for _, x := range []struct {
		from, to int
		e        api.Errno
	}{
		{64, 64, api.ErrArg}, {-1, -1, api.ErrArg}, {math.MinInt, math.MinInt, api.ErrArg}, {math.MaxInt, math.MaxInt, api.ErrArg}, {28, 28, api.ErrArg},
		{28, -1, api.ErrRange}, {28, 64, api.ErrRange}, {-1, 28, api.ErrRange}, {math.MinInt, 28, api.ErrRange}, {28, math.MaxInt, api.ErrRange},
		{28, 36, api.ErrNone}, {28, 12, api.ErrNone}, {28, 60, api.ErrNone},
	} {
		moved(t, b, x.from, x.to, api.Board{}, x.e)
	}
}

// P9.4: a number on the square from or to that is no piece is an error, and is not moved.
func TestMoveOfNoPiece(t *testing.T) {
	for _, n := range notPieces() {
		b := boardOf(t, start)
		b[28] = n
		moved(t, b, 28, 36, api.Board{}, api.ErrArg)
		moved(t, b, 12, 28, api.Board{}, api.ErrArg)
		moved(t, b, 36, 28, api.Board{}, api.ErrArg)
	}
}

// P9.5
func TestFlip(t *testing.T) {
	for s, want := range map[string]string{
		start:                                 start,
		noPiece:                               noPiece,
		"4k3/P1P5/8/8/3q4/8/p7/R3K3":          "r3k3/P7/8/3Q4/8/8/p1p5/4K3",
		"1p1p1p1p/p1p1p1p1/8/7k/K7/8/2Q5/R6R": "r6r/2q5/8/k7/7K/8/P1P1P1P1/1P1P1P1P",
		"PNBRQK2/8/8/8/8/8/8/2pnbrqk":         "2PNBRQK/8/8/8/8/8/8/pnbrqk2",
		"K7/8/8/8/8/8/8/7K":                   "7k/8/8/8/8/8/8/k7",
		"8/8/8/8/P7/8/8/8":                    "8/8/8/p7/8/8/8/8",
		"pppppppp/pppppppp/pppppppp/pppppppp/pppppppp/pppppppp/pppppppp/pppppppp": "PPPPPPPP/PPPPPPPP/PPPPPPPP/PPPPPPPP/PPPPPPPP/PPPPPPPP/PPPPPPPP/PPPPPPPP",
	} {
		if f, e := board.Flip(boardOf(t, s)); f != boardOf(t, want) || e != api.OK {
			t.Errorf("Flip of %q = %v, %d; want %q", s, f, e, want)
		}
	}
	for _, b := range boards(t) {
		var want api.Board
		for rank := range 8 {
			for file := range 8 {
				if n := b[8*rank+file]; n > 6 {
					want[8*(7-rank)+file] = n - 6
				} else if n > 0 {
					want[8*(7-rank)+file] = n + 6
				}
			}
		}
		if f, e := board.Flip(b); f != want || e != api.OK {
			t.Errorf("Flip(%v) = %v, %d; want %v", b, f, e, want)
		}
	}
	for _, b := range spoilt(t) {
		if f, e := board.Flip(b); f != (api.Board{}) || e != api.ErrArg {
			t.Errorf("Flip(%v) = %v, %d", b, f, e)
		}
	}
}

// P9.6
func TestSets(t *testing.T) {
	for _, b := range slices.Concat(boards(t), spoilt(t)) {
		var seen bitboard.Set
		var colors [2]bitboard.Set
		count := board.Count(b)
		for p := 1; p <= 12; p++ {
			s := board.Of(b, p)
			if seen&s != 0 {
				t.Errorf("%v: Of for %d has squares of other pieces: %v", b, p, list(seen&s))
			}
			if s.Len() != count[p] {
				t.Errorf("%v: Of for %d has %v, and Count %d", b, p, list(s), count[p])
			}
			seen |= s
			colors[(p-1)/6] |= s
		}
		if seen|squaresWith(cleaned(b), 0, 0) != allBits || seen.Len()+count[0] != 64 {
			t.Errorf("%v: the pieces are on %v, and %d squares are empty", b, list(seen), count[0])
		}
		for color, s := range colors {
			if board.Color(b, color) != s {
				t.Errorf("Color(%v, %d) has %v; its pieces %v", b, color, list(board.Color(b, color)), list(s))
			}
		}
	}
}

// P9.7: boards are decoded from their placements, and no two of them have the same.
func TestPlacementsDecodeToTheirBoards(t *testing.T) {
	seen := map[string]api.Board{}
	for _, b := range boards(t) {
		s, e := board.Placement(b)
		if e != api.OK || len(s) > 71 {
			t.Errorf("Placement(%v) = %q, %d", b, s, e)
		}
		if back, e := board.Parse(s); back != b || e != api.OK {
			t.Errorf("Parse(%q) = %v, %d; want %v", s, back, e, b)
		}
		if other, is := seen[s]; is && other != b {
			t.Errorf("%v and %v have the placement %q", b, other, s)
		}
		seen[s] = b
	}
}

// P9.7: whatever is decoded is the placement of what it is decoded to. The strings are made of parts of placements.
func TestOnlyPlacementsAreDecoded(t *testing.T) {
	ranks := []string{"8", "7", "pppppppp", "4k3", "44", "1p6", "", "8p", "R6R", "9"}
	taken := 0
	for i := range uint64(20000) {
		parts := make([]string, 8)
		for j := range parts {
			// Most strings would have a rank that is none, if all of them were as likely as the others.
			n := mix.At(97, 8*i+uint64(j))
			if parts[j] = ranks[0]; n>>32%4 == 0 {
				parts[j] = ranks[n%uint64(len(ranks))]
			}
		}
		s := strings.Join(parts, "/")
		parsed(t, s)
		b, e := board.Parse(s)
		if e != api.OK {
			continue
		}
		taken++
		if p, e := board.Placement(b); p != s || e != api.OK {
			t.Errorf("%q is decoded to %v, with the placement %q, %d", s, b, p, e)
		}
	}
	if taken < 1000 || taken > 19000 {
		t.Errorf("%d of the strings are placements", taken)
	}
}

// P9.8
func TestFlipTwice(t *testing.T) {
	for _, b := range boards(t) {
		once, e := board.Flip(b)
		twice, f := board.Flip(once)
		if twice != b || e != api.OK || f != api.OK {
			t.Errorf("Flip(%v) = %v, %d; Flip of this = %v, %d", b, once, e, twice, f)
		}
		for color := range 2 {
			if got, want := board.Color(once, color), board.Color(b, 1-color).Flip(); got != want {
				t.Errorf("%v: with Flip, the color %d has %v; want %v", b, color, list(got), list(want))
			}
		}
	}
}
