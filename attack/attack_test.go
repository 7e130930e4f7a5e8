package attack_test

import (
	"math"
	"slices"
	"testing"

	"tempo/api"
	"tempo/attack"
	"tempo/bitboard"
	"tempo/board"
	"tempo/mix"
	"tempo/square"
)

const (
	start   = "rnbqkbnr/pppppppp/8/8/8/8/PPPPPPPP/RNBQKBNR"
	noPiece = "8/8/8/8/8/8/8/8"
	example = "8/8/8/4k3/8/5n2/3P4/3Q3K" // the board of the chapter's examples
)

// The pieces, by their numbers.
const (
	whitePawn = 1 + iota
	whiteKnight
	whiteBishop
	whiteRook
	whiteQueen
	whiteKing
	blackPawn
	blackKnight
	blackBishop
	blackRook
	blackQueen
	blackKing
)

// boardOf returns the board of a placement.
func boardOf(t *testing.T, s string) api.Board {
	t.Helper()
	b, e := board.Parse(s)
	if e != api.OK {
		t.Fatalf("%q: %d", s, e)
	}
	return b
}

// set returns the set of the squares of a list of names.
func set(t *testing.T, names string) bitboard.Set {
	t.Helper()
	l, e := square.List(names)
	if e != api.OK && names != "" {
		t.Fatalf("%q: %d", names, e)
	}
	s, e := bitboard.Of(l)
	if e != api.OK {
		t.Fatalf("%q: %d", names, e)
	}
	return s
}

// at returns the square with a name.
func at(t *testing.T, name string) int {
	t.Helper()
	n, e := square.Parse(name)
	if e != api.OK {
		t.Fatalf("%q: %d", name, e)
	}
	return n
}

// list returns the squares of a set.
func list(s bitboard.Set) []int {
	return slices.Collect(s.All())
}

// placements returns those of boards with a piece on no square, on some and on all, and with no kings, with one and with several ones of a color.
func placements() []string {
	return []string{
		start, noPiece, example,
		"pppppppp/pppppppp/pppppppp/pppppppp/pppppppp/pppppppp/pppppppp/pppppppp",
		"PPPPPPPP/PPPPPPPP/PPPPPPPP/PPPPPPPP/PPPPPPPP/PPPPPPPP/PPPPPPPP/PPPPPPPP",
		"QQQQQQQQ/QQQQQQQQ/QQQQQQQQ/QQQQQQQQ/QQQQQQQQ/QQQQQQQQ/QQQQQQQQ/QQQQQQQQ",
		"KKKKKKKK/KKKKKKKK/KKKKKKKK/KKKKKKKK/KKKKKKKK/KKKKKKKK/KKKKKKKK/KKKKKKKK",
		"PNBRQKpn/brqkPNBR/QKpnbrqk/PNBRQKpn/brqkPNBR/QKpnbrqk/PNBRQKpn/brqkPNBR",
		"rnbqkbnr/pppppppp/PPPPPPPP/RNBQKBNR/rnbqkbnr/pppppppp/PPPPPPPP/RNBQKBNR",
		"4k3/8/8/8/8/8/8/4K3", "4k3/P1P5/8/8/3q4/8/p7/R3K3", "1p1p1p1p/p1p1p1p1/8/7k/K7/8/2Q5/R6R",
		"K7/8/8/8/8/8/8/7K", "k6k/8/8/k7/8/8/8/8", "4k3/8/8/8/8/8/8/8", "8/8/8/8/8/8/8/4K3", "kk6/8/8/8/8/8/8/K7", "k7/8/8/8/8/8/8/KK6",
		"R6r/1N4n1/2B2b2/3Qq3/3kK3/2b2B2/1n4N1/r6R", "8/8/8/8/8/8/8/QQQQQQQQ", "8/8/8/pPpPpPpP/8/8/8/8",
		"r3k2r/p1ppqpb1/bn2pnp1/3PN3/1p2P3/2N2Q1p/PPPBBPPP/R3K2R", "8/2p5/3p4/KP5r/1R3p1k/8/4P1P1/8", "pppppppp/8/8/8/8/8/8/PPPPPPPP", "PPPPPPPP/8/8/8/8/8/8/pppppppp",
	}
}

// boards returns the boards of the placements, those with each piece on each square alone, and others: with few pieces, and with many.
func boards(t *testing.T) []api.Board {
	t.Helper()
	var out []api.Board
	for _, s := range placements() {
		out = append(out, boardOf(t, s))
	}
	for n := range 64 {
		for p := 1; p <= 12; p++ {
			out = append(out, alone(n, p))
		}
	}
	for i := range uint64(300) {
		var b api.Board
		for n := range b {
			if x := mix.At(10, 64*i+uint64(n)); x>>32%300 < i {
				b[n] = int(x % 13)
			}
		}
		out = append(out, b)
	}
	return out
}

// alone returns the board with one piece.
func alone(n, p int) api.Board {
	var b api.Board
	b[n] = p
	return b
}

// notPieces returns numbers that are no pieces. Some would be if they were cut to 4, 8, 16 or 32 bits, or without their sign.
func notPieces() []int {
	return []int{
		0, -1, 13, -2, -6, -7, -12, -13, -16, 14, 15, 16, 17, 18, 19, 22, 28, 64, 99, 127, 128, 129, 134, 255, 256, 257, 262, 268, -250, -256,
		1 << 16, 1<<16 + 6, 1<<16 + 12, math.MaxInt32, math.MaxInt32 + 1, math.MinInt32, math.MinInt32 - 1, 1 << 32, 1<<32 + 6, 1<<32 + 12, -1<<32 + 6, 1<<32 - 1, 1<<62 + 6,
		math.MinInt, math.MinInt + 1, math.MinInt + 6, math.MinInt + 12, math.MaxInt - 12, math.MaxInt - 1, math.MaxInt,
	}
}

// notSquares returns numbers that are no squares. Some would be if they were cut to 6, 8, 16 or 32 bits, or without their sign.
func notSquares() []int {
	return []int{
		-1, 64, -2, -8, -12, -28, -63, -64, 65, 76, 127, 128, 255, 256, 268, -244, -256, 1 << 16, 1<<16 + 12, 1 << 32, 1<<32 + 12, -1<<32 + 12, 1<<32 - 1, math.MaxInt32, math.MinInt32,
		math.MinInt, math.MinInt + 1, math.MinInt + 12, math.MinInt + 63, math.MaxInt - 63, math.MaxInt - 1, math.MaxInt,
	}
}

// notColors returns numbers that are no colors. Some would be if they were cut to 1, 8, 16 or 32 bits, or without their sign.
func notColors() []int {
	return []int{
		-1, 2, -2, 3, 6, 7, 12, 13, 64, 255, 256, 257, -255, -256, 1 << 16, 1<<16 + 1, math.MaxInt32, math.MinInt32, 1 << 32, 1<<32 + 1, -1 << 32,
		math.MinInt, math.MinInt + 1, math.MaxInt - 1, math.MaxInt,
	}
}

// spoilt returns boards that have numbers that are no pieces: among pieces, on empty boards, on one square, on several, and on all.
func spoilt(t *testing.T) []api.Board {
	t.Helper()
	var out []api.Board
	for _, s := range []string{start, noPiece, example, "r3k2r/p1ppqpb1/bn2pnp1/3PN3/1p2P3/2N2Q1p/PPPBBPPP/R3K2R"} {
		for i, n := range notPieces() {
			one := boardOf(t, s)
			one[i*7%64] = n
			several := one
			for k := range 20 {
				several[int(mix.At(11, uint64(20*i+k))%64)] = n
			}
			out = append(out, one, several)
		}
	}
	for _, n := range notPieces() {
		var all api.Board
		for k := range all {
			all[k] = n
		}
		queen := all
		queen[27] = whiteQueen
		out = append(out, all, queen)
	}
	return out
}

// cleaned returns the board whose squares are empty where there is no piece.
func cleaned(b api.Board) api.Board {
	for n := range b {
		if b[n] < 1 || b[n] > 12 {
			b[n] = 0
		}
	}
	return b
}

func sign(n int) int {
	return min(1, max(-1, n))
}

// isFree reports whether all squares between two squares of a line are empty.
func isFree(b api.Board, from, to int) bool {
	step := 8*sign(to/8-from/8) + sign(to%8-from%8)
	for n := from + step; n != to; n += step {
		if b[n] != 0 {
			return false
		}
	}
	return true
}

// attacks says whether the piece on a square of a valid board attacks another square, by how far it is: it looks at two squares and those between, where the package looks for squares from one on.
func attacks(b api.Board, from, to int) bool {
	files, ranks := to%8-from%8, to/8-from/8
	straight := from != to && (files == 0 || ranks == 0)
	diagonal := from != to && files*files == ranks*ranks
	switch b[from] {
	case whitePawn:
		return ranks == 1 && files*files == 1
	case blackPawn:
		return ranks == -1 && files*files == 1
	case whiteKnight, blackKnight:
		return files*files+ranks*ranks == 5
	case whiteKing, blackKing:
		return from != to && files*files <= 1 && ranks*ranks <= 1
	case whiteBishop, blackBishop:
		return diagonal && isFree(b, from, to)
	case whiteRook, blackRook:
		return straight && isFree(b, from, to)
	case whiteQueen, blackQueen:
		return (diagonal || straight) && isFree(b, from, to)
	}
	return false
}

// isOf says whether a number is a piece of a color.
func isOf(p, color int) bool {
	return color == 0 && 1 <= p && p <= 6 || color == 1 && 7 <= p && p <= 12
}

// where returns the squares for which something is true.
func where(is func(n int) bool) bitboard.Set {
	var s bitboard.Set
	for n := range 64 {
		if is(n) {
			s |= 1 << n
		}
	}
	return s
}

// table returns what the piece on each square attacks.
func table(b api.Board) [64]bitboard.Set {
	b = cleaned(b)
	var out [64]bitboard.Set
	for from := range out {
		out[from] = where(func(to int) bool { return attacks(b, from, to) })
	}
	return out
}

// The chapter's examples.
func TestExamples(t *testing.T) {
	b := boardOf(t, example)
	if b != (api.Board{3: whiteQueen, 11: whitePawn, 21: blackKnight, 36: blackKing, 7: whiteKing}) {
		t.Fatal(b)
	}
	for name, want := range map[string]string{
		"d1": "a1,b1,c1,e1,f1,g1,h1,d2,c2,b3,a4,e2,f3",
		"d2": "c3,e3",
		"f3": "d2,e1,g1,h2,h4,g5,e5,d4",
		"e4": "",
		"h1": "g1,g2,h2",
		"e5": "d4,e4,f4,d5,f5,d6,e6,f6",
	} {
		if s := attack.From(b, at(t, name)); s != set(t, want) {
			t.Errorf("From of %s has %v; want %s", name, list(s), want)
		}
	}
	for _, x := range []struct {
		name  string
		color int
		want  string
	}{
		{"f3", api.White, "d1"}, {"e1", api.White, "d1"}, {"e1", api.Black, "f3"}, {"e3", api.White, "d2"}, {"e8", api.White, ""},
		{"d4", api.Black, "f3,e5"}, {"g1", api.White, "d1,h1"}, {"e5", api.White, ""}, {"e5", api.Black, "f3"},
	} {
		if s := attack.To(b, at(t, x.name), x.color); s != set(t, x.want) {
			t.Errorf("To of %s by %d has %v; want %s", x.name, x.color, list(s), x.want)
		}
		if is := attack.Attacked(b, at(t, x.name), x.color); is != (x.want != "") {
			t.Errorf("Attacked of %s by %d = %t", x.name, x.color, is)
		}
	}
	if attack.Check(b, api.White) || attack.Check(b, api.Black) {
		t.Error("a king is in check")
	}
}

// P10.1: pawns of both colors on each square, those of the first and the last rank, too.
func TestPawns(t *testing.T) {
	for n := range 64 {
		for _, x := range []struct{ p, ranks int }{{whitePawn, 1}, {blackPawn, -1}} {
			want := bitboard.Set(1<<n).Shift(-1, x.ranks) | bitboard.Set(1<<n).Shift(1, x.ranks)
			if s := attack.From(alone(n, x.p), n); s != want {
				t.Errorf("the pawn %d on %d attacks %v; want %v", x.p, n, list(s), list(want))
			}
		}
	}
	for _, x := range []struct {
		p          int
		name, want string
	}{
		{whitePawn, "a1", "b2"}, {whitePawn, "e1", "d2,f2"}, {whitePawn, "h1", "g2"}, {whitePawn, "a7", "b8"}, {whitePawn, "h7", "g8"}, {whitePawn, "e4", "d5,f5"},
		{whitePawn, "a8", ""}, {whitePawn, "e8", ""}, {whitePawn, "h8", ""},
		{blackPawn, "a8", "b7"}, {blackPawn, "e8", "d7,f7"}, {blackPawn, "h8", "g7"}, {blackPawn, "a2", "b1"}, {blackPawn, "h2", "g1"}, {blackPawn, "e4", "d3,f3"},
		{blackPawn, "a1", ""}, {blackPawn, "e1", ""}, {blackPawn, "h1", ""},
	} {
		n := at(t, x.name)
		if s := attack.From(alone(n, x.p), n); s != set(t, x.want) {
			t.Errorf("the pawn %d on %s attacks %v; want %s", x.p, x.name, list(s), x.want)
		}
	}
}

// P10.1: knights and kings, at the edges and in the corners, too.
func TestKnightsAndKings(t *testing.T) {
	for _, x := range []struct{ name, knight, king string }{
		{"a1", "b3,c2", "a2,b1,b2"},
		{"h1", "f2,g3", "g1,g2,h2"},
		{"a8", "b6,c7", "a7,b7,b8"},
		{"h8", "f7,g6", "g7,g8,h7"},
		{"b1", "a3,c3,d2", "a1,a2,b2,c1,c2"},
		{"a4", "b2,b6,c3,c5", "a3,a5,b3,b4,b5"},
		{"h5", "g3,g7,f4,f6", "g4,g5,g6,h4,h6"},
		{"e8", "c7,d6,f6,g7", "d7,d8,e7,f7,f8"},
		{"g7", "e6,e8,f5,h5", "f6,f7,f8,g6,g8,h6,h7,h8"},
		{"b2", "a4,c4,d1,d3", "a1,a2,a3,b1,b3,c1,c2,c3"},
		{"d4", "b3,b5,c2,c6,e2,e6,f3,f5", "c3,c4,c5,d3,d5,e3,e4,e5"},
	} {
		n := at(t, x.name)
		for p, want := range map[int]string{whiteKnight: x.knight, blackKnight: x.knight, whiteKing: x.king, blackKing: x.king} {
			if s := attack.From(alone(n, p), n); s != set(t, want) {
				t.Errorf("the piece %d on %s attacks %v; want %s", p, x.name, list(s), want)
			}
		}
	}
}

// P10.1: bishops, rooks and queens on empty boards.
func TestLinesOfEmptyBoards(t *testing.T) {
	for n := range 64 {
		straight := where(func(to int) bool { return to != n && (to/8 == n/8 || to%8 == n%8) })
		diagonal := where(func(to int) bool { return to != n && (to/8-to%8 == n/8-n%8 || to/8+to%8 == n/8+n%8) })
		for p, want := range map[int]bitboard.Set{
			whiteBishop: diagonal, blackBishop: diagonal, whiteRook: straight, blackRook: straight, whiteQueen: straight | diagonal, blackQueen: straight | diagonal,
		} {
			if s := attack.From(alone(n, p), n); s != want {
				t.Errorf("the piece %d on %d attacks %v; want %v", p, n, list(s), list(want))
			}
		}
	}
}

// P10.1: the first piece of a ray is attacked, of whatever kind and color it is, and nothing behind it.
func TestFirstPieceOfALine(t *testing.T) {
	for _, x := range []struct {
		p          int
		from, on   string
		want, lost string // what is attacked on the line, and what is not any more
	}{
		{whiteRook, "a1", "a2", "a2,b1,c1,d1,e1,f1,g1,h1", "a3,a4,a5,a6,a7,a8"},
		{whiteRook, "d4", "g4", "a4,b4,c4,e4,f4,g4,d1,d2,d3,d5,d6,d7,d8", "h4"},
		{blackRook, "d4", "b4", "b4,c4,e4,f4,g4,h4,d1,d2,d3,d5,d6,d7,d8", "a4"},
		{blackRook, "d4", "d1", "a4,b4,c4,e4,f4,g4,h4,d1,d2,d3,d5,d6,d7,d8", ""},
		{whiteBishop, "a1", "c3", "b2,c3", "d4,e5,f6,g7,h8"},
		{blackBishop, "c1", "b2", "b2,d2,e3,f4,g5,h6", "a3"},
		{blackBishop, "h8", "b2", "g7,f6,e5,d4,c3,b2", "a1"},
		{whiteBishop, "a8", "f3", "b7,c6,d5,e4,f3", "g2,h1"},
		{whiteQueen, "a1", "g7", "a2,a3,a4,a5,a6,a7,a8,b1,c1,d1,e1,f1,g1,h1,b2,c3,d4,e5,f6,g7", "h8"},
		{blackQueen, "h1", "g2", "a1,b1,c1,d1,e1,f1,g1,h2,h3,h4,h5,h6,h7,h8,g2", "f3,e4,d5,c6,b7,a8"},
		{blackQueen, "h1", "b1", "b1,c1,d1,e1,f1,g1,h2,h3,h4,h5,h6,h7,h8,g2,f3,e4,d5,c6,b7,a8", "a1"},
	} {
		b := alone(at(t, x.from), x.p)
		if s := attack.From(b, at(t, x.from)); s != set(t, x.want)|set(t, x.lost) {
			t.Errorf("the piece %d on %s attacks %v; want %s,%s", x.p, x.from, list(s), x.want, x.lost)
		}
		for first := 1; first <= 12; first++ {
			b[at(t, x.on)] = first
			if s := attack.From(b, at(t, x.from)); s != set(t, x.want) {
				t.Errorf("with %d on %s, the piece %d on %s attacks %v; want %s", first, x.on, x.p, x.from, list(s), x.want)
			}
		}
	}
}

// P10.1
func TestFrom(t *testing.T) {
	for _, b := range slices.Concat(boards(t), spoilt(t)) {
		for from, want := range table(b) {
			if s := attack.From(b, from); s != want {
				t.Errorf("From(%v, %d) has %v; want %v", b, from, list(s), list(want))
			}
		}
	}
}

// P10.2
func TestTo(t *testing.T) {
	for _, b := range slices.Concat(boards(t), spoilt(t)) {
		all := table(b)
		for to := range 64 {
			for color := range 2 {
				want := where(func(from int) bool { return isOf(b[from], color) && all[from]>>to&1 == 1 })
				if s := attack.To(b, to, color); s != want {
					t.Errorf("To(%v, %d, %d) has %v; want %v", b, to, color, list(s), list(want))
				}
				if is := attack.Attacked(b, to, color); is != (want != 0) {
					t.Errorf("Attacked(%v, %d, %d) = %t, with %v", b, to, color, is, list(want))
				}
			}
		}
	}
}

// P10.2: pieces of each kind that attack the same square, from all sides.
func TestToFromAllSides(t *testing.T) {
	for _, x := range []struct{ s, name, white, black string }{
		{"8/8/8/8/3p4/8/8/8", "d4", "", ""},
		{"8/8/8/2p1p3/8/2P1P3/8/8", "d4", "c3,e3", "c5,e5"},
		{"8/8/8/2P1P3/8/2p1p3/8/8", "d4", "", ""},
		{"8/8/8/8/1p6/p1p5/8/8", "b2", "", "a3,c3"},
		{"8/8/8/8/8/8/8/P1P5", "b2", "a1,c1", ""},
		{"p1p5/8/8/8/8/8/8/8", "b7", "", "a8,c8"},
		{"8/8/2n1N3/1N3n2/3P4/1n3N2/2N1n3/8", "d4", "c2,b5,e6,f3", "b3,c6,e2,f5"},
		{"8/8/8/2KkK3/2kPk3/2KkK3/8/8", "d4", "c3,e3,c5,e5", "d3,c4,e4,d5"},
		{"3R2B1/B7/8/8/r2Q3b/8/8/b2q2b1", "d4", "a7,d8", "a1,g1,a4,d1"},
		{"r2q3r/8/8/8/8/8/8/B2R2Q1", "d1", "g1", "d8"},
		{"q6b/8/8/8/8/8/8/Q6B", "a8", "h1,a1", ""},
		{"q6b/8/8/8/8/8/8/Q6B", "h8", "a1", "a8"},
	} {
		b := boardOf(t, x.s)
		for color, want := range []string{x.white, x.black} {
			if s := attack.To(b, at(t, x.name), color); s != set(t, want) {
				t.Errorf("To of %q, %s, %d has %v; want %s", x.s, x.name, color, list(s), want)
			}
		}
	}
}

// P10.1, P10.2: squares that there are not.
func TestMissingSquares(t *testing.T) {
	for _, b := range append(boards(t)[:len(placements())], spoilt(t)...) {
		for _, n := range notSquares() {
			if s := attack.From(b, n); s != 0 {
				t.Errorf("From(%v, %d) has %v", b, n, list(s))
			}
			for _, color := range append(notColors(), 0, 1) {
				if s := attack.To(b, n, color); s != 0 || attack.Attacked(b, n, color) {
					t.Errorf("To(%v, %d, %d) has %v", b, n, color, list(s))
				}
			}
		}
	}
}

// P10.2, P10.3, P10.4: colors that there are not.
func TestMissingColors(t *testing.T) {
	for _, b := range append(boards(t)[:len(placements())], spoilt(t)...) {
		for _, color := range append(notColors(), notPieces()[1:]...) {
			for n := range 64 {
				if s := attack.To(b, n, color); s != 0 || attack.Attacked(b, n, color) {
					t.Errorf("To(%v, %d, %d) has %v", b, n, color, list(s))
				}
			}
			if s := attack.All(b, color); s != 0 {
				t.Errorf("All(%v, %d) has %v", b, color, list(s))
			}
			if attack.Check(b, color) {
				t.Errorf("Check(%v, %d)", b, color)
			}
		}
	}
}

// P10.1, P10.2: a square with no piece attacks nothing, whatever number it has, and such a number stands in no way and is attacked as an empty square is.
func TestNumbersThatAreNoPieces(t *testing.T) {
	for _, n := range notPieces() {
		b := boardOf(t, "8/8/8/8/8/8/8/R3K2B")
		for _, name := range []string{"b1", "a2", "a5", "d2", "g2", "e4", "e5"} {
			b[at(t, name)] = n
		}
		for name, want := range map[string]string{
			"a1": "b1,c1,d1,e1,a2,a3,a4,a5,a6,a7,a8",
			"h1": "g2,f3,e4,d5,c6,b7,a8",
			"e1": "d1,f1,d2,e2,f2",
			"a5": "", "b1": "", "g2": "", "e4": "", "d2": "",
		} {
			if s := attack.From(b, at(t, name)); s != set(t, want) {
				t.Errorf("with the number %d, From of %s has %v; want %s", n, name, list(s), want)
			}
		}
		for name, want := range map[string]string{"a5": "a1", "b1": "a1", "a8": "a1,h1", "g2": "h1", "d2": "e1", "e5": ""} {
			if s := attack.To(b, at(t, name), api.White); s != set(t, want) {
				t.Errorf("with the number %d, To of %s has %v; want %s", n, name, list(s), want)
			}
			if s := attack.To(b, at(t, name), api.Black); s != 0 {
				t.Errorf("with the number %d, Black attacks %s from %v", n, name, list(s))
			}
		}
	}
}

// P10.1 to P10.4: numbers that are no pieces count as empty squares.
func TestUnknownNumbersAreEmptySquares(t *testing.T) {
	for _, b := range spoilt(t) {
		clean := cleaned(b)
		for n := range 64 {
			if attack.From(b, n) != attack.From(clean, n) {
				t.Errorf("From(%v, %d) has %v; want %v", b, n, list(attack.From(b, n)), list(attack.From(clean, n)))
			}
		}
		for color := range 2 {
			for n := range 64 {
				if attack.To(b, n, color) != attack.To(clean, n, color) || attack.Attacked(b, n, color) != attack.Attacked(clean, n, color) {
					t.Errorf("To(%v, %d, %d) has %v; want %v", b, n, color, list(attack.To(b, n, color)), list(attack.To(clean, n, color)))
				}
			}
			if attack.All(b, color) != attack.All(clean, color) {
				t.Errorf("All(%v, %d) has %v; want %v", b, color, list(attack.All(b, color)), list(attack.All(clean, color)))
			}
			if attack.Check(b, color) != attack.Check(clean, color) {
				t.Errorf("Check(%v, %d) = %t", b, color, attack.Check(b, color))
			}
		}
	}
}

// P10.3
func TestAll(t *testing.T) {
	for s, want := range map[string][2]string{
		noPiece: {"", ""},
		start: {
			"b1,c1,d1,e1,f1,g1,a2,b2,c2,d2,e2,f2,g2,h2,a3,b3,c3,d3,e3,f3,g3,h3",
			"b8,c8,d8,e8,f8,g8,a7,b7,c7,d7,e7,f7,g7,h7,a6,b6,c6,d6,e6,f6,g6,h6",
		},
		example: {
			"a1,b1,c1,e1,f1,g1,h1,d2,c2,b3,a4,e2,f3,c3,e3,g2,h2",
			"d2,e1,g1,h2,h4,g5,e5,d4,e4,f4,d5,f5,d6,e6,f6",
		},
		"8/8/8/8/8/8/8/P6p": {"b2", ""},
		"p6P/8/8/8/8/8/8/8": {"", "b7"},
		"k7/8/8/8/8/8/8/8":  {"", "a7,b7,b8"},
	} {
		for color := range 2 {
			if got := attack.All(boardOf(t, s), color); got != set(t, want[color]) {
				t.Errorf("All of %q, %d has %v; want %s", s, color, list(got), want[color])
			}
		}
	}
	for _, b := range slices.Concat(boards(t), spoilt(t)) {
		var want [2]bitboard.Set
		for from, s := range table(b) {
			if isOf(b[from], 0) {
				want[0] |= s
			}
			if isOf(b[from], 1) {
				want[1] |= s
			}
		}
		for color := range 2 {
			if s := attack.All(b, color); s != want[color] {
				t.Errorf("All(%v, %d) has %v; want %v", b, color, list(s), list(want[color]))
			}
		}
	}
}

// P10.4: each kind gives check, none does behind another piece or to its own king, and no king is in check where there is none, or another one.
func TestCheck(t *testing.T) {
	for s, want := range map[string][2]bool{
		noPiece:                       {false, false},
		start:                         {false, false},
		"4k3/8/8/8/8/8/8/4K3":         {false, false},
		"4k3/8/8/4r3/8/8/8/4K3":       {true, false},
		"4k3/8/8/4R3/8/8/8/4K3":       {false, true},
		"4k3/8/8/4r3/8/8/4P3/4K3":     {false, false},
		"4k3/8/8/4r3/8/8/4p3/4K3":     {false, false},
		"4k3/8/8/1B6/8/8/3p4/4K3":     {true, true},
		"4k3/4P3/8/8/8/8/4p3/4K3":     {false, false},
		"4k3/3P4/8/8/8/8/3P4/4K3":     {false, true},
		"4k3/3p4/8/8/8/8/5p2/4K3":     {true, false},
		"4k3/8/3N4/8/8/3n4/8/4K3":     {true, true},
		"4k3/8/3n4/8/8/3N4/8/4K3":     {false, false},
		"q3k3/8/8/8/4K3/8/8/8":        {true, false},
		"4k3/8/8/8/4K3/8/8/Q7":        {false, false},
		"4k3/8/8/8/Q7/8/8/4K3":        {false, true},
		"8/8/8/4k3/4K3/8/8/8":         {true, true},
		"8/8/8/3k4/4K3/8/8/8":         {true, true},
		"8/8/4k3/8/4K3/8/8/8":         {false, false},
		"r3r3/8/8/8/8/8/8/K3K3":       {false, false},
		"r3r3/8/8/8/8/8/8/K7":         {true, false},
		"4r3/8/8/8/8/8/8/R7":          {false, false},
		"8/8/8/8/8/8/8/k2R4":          {false, true},
		"8/8/8/8/8/8/8/k2R3k":         {false, false},
		"8/8/8/8/8/8/8/k2R3K":         {false, true},
		"K2r4/8/8/8/8/8/8/8":          {true, false},
		"k7/1K6/8/8/8/8/8/K7":         {false, true},
		"kkkkkkkk/8/8/8/8/8/8/7K":     {false, false},
		"7k/8/8/8/8/8/8/RRRRRRRR":     {false, true},
		"7k/7p/8/8/8/8/8/QQQQQQQQ":    {false, true},
		"6rk/6pp/8/8/8/8/7K/RRRRRRRR": {false, false},
	} {
		for color := range 2 {
			if is := attack.Check(boardOf(t, s), color); is != want[color] {
				t.Errorf("Check of %q, %d = %t", s, color, is)
			}
		}
	}
}

// P10.4: what Check says of other boards follows from what attacks the only king.
func TestCheckOfBoards(t *testing.T) {
	seen := map[bool]int{}
	for _, b := range slices.Concat(boards(t), spoilt(t), kingBoards()) {
		all := table(b)
		for color, king := range []int{whiteKing, blackKing} {
			kings := list(where(func(n int) bool { return b[n] == king }))
			want := len(kings) == 1 && where(func(n int) bool { return isOf(b[n], 1-color) && all[n]>>kings[0]&1 == 1 }) != 0
			if is := attack.Check(b, color); is != want {
				t.Errorf("Check(%v, %d) = %t, with the kings %v", b, color, is, kings)
			}
			seen[want]++
		}
	}
	if seen[true] < 300 || seen[false] < 300 {
		t.Error(seen)
	}
}

// kingBoards returns boards with one king of each color and some other pieces.
func kingBoards() []api.Board {
	var out []api.Board
	for i := range uint64(500) {
		var b api.Board
		for k := range i % 20 {
			if p := 1 + int(mix.At(12, 100*i+k)%12); p != whiteKing && p != blackKing {
				b[mix.At(13, 100*i+k)%64] = p
			}
		}
		n := mix.At(14, i)
		b[n%64], b[(n+1+n>>32%63)%64] = whiteKing, blackKing
		out = append(out, b)
	}
	return out
}

// P10.5
func TestBothWays(t *testing.T) {
	for _, b := range slices.Concat(boards(t), spoilt(t), kingBoards()) {
		var to [2][64]bitboard.Set
		for n := range 64 {
			to[0][n], to[1][n] = attack.To(b, n, 0), attack.To(b, n, 1)
		}
		for from := range 64 {
			s := attack.From(b, from)
			for n := range 64 {
				for color := range 2 {
					if to[color][n].Has(from) != (s.Has(n) && isOf(b[from], color)) {
						t.Errorf("%v: From of %d has %v, and To of %d by %d %v", b, from, list(s), n, color, list(to[color][n]))
					}
				}
			}
		}
	}
}

// P10.6: each direction of a bishop, a rook and a queen is attacked up to the first piece, and only so.
func TestLines(t *testing.T) {
	straight, diagonal := [][2]int{{1, 0}, {0, 1}, {-1, 0}, {0, -1}}, [][2]int{{1, 1}, {-1, 1}, {-1, -1}, {1, -1}}
	lines := map[int][][2]int{3: diagonal, 4: straight, 5: slices.Concat(straight, diagonal)}
	for _, b := range slices.Concat(boards(t), spoilt(t), kingBoards()) {
		for from, p := range cleaned(b) {
			steps, is := lines[(p+5)%6+1]
			if p == 0 || !is {
				continue
			}
			s, seen := attack.From(b, from), bitboard.Set(0)
			for _, step := range steps {
				free := true
				for file, rank := from%8+step[0], from/8+step[1]; 0 <= file && file < 8 && 0 <= rank && rank < 8; file, rank = file+step[0], rank+step[1] {
					n := 8*rank + file
					if s.Has(n) != free {
						t.Errorf("%v: the piece on %d attacks %d: %t", b, from, n, s.Has(n))
					}
					free = free && !isOf(b[n], 0) && !isOf(b[n], 1)
					seen |= 1 << n
				}
			}
			if s&^seen != 0 {
				t.Errorf("%v: the piece on %d attacks %v, which are on none of its lines", b, from, list(s&^seen))
			}
		}
	}
}

// P10.7
func TestFlippedBoards(t *testing.T) {
	for _, b := range slices.Concat(boards(t), kingBoards()) {
		f, e := board.Flip(b)
		if e != api.OK {
			t.Fatal(e)
		}
		for n := range 64 {
			m := 8*(7-n/8) + n%8
			if got, want := attack.From(f, m), attack.From(b, n).Flip(); got != want {
				t.Errorf("%v: flipped, From of %d has %v; want %v", b, m, list(got), list(want))
			}
			for color := range 2 {
				if got, want := attack.To(f, m, 1-color), attack.To(b, n, color).Flip(); got != want {
					t.Errorf("%v: flipped, To of %d by %d has %v; want %v", b, m, 1-color, list(got), list(want))
				}
			}
		}
		for color := range 2 {
			if got, want := attack.All(f, 1-color), attack.All(b, color).Flip(); got != want {
				t.Errorf("%v: flipped, All of %d has %v; want %v", b, 1-color, list(got), list(want))
			}
			if got, want := attack.Check(f, 1-color), attack.Check(b, color); got != want {
				t.Errorf("%v: flipped, Check of %d = %t", b, 1-color, got)
			}
		}
	}
}

// P10.8: a piece on a square that was empty takes attacks from bishops, rooks and queens alone, and gives none to any other piece.
func TestOtherPieces(t *testing.T) {
	for i, b := range slices.Concat(boards(t), kingBoards()) {
		for k := range 8 {
			x := mix.At(15, uint64(8*i+k))
			on := int(x >> 32 % 64)
			if b[on] != 0 {
				continue
			}
			with := b
			with[on] = 1 + int(x%12)
			for from, p := range b {
				old, s := attack.From(b, from), attack.From(with, from)
				if from != on && s&^old != 0 {
					t.Errorf("%v: with %d on %d, the piece on %d attacks %v as well", b, with[on], on, from, list(s&^old))
				}
				leaps := slices.Contains([]int{whitePawn, whiteKnight, whiteKing, blackPawn, blackKnight, blackKing}, p)
				if leaps && s != old {
					t.Errorf("%v: with %d on %d, the piece on %d attacks %v; before, %v", b, with[on], on, from, list(s), list(old))
				}
			}
		}
	}
}
