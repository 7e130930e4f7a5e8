package fen_test

import (
	"fmt"
	"math"
	"regexp"
	"slices"
	"strconv"
	"strings"
	"testing"

	"tempo/api"
	"tempo/board"
	"tempo/fen"
	"tempo/mix"
	"tempo/state"
)

const (
	start = "rnbqkbnr/pppppppp/8/8/8/8/PPPPPPPP/RNBQKBNR w KQkq - 0 1"
	kings = "8/8/8/8/8/8/8/K6k w - - 0 1"
)

const letters = ".PNBRQKpnbrqk" // of an empty square, and of the pieces 1 to 12

// The parts of a FEN, in their order.
const (
	placement = iota
	turn
	rights
	passed
	half
	full
)

// fens returns those of valid positions: with many pieces and with two, with either side to move, with all rights, with some and with none, with an en passant square on both ranks, and with clocks of all lengths.
func fens() []string {
	return []string{
		start, kings, "8/8/8/8/8/8/8/K6k b - - 57 301", "rnbqkbnr/pppppppp/8/8/8/8/PPPPPPPP/RNBQKBNR b Kq - 1000 10000",
		"rnbqkbnr/pppppppp/8/8/4P3/8/PPPP1PPP/RNBQKBNR b KQkq e3 0 1", "rnbqkbnr/pppp1ppp/8/4p3/4P3/8/PPPP1PPP/RNBQKBNR w KQkq e6 0 2",
		"rnbqkbnr/ppp1pppp/8/8/3pP3/8/PPPP1PPP/RNBQKBNR b KQkq e3 5 9", "r3k3/8/8/pP6/8/8/8/4K3 w q a6 0 3", "4k3/8/8/8/6pP/8/8/4K2R b K h3 10 99",
		"r3k2r/p1ppqpb1/bn2pnp1/3PN3/1p2P3/2N2Q1p/PPPBBPPP/R3K2R w KQkq - 9 10", "r3k2r/8/8/8/8/8/8/R3K2R w Qk - 1000 10000", "r3k2r/8/8/8/8/8/8/R3K2R b KQk - 100 1000",
		"4k3/pppppppp/8/8/8/8/PPPPPPPP/4K3 w - - 999 9999", "k7/8/8/8/8/N7/NNNNNNNN/NNNNKNN1 b - - 0 1", "1k1r1b1q/p1p1p1p1/1n1n1n1n/8/8/P1P1P1P1/1P1P1P1P/K1R1B1Q1 w - - 49 50",
		"4k3/8/8/8/8/8/8/K3R3 b - - 7 8", "K7/8/8/8/8/8/8/7k w - - 999 9999", "8/2p5/3p4/KP5r/1R3p1k/8/4P1P1/8 w - - 0 1",
	}
}

// shape is the form of a FEN as a whole, without what the squares say.
var shape = regexp.MustCompile(`^([PNBRQKpnbrqk1-8/]+) ([wb]) (K?Q?k?q?|-) ([a-h][1-8]|-) (0|[1-9][0-9]{0,3}) (0|[1-9][0-9]{0,4})$`)

// decoded decodes a FEN; false if it is not the one of a valid position.
func decoded(s string) (api.Pos, bool) {
	parts := shape.FindStringSubmatch(s)
	if parts == nil || parts[1+rights] == "" {
		return api.Pos{}, false
	}
	parts = parts[1:]
	b, e := board.Parse(parts[placement])
	p := api.Pos{Board: b, Turn: strings.Index("wb", parts[turn]), EP: api.NoSquare}
	for i, letter := range "KQkq" {
		if strings.ContainsRune(parts[rights], letter) {
			p.Castle |= 1 << i
		}
	}
	if name := parts[passed]; name != "-" {
		p.EP = 8*int(name[1]-'1') + int(name[0]-'a')
	}
	p.Half, _ = strconv.Atoi(parts[half])
	p.Full, _ = strconv.Atoi(parts[full])
	if e != api.OK || state.Check(p) != api.OK {
		return api.Pos{}, false
	}
	return p, true
}

// pos returns the position of a FEN, and fails if the test gave none.
func pos(t *testing.T, s string) api.Pos {
	t.Helper()
	p, is := decoded(s)
	if !is {
		t.Fatalf("%q is no FEN of a valid position", s)
	}
	return p
}

// encoded returns the FEN of a valid position.
func encoded(p api.Pos) string {
	where, _ := board.Placement(p.Board)
	allowed := ""
	for i, letter := range "KQkq" {
		if p.Castle>>i%2 == 1 {
			allowed += string(letter)
		}
	}
	if allowed == "" {
		allowed = "-"
	}
	name := "-"
	if p.EP != -1 {
		name = fmt.Sprintf("%c%c", 'a'+p.EP%8, '1'+p.EP/8)
	}
	return fmt.Sprintf("%s %c %s %s %d %d", where, "wb"[p.Turn], allowed, name, p.Half, p.Full)
}

// accepted expects that a string and a valid position are found from each other.
func accepted(t *testing.T, s string, want api.Pos) {
	t.Helper()
	before := want
	if p, e := fen.Parse(s); p != want || e != api.OK {
		t.Errorf("Parse(%q) = %v, %d; want %v", s, p, e, want)
	}
	if text, e := fen.Print(want); text != s || e != api.OK {
		t.Errorf("Print(%v) = %q, %d; want %q", want, text, e, s)
	}
	if want != before {
		t.Errorf("Print changed %v to %v", before, want)
	}
}

// refused expects that a string is not decoded.
func refused(t *testing.T, s string) {
	t.Helper()
	if _, is := decoded(s); is {
		t.Errorf("the test refuses %q", s)
	}
	if p, e := fen.Parse(s); p != (api.Pos{}) || e != api.ErrBadFEN {
		t.Errorf("Parse(%q) = %v, %d", s, p, e)
	}
}

// judged expects that Parse treats a string as the test does, and reports whether it is the FEN of a valid position.
func judged(t *testing.T, s string) bool {
	t.Helper()
	p, is := decoded(s)
	if is {
		accepted(t, s, p)
	} else {
		refused(t, s)
	}
	return is
}

// notPrinted expects ErrArg for a position that is not valid.
func notPrinted(t *testing.T, p api.Pos) {
	t.Helper()
	if state.Check(p) == api.OK {
		t.Errorf("%v is valid", p)
	}
	if s, e := fen.Print(p); s != "" || e != api.ErrArg {
		t.Errorf("Print(%v) = %q, %d", p, s, e)
	}
}

// with returns a FEN with another part.
func with(s string, part int, text string) string {
	parts := strings.Split(s, " ")
	parts[part] = text
	return strings.Join(parts, " ")
}

// refusedParts expects that none of some texts may stand as a part of FENs.
func refusedParts(t *testing.T, part int, texts []string, fens ...string) {
	t.Helper()
	for _, s := range fens {
		pos(t, s)
		for _, text := range texts {
			refused(t, with(s, part, text))
		}
	}
}

// The chapter's examples.
func TestExamples(t *testing.T) {
	accepted(t, start, state.Start())
	var b api.Board
	b[0], b[7] = 6, 12
	accepted(t, kings, api.Pos{Board: b, Turn: api.White, Castle: 0, EP: api.NoSquare, Half: 0, Full: 1})
	for _, s := range []string{
		"8/8/8/8/8/8/8/K6k  w - - 0 1", "8/8/8/8/8/8/8/K6k w  - - 0 1", "8/8/8/8/8/8/8/K6k w - - 0  1", "8/8/8/8/8/8/8/K6k x - - 0 1", "8/8/8/8/8/8/8/K6k w K - 0 1",
		"8/8/8/8/8/8/8/K6k w - e3 0 1", "8/8/8/8/8/8/8/K6k w - - 0 01", "8/8/8/8/8/8/8/K6k w - - 0 0", "8/8/8/8/8/8/8/K6k w - - 0", "8/8/8/8/8/8/8/Kk6 w - - 0 1",
	} {
		refused(t, s)
	}
	for n, want := range map[int]string{5: "Kk", 0: "-"} {
		if s, e := fen.Castle(n); s != want || e != api.OK {
			t.Errorf("Castle(%d) = %q, %d", n, s, e)
		}
	}
	if s, e := fen.Castle(16); s != "" || e != api.ErrRange {
		t.Errorf("Castle(16) = %q, %d", s, e)
	}
	d, e := fen.Draw(state.Start().Board)
	if lines := strings.Split(d, "\n"); e != api.OK || len(lines) != 9 || lines[0] != "rnbqkbnr" || lines[2] != "........" {
		t.Errorf("Draw = %q, %d", d, e)
	}
}

// P12.1, P12.2: the positions of the tests, and one whose parts are all written out.
func TestPositions(t *testing.T) {
	for _, s := range fens() {
		accepted(t, s, pos(t, s))
	}
	b := api.Board{0: 4, 4: 6, 7: 4, 9: 1, 13: 3, 25: 7, 26: 1, 33: 5, 51: 8, 56: 10, 60: 12, 63: 10}
	accepted(t, "r3k2r/3n4/8/1Q6/1pP5/8/1P3B2/R3K2R b KQkq c3 12 345", api.Pos{Board: b, Turn: api.Black, Castle: 15, EP: 18, Half: 12, Full: 345})
}

// P12.1, P12.2: the 16 numbers of rights, with either side to move.
func TestRights(t *testing.T) {
	for n, text := range []string{"-", "K", "Q", "KQ", "k", "Kk", "Qk", "KQk", "q", "Kq", "Qq", "KQq", "kq", "Kkq", "Qkq", "KQkq"} {
		for color, letter := range []string{"w", "b"} {
			s := "r3k2r/8/8/8/8/8/8/R3K2R " + letter + " " + text + " - 3 40"
			p := pos(t, "r3k2r/8/8/8/8/8/8/R3K2R w - - 3 40")
			p.Castle, p.Turn = n, color
			accepted(t, s, p)
			// The same rights on a board that allows no others, and on boards that do not allow one of them.
			for castle := range 16 {
				if state.Rights(only(castle)) != castle {
					t.Errorf("the board for %d allows %d", castle, state.Rights(only(castle)))
				}
				p.Board = only(castle)
				where, _ := board.Placement(p.Board)
				if s := with(s, placement, where); castle&n == n {
					accepted(t, s, p)
				} else {
					refused(t, s)
					notPrinted(t, p)
				}
			}
		}
	}
}

// only returns a board with both kings at home that allows just some rights.
func only(castle int) api.Board {
	b := api.Board{4: 6, 60: 12}
	for i, square := range []int{7, 0, 63, 56} {
		if castle>>i%2 == 1 {
			b[square] = 4 + 6*(i/2)
		}
	}
	return b
}

// P12.1, P12.2: an en passant square on each file of both ranks, whether a pawn stands beside the one that has just moved or not; and none.
func TestPassedSquares(t *testing.T) {
	for file := range 8 {
		for color := range 2 {
			// White passes a square of the third rank, and then Black is to move.
			moved, pawn, beside := 32+file, 7, 1
			if color == api.Black {
				moved, pawn, beside = 24+file, 1, 7
			}
			name := string("abcdefgh"[file]) + []string{"6", "3"}[color]
			for _, neighbor := range []int{-1, file - 1, file + 1} {
				p := api.Pos{Board: api.Board{4: 6, 60: 12}, Turn: color, EP: api.NoSquare, Half: 2, Full: 30}
				p.Board[moved] = pawn
				if neighbor >= 0 && neighbor < 8 {
					p.Board[moved-file+neighbor] = beside
				}
				where, _ := board.Placement(p.Board)
				s := where + " " + []string{"w", "b"}[color] + " - - 2 30"
				accepted(t, s, p)
				p.EP = []int{40, 16}[color] + file
				accepted(t, with(s, passed, name), p)
				for n := range 64 {
					if other := fmt.Sprintf("%c%c", 'a'+n%8, '1'+n/8); other != name {
						refused(t, with(s, passed, other))
					}
				}
			}
		}
	}
}

// P12.1, P12.2: the clocks, each with all lengths, and numbers beyond them.
func TestClocks(t *testing.T) {
	halves, fulls := []int{0, 1, 9, 10, 11, 99, 100, 101, 999, 1000}, []int{1, 2, 9, 10, 11, 99, 100, 999, 1000, 9999, 10000}
	for _, h := range halves {
		for _, f := range fulls {
			for _, s := range []string{start, kings, "4k3/8/8/8/6pP/8/8/4K2R b K h3 10 99"} {
				p := pos(t, s)
				p.Half, p.Full = h, f
				accepted(t, with(with(s, half, fmt.Sprint(h)), full, fmt.Sprint(f)), p)
			}
		}
	}
	for n := range 1001 {
		p := pos(t, kings)
		p.Half, p.Full = n, min(10*n+1, 10000)
		accepted(t, fmt.Sprintf("8/8/8/8/8/8/8/K6k w - - %d %d", p.Half, p.Full), p)
	}
	for _, s := range fens() {
		for _, n := range []int{-1, -2, -9, -1000, 1001, 1010, 9999, 10000, math.MaxInt, math.MinInt} {
			refused(t, with(s, half, fmt.Sprint(n)))
		}
		for _, n := range []int{0, -1, -2, -9, -10000, 10001, 10010, 99999, 100000, math.MaxInt, math.MinInt} {
			refused(t, with(s, full, fmt.Sprint(n)))
		}
	}
}

// P12.1, P12.2: pieces between gaps of every width, and ranks without a piece.
func TestGaps(t *testing.T) {
	for rank := 1; rank < 8; rank++ {
		for men := range 256 {
			p := api.Pos{Board: api.Board{0: 6, 7: 12}, EP: api.NoSquare, Full: 1}
			text, gap := "", 0
			for file := range 8 {
				if men>>file%2 == 0 {
					gap++
					continue
				}
				if gap > 0 {
					text += fmt.Sprint(gap)
				}
				text, gap = text+"N", 0
				p.Board[8*rank+file] = 2
			}
			if gap > 0 {
				text += fmt.Sprint(gap)
			}
			if state.Check(p) != api.OK {
				p.Turn = api.Black // a knight attacks the king of h1
			}
			ranks := []string{"8", "8", "8", "8", "8", "8", "8", "K6k"}
			ranks[7-rank] = text
			accepted(t, strings.Join(ranks, "/")+" "+[]string{"w", "b"}[p.Turn]+" - - 0 1", p)
		}
	}
}

// P12.2: placements that are none, or not the shortest ones.
func TestPlacements(t *testing.T) {
	refusedParts(t, placement, []string{
		"", "/", "-", "x", "K", "k", "8", "K6k", "8/8/8/8/8/8/8/8", "///////", "8/8/8/8/8/8/8/", "/8/8/8/8/8/8/K6k",
		"8/8/8/8/8/8/8/K51k", "8/8/8/8/8/8/8/K15k", "8/8/8/8/8/8/8/K33k", "8/8/8/8/8/8/8/K111111k", "44/8/8/8/8/8/8/K6k", "11111111/8/8/8/8/8/8/K6k", "71/8/8/8/8/8/8/K6k", "17/8/8/8/8/8/8/K6k",
		"8/8/8/8/8/8/K6k", "8/8/8/8/8/8/8/8/K6k", "8/8/8/8/8/8/8/K6k/8", "8/8/8/8/8/8/8/K6k/", "/8/8/8/8/8/8/8/K6k", "8/8/8//8/8/8/K6k", "8/8/8//8/8/8/8/K6k", "8/8/8/8/8/8/8/8/8/8/8/8/8/8/8/K6k",
		"8/8/8/8/8/8/8/K5k", "8/8/8/8/8/8/8/K7k", "8/8/8/8/8/8/8/K6", "8/8/8/8/8/8/8/K6kn", "8/8/8/8/8/8/8/K6k1", "7/8/8/8/8/8/8/K6k", "8/8/8/7/8/8/8/K6k", "8/8/8/8N/8/8/8/K6k", "8/8/8/N8/8/8/8/K6k", "8/8/NNNNNNN/8/8/8/8/K6k", "8/8/NNNNNNNNN/8/8/8/8/K6k",
		"9/8/8/8/8/8/8/K6k", "0/8/8/8/8/8/8/K6k", "08/8/8/8/8/8/8/K6k", "80/8/8/8/8/8/8/K6k", "8/8/8/8/8/8/8/K06k", "8/8/8/8/8/8/8/K60k", "8/8/8/8/8/8/8/0K6k", "8/8/8/8/8/8/8/K6k0", "8/8/8/8/8/8/8/K9k", "16/8/8/8/8/8/8/K6k", "64",
		"8/8/8/8/8/8/8/K6x", "8/8/8/8/8/8/8/X6k", "8/8/8/8/8/8/8/K......k", "8/8/8/8/8/8/8/K6k.", `8\8\8\8\8\8\8\K6k`, "8|8|8|8|8|8|8|K6k", "8/8/8/8/8/8/8/K6\u212a", "8/8/8/8/8/8/8/♔6♚", "8/8/8/8/8/8/8/K٦k", "8/8/8/8/8/8/8/K6k\x00", "\xff/8/8/8/8/8/8/K6k", "8/8/8/8/8/8/8/K\xb6k", "8/8/8/8/8/8/8/\xcb6k",
	}, kings)
	refusedParts(t, placement, []string{
		"rnbqkbnr/pppppppp/8/8/8/8/PPPPPPPP", "pppppppp/8/8/8/8/PPPPPPPP/RNBQKBNR", "rnbqkbnr/pppppppp/8/8/8/PPPPPPPP/RNBQKBNR", "rnbqkbnr/pppppppp/8/8/8/8/8/PPPPPPPP/RNBQKBNR",
		"rnbqkbnr/ppppppp/8/8/8/8/PPPPPPPP/RNBQKBNR", "rnbqkbnr/ppppppppp/8/8/8/8/PPPPPPPP/RNBQKBNR", "rnbqkbnrr/pppppppp/8/8/8/8/PPPPPPPP/RNBQKBNR", "rnbqkbnr/pppppppp/8/8/8/8/PPPPPPPP/RNBQKBN",
		"rnbqkbnrpppppppp/8/8/8/8/PPPPPPPP/RNBQKBNR", "rnbqkbnrpppppppp/8/8/8/8/8/PPPPPPPP/RNBQKBNR", "rnbqkbnr/pppppppp/8888/PPPPPPPP/RNBQKBNR", "rnbqkbnr/pppppppp/8/8/44/8/PPPPPPPP/RNBQKBNR", "RNBQKBNR/PPPPPPPP/8/8/8/8/pppppppp/rnbqkbnr",
		"rnbqkbnr/pppppppp/8/8/8/8/PPPPPPPP/RNBQKBN1", "rnbqkbnr/pppppppp/8/8/8/8/PPPPPPPP/RNBQKBN", "startpos",
	}, start)
}

// P12.2: the side to move, the rights and the en passant square, when they are not written as they have to be.
func TestOtherParts(t *testing.T) {
	castles := "r3k2r/8/8/8/8/8/8/R3K2R w KQkq - 0 1"
	refusedParts(t, turn, []string{
		"", "W", "B", "x", "-", "0", "1", "ww", "bb", "wb", "bw", "white", "black", "w\x00", "\x00w", "\x00", "w\n", "w\t", "\uff57", "\xf7", "b\xff", "v", "a", "c",
	}, kings, start)
	refusedParts(t, rights, []string{
		"", "--", "QK", "KQqk", "qkQK", "kqKQ", "kK", "qK", "qQ", "kQ", "KkQq", "KK", "QQ", "kk", "qq", "KQQ", "KKQ", "KQkqq", "KQkqK", "KQKQ", "KQkqKQkq", "KQ-", "-KQ", "K-", "-K", "KQkq-", "-KQkq", "K-q",
		"15", "0", "5", "A", "H", "HAha", "x", "KQx", "xKQ", "KQkqx", "L", "J", "R", "P", "k\x00", "\x00", "-\x00", "\u212a", "\u212aQkq", "K\xff", "\xcbQ", "w", "KQ,kq", "KQ/kq", "K\nQ", "O-O", "—",
	}, castles)
	refusedParts(t, rights, []string{"K", "Q", "k", "q", "KQ", "kq", "KQkq", "--", ""}, kings)
	refusedParts(t, rights, []string{"K", "Q", "KQ", "Kk", "Qq", "KQkq", "qk", "kk"}, "r3k2r/8/8/8/8/8/8/R2K3R b kq - 0 1")
	besides := "rnbqkbnr/pppp1ppp/8/4p3/4P3/8/PPPP1PPP/RNBQKBNR w KQkq e6 0 2"
	refusedParts(t, passed, []string{
		"", "--", "---", "E6", "e", "6", "e66", "ee6", "6e", "e-6", "-e6", "e6-", "e6e6", "e6,e6", "e3", "e4", "e5", "e7", "d6", "f6", "a1", "h8", "i6", "`6", "e0", "e9", "@6", "44", "20", "-1", "x", "e6\x00", "\x00e6", "e\x00", "\x00\x00",
		"\xe5\xb6", "e\xb6", "\xe56", "é6", "e６", "—", "–", "−", "_", "e6\n", "e6 ", " e6", "e6+", "xe6", "e6x",
	}, besides)
	refusedParts(t, passed, []string{"", "--", "e3", "e6", "a6", "h3", "E3", "A1", "a1", "h8"}, start, kings)
}

// P12.2: numbers that are not written as they have to be.
func TestNumbers(t *testing.T) {
	texts := []string{
		"", "-", "+", "+0", "+1", "-0", "-1", "+5", "--1", "00", "000", "01", "001", "010", "0100", "0x1", "1e1", "1e0", "1.0", "1.", ".1", "0.", "1,", "1_0", "1_000", "0b1", "0o7", "x", "a", "1a", "a1", "I", "one", "½",
		"1\x00", "\x001", "\x00", "\x01", "1\n", "\n1", "\t1", "1\t", "1\r", "\v1", "٣", "１", "߁", "\xb1", "1\xff", "\xc0\xb1", "~", "10/2", "1-1", "²",
		"9223372036854775807", "9223372036854775808", "-9223372036854775808", "-9223372036854775809", "18446744073709551615", "18446744073709551616", "18446744073709551617", "36893488147419103233", "99999999999999999999",
		"4294967296", "4294967297", "65537", "65536", "4294967301", "340282366920938463463374607431768211457", "1" + strings.Repeat("0", 400), strings.Repeat("0", 400) + "1", strings.Repeat("9", 5000),
	}
	refusedParts(t, half, texts, kings, start)
	refusedParts(t, full, texts, kings, start)
	refusedParts(t, half, []string{"1001", "10000", "1010", "2000", "9999"}, kings, start)
	refusedParts(t, full, []string{"0", "10001", "10010", "20000", "100000"}, kings, start)
}

// P12.2: parts that are missing or too many, and white space.
func TestPartsAndSpaces(t *testing.T) {
	for _, s := range []string{"", " ", "  ", "     ", "      ", "\n", "-", "w", "- - - - - -", "startpos", "\x00", "\xff\xfe"} {
		refused(t, s)
	}
	for _, s := range fens() {
		parts := strings.Split(s, " ")
		for i := range parts {
			fewer := slices.Delete(slices.Clone(parts), i, i+1)
			refused(t, strings.Join(fewer, " "))
			refused(t, strings.Join(parts[:i], " "))
			refused(t, strings.Join(parts[i+1:], " "))
			refused(t, with(s, i, ""))
			refused(t, with(s, i, parts[i]+" "+parts[i]))
			for _, more := range []string{"", "-", "0", "1", "w", "x", "KQkq"} {
				refused(t, strings.Join(slices.Insert(slices.Clone(parts), i, more), " "))
			}
			if i == 0 {
				continue
			}
			for _, space := range []string{"", "  ", "   ", "\t", "\n", "\r", "\r\n", "\v", "\f", "\x00", "\u00a0", "\u2003", "\u3000", "_", ",", " \t", "\t ", " \n"} {
				refused(t, strings.Join(parts[:i], " ")+space+strings.Join(parts[i:], " "))
			}
		}
		for _, more := range []string{" ", "  ", "\n", "\r\n", "\t", "\x00", " 1", " -", " x", ";", " bm e4;", "\ufeff", "\u00a0", " " + s, "\n" + s, s} {
			refused(t, s+more)
		}
		for _, ahead := range []string{" ", "  ", "\n", "\t", "\x00", "fen ", "\ufeff", "\u00a0", "x"} {
			refused(t, ahead+s)
		}
		refused(t, strings.ReplaceAll(s, " ", "\t"))
		refused(t, strings.ReplaceAll(s, " ", ""))
		refused(t, `"`+s+`"`)
		slices.Reverse(parts)
		refused(t, strings.Join(parts, " "))
	}
}

// P12.2: FENs with a byte changed, with one too many, and with one too few.
func TestChangedBytes(t *testing.T) {
	seen := map[bool]int{}
	for _, s := range []string{start, kings, "4k3/8/8/8/6pP/8/8/4K2R b K h3 10 99", "r3k2r/8/8/8/8/8/8/R3K2R w Qk - 1000 10000", "r3k3/8/8/pP6/8/8/8/4K3 w q a6 0 3"} {
		for i := range len(s) + 1 {
			for c := range 256 {
				char := string([]byte{byte(c)})
				seen[judged(t, s[:i]+char+s[i:])]++
				if i < len(s) {
					seen[judged(t, s[:i]+char+s[i+1:])]++
				}
			}
			if i < len(s) {
				seen[judged(t, s[:i]+s[i+1:])]++
				seen[judged(t, s[:i])]++
				seen[judged(t, s[i+1:])]++
			}
			if i+1 < len(s) {
				seen[judged(t, s[:i]+s[i+1:i+2]+s[i:i+1]+s[i+2:])]++
			}
		}
	}
	if seen[true] < 300 || seen[false] < 10000 {
		t.Error(seen)
	}
}

// P12.2: the FEN of positions that are not valid, for each of the reasons of chapter 11 that a FEN can have.
func TestFENsOfInvalidPositions(t *testing.T) {
	for _, s := range []string{
		// The kings.
		"8/8/8/8/8/8/8/8 w - - 0 1", "8/8/8/8/8/8/8/K7 w - - 0 1", "8/8/8/8/8/8/8/7k w - - 0 1", "8/8/8/8/8/8/8/K6K w - - 0 1", "k7/8/8/8/8/8/8/K6K w - - 0 1", "k6k/8/8/8/8/8/8/7K b - - 0 1",
		"rnbqkbnr/pppppppp/8/8/8/8/PPPPPPPP/RNBQ1BNR w kq - 0 1", "rnbq1bnr/pppppppp/8/8/8/8/PPPPPPPP/RNBQKBNR w KQ - 0 1",
		// The numbers of pieces, and of pawns.
		"rnbqkbnr/pppppppp/8/8/8/N7/PPPPPPPP/RNBQKBNR w KQkq - 0 1", "rnbqkbnr/pppppppp/n7/8/8/8/PPPPPPPP/RNBQKBNR w KQkq - 0 1", "rnbqkbnr/pppppppp/8/8/8/P7/PPPPPPPP/1NBQKBNR w Kkq - 0 1", "1nbqkbnr/pppppppp/p7/8/8/8/PPPPPPPP/RNBQKBNR w KQk - 0 1",
		"pppppppp/pppppppp/pppppppp/pppppppp/pppppppp/pppppppp/pppppppp/pppppppp w - - 0 1", "4k3/pppppppp/pppppppp/8/8/8/8/4K3 w - - 0 1",
		// The ranks of pawns.
		"P7/8/8/8/8/8/8/K6k w - - 0 1", "p7/8/8/8/8/8/8/K6k w - - 0 1", "8/8/8/8/8/8/8/K3P2k w - - 0 1", "8/8/8/8/8/8/8/K3p2k w - - 0 1", "7P/8/8/8/8/8/8/K6k b - - 0 1",
		// The rights.
		"rnbqkbnr/pppppppp/8/8/8/8/PPPPPPPP/RNBQKBN1 w KQkq - 0 1", "rnbqkbnr/pppppppp/8/8/8/8/PPPPPPPP/1NBQKBNR w KQkq - 0 1", "rnbqkbn1/pppppppp/8/8/8/8/PPPPPPPP/RNBQKBNR w KQkq - 0 1", "1nbqkbnr/pppppppp/8/8/8/8/PPPPPPPP/RNBQKBNR w KQkq - 0 1",
		"rnbkqbnr/pppppppp/8/8/8/8/PPPPPPPP/RNBQKBNR w KQk - 0 1", "rnbqkbnr/pppppppp/8/8/8/8/PPPPPPPP/RNBKQBNR w Kkq - 0 1", "r3k2r/8/8/8/8/8/8/R3K2r w Kq - 0 1", "R3k2r/8/8/8/8/8/8/R3K2R b KQq - 0 1", "8/8/8/8/8/8/8/K6k w K - 0 1",
		// The en passant square.
		"rnbqkbnr/pppppppp/8/8/4P3/8/PPPP1PPP/RNBQKBNR w KQkq e3 0 1", "rnbqkbnr/pppppppp/8/8/8/8/PPPPPPPP/RNBQKBNR b KQkq e3 0 1", "rnbqkbnr/pppp1ppp/8/4p3/8/8/PPPPPPPP/RNBQKBNR b KQkq e6 0 1",
		"rnbqkbnr/pppppppp/8/8/4P3/4P3/PPP2PPP/RNBQKBNR b KQkq e3 0 1", "rnbqkbnr/pppppppp/8/8/4P3/8/PPP1PPPP/RNBQKBNR b KQkq e3 0 1", "rnbqkbnr/pppppppp/8/8/4N3/8/PPPP1PPP/RNBQKB1R b KQkq e3 0 1", "rnbqkbnr/pppp1ppp/8/8/4p3/8/PPPP1PPP/RNBQKBNR b KQkq e3 0 1",
		"rnbqkbnr/pppppppp/8/8/4P3/8/PPPP1PPP/RNBQKBNR b KQkq d3 0 1", "rnbqkbnr/pppppppp/8/8/4P3/8/PPPP1PPP/RNBQKBNR b KQkq e4 0 1", "rnbqkbnr/pppppppp/8/8/4P3/8/PPPP1PPP/RNBQKBNR b KQkq e2 0 1", "rnbqkbnr/pppppppp/8/8/4P3/8/PPPP1PPP/RNBQKBNR b KQkq e6 0 1",
		// The clocks.
		"rnbqkbnr/pppppppp/8/8/8/8/PPPPPPPP/RNBQKBNR w KQkq - 1001 1", "rnbqkbnr/pppppppp/8/8/8/8/PPPPPPPP/RNBQKBNR w KQkq - 0 0", "rnbqkbnr/pppppppp/8/8/8/8/PPPPPPPP/RNBQKBNR w KQkq - 0 10001",
		// The king that is not to move.
		"8/8/8/8/8/8/8/Kk6 w - - 0 1", "8/8/8/8/8/8/8/K5Rk w - - 0 1", "4k3/8/8/8/8/8/8/K3R3 w - - 0 1", "4k3/8/8/8/8/5n2/8/4K3 b - - 0 1", "4k3/3P4/8/8/8/8/8/4K3 w - - 0 1", "8/8/8/3kK3/8/8/8/8 b - - 0 1",
	} {
		if !shape.MatchString(s) {
			t.Errorf("%q has a wrong form", s)
		}
		refused(t, s)
	}
}

// far returns numbers that are outside of all ranges. Some would be in one if they were cut to 4, 8, 16 or 32 bits, or without their sign.
func far() []int {
	out := []int{math.MinInt, math.MinInt + 1, math.MinInt + 6, math.MinInt + 20, math.MaxInt - 20, math.MaxInt - 1, math.MaxInt}
	for _, shift := range []int{14, 16, 31, 32, 62} {
		for _, n := range []int{-1, 0, 1, 2, 12, 15, 16, 20, 44} {
			out = append(out, 1<<shift+n, -1<<shift+n)
		}
	}
	return out
}

// notPieces returns numbers that no square of a valid board has.
func notPieces() []int {
	return append(far(), -1, -2, -6, -12, -13, 13, 14, 15, 16, 17, 22, 28, 64, 127, 128, 255, 256, 257, 262)
}

// P12.1: positions that are not valid.
func TestPrintOfInvalidPositions(t *testing.T) {
	notPrinted(t, api.Pos{})
	notPrinted(t, api.Pos{EP: -1, Full: 1})
	for _, s := range fens() {
		p := pos(t, s)
		for _, n := range far() {
			sides, castle, ep, halves, fulls := p, p, p, p, p
			sides.Turn, castle.Castle, ep.EP, halves.Half, fulls.Full = n, n, n, n, n
			for _, q := range []api.Pos{sides, castle, ep, halves, fulls, {Board: p.Board, Turn: n, Castle: n, EP: n, Half: n, Full: n}} {
				notPrinted(t, q)
			}
		}
		for n := -2; n <= 70; n++ {
			sides, castle, ep, halves, fulls := p, p, p, p, p
			sides.Turn, castle.Castle, ep.EP, halves.Half, fulls.Full = n, n, n, 1003+n, 10003+n
			for _, q := range []api.Pos{sides, castle, ep, halves, fulls} {
				if state.Check(q) != api.OK {
					notPrinted(t, q)
				}
			}
		}
		for _, n := range notPieces() {
			q := p
			q.Board[3] = n
			notPrinted(t, q)
			q.Board[60] = n
			notPrinted(t, q)
		}
		for n := range 64 {
			q := p
			if q.Board[n]%6 == 0 && q.Board[n] > 0 {
				q.Board[n], q.Castle = 0, 0
				notPrinted(t, q)
			}
		}
		q := p
		if q.Turn, q.EP = 1-p.Turn, -1; state.Check(q) != api.OK {
			notPrinted(t, q)
		}
	}
	attacked := pos(t, "4k3/8/8/8/8/8/8/K3R3 b - - 7 8")
	attacked.Turn = api.White
	notPrinted(t, attacked)
}

// P12.2: strings that are long.
func TestLongStrings(t *testing.T) {
	const many = 1 << 20
	for _, s := range []string{" ", "/", "8/", "K", "0", "-", "- ", "\x00", "\xff", "w ", start, start + " "} {
		refused(t, strings.Repeat(s, many))
		for part := range 6 {
			refused(t, with(start, part, strings.Repeat(s, many/len(s))))
		}
	}
}

// P12.3: the string of rights.
func TestCastle(t *testing.T) {
	for n, want := range []string{"-", "K", "Q", "KQ", "k", "Kk", "Qk", "KQk", "q", "Kq", "Qq", "KQq", "kq", "Kkq", "Qkq", "KQkq"} {
		if s, e := fen.Castle(n); s != want || e != api.OK {
			t.Errorf("Castle(%d) = %q, %d; want %q", n, s, e, want)
		}
	}
	for _, n := range append(far(), -1, -2, -15, -16, 16, 17, 18, 31, 32, 255, 256, 271) {
		if s, e := fen.Castle(n); s != "" || e != api.ErrRange {
			t.Errorf("Castle(%d) = %q, %d", n, s, e)
		}
	}
}

// P12.3: the drawings of some boards.
func TestDraw(t *testing.T) {
	for where, want := range map[string]string{
		"rnbqkbnr/pppppppp/8/8/8/8/PPPPPPPP/RNBQKBNR": "rnbqkbnr\npppppppp\n........\n........\n........\n........\nPPPPPPPP\nRNBQKBNR\n",
		"8/8/8/8/8/8/8/8":            "........\n........\n........\n........\n........\n........\n........\n........\n",
		"8/8/8/8/8/8/8/K6k":          "........\n........\n........\n........\n........\n........\n........\nK......k\n",
		"q7/8/8/8/8/8/8/7P":          "q.......\n........\n........\n........\n........\n........\n........\n.......P\n",
		"4k3/P1P5/8/8/3q4/8/p7/R3K3": "....k...\nP.P.....\n........\n........\n...q....\n........\np.......\nR...K...\n",
		"PNBRQKpn/brqkPNBR/QKpnbrqk/PNBRQKpn/brqkPNBR/QKpnbrqk/PNBRQKpn/brqkPNBR": "PNBRQKpn\nbrqkPNBR\nQKpnbrqk\nPNBRQKpn\nbrqkPNBR\nQKpnbrqk\nPNBRQKpn\nbrqkPNBR\n",
		"pppppppp/pppppppp/pppppppp/pppppppp/pppppppp/pppppppp/pppppppp/pppppppp": strings.Repeat("pppppppp\n", 8),
	} {
		b, e := board.Parse(where)
		if e != api.OK {
			t.Fatalf("%q: %d", where, e)
		}
		if s, e := fen.Draw(b); s != want || e != api.OK {
			t.Errorf("Draw of %q = %q, %d; want %q", where, s, e, want)
		}
	}
}

// P12.3: boards with numbers that are no pieces.
func TestDrawOfInvalidBoards(t *testing.T) {
	for _, b := range boards(t)[:40] {
		for square := range 64 {
			for _, n := range notPieces() {
				spoilt := b
				spoilt[square] = n
				if s, e := fen.Draw(spoilt); s != "" || e != api.ErrArg {
					t.Errorf("Draw(%v) = %q, %d", spoilt, s, e)
				}
			}
		}
	}
	for _, n := range notPieces() {
		var b api.Board
		for square := range b {
			b[square] = n
		}
		if s, e := fen.Draw(b); s != "" || e != api.ErrArg {
			t.Errorf("Draw(%v) = %q, %d", b, s, e)
		}
	}
}

// boards returns those of the FENs, those with one piece, and others: with few pieces, and with many.
func boards(t *testing.T) []api.Board {
	t.Helper()
	var out []api.Board
	for _, s := range fens() {
		out = append(out, pos(t, s).Board)
	}
	for i := range uint64(130) {
		var b api.Board
		for square := range b {
			if n := mix.At(12, 64*i+uint64(square)); n>>32%100 < i {
				b[square] = 1 + int(n%12)
			}
		}
		out = append(out, b)
	}
	for square := range 64 {
		for piece := range 13 {
			var b api.Board
			b[square] = piece
			out = append(out, b)
		}
	}
	return out
}

// varied returns valid positions that differ in what stands on a square, in the side to move, in rights, in the en passant square, and in clocks.
func varied(t *testing.T) []api.Pos {
	t.Helper()
	var out []api.Pos
	add := func(p api.Pos) {
		if state.Check(p) == api.OK {
			out = append(out, p)
		}
	}
	for _, s := range fens() {
		p := pos(t, s)
		for n := range 64 {
			for piece := range 13 {
				q := p
				q.Board[n] = piece
				add(q)
				q.Turn, q.EP = 1-p.Turn, -1
				add(q)
			}
		}
		for color := range 2 {
			for castle := range 16 {
				for ep := -1; ep < 64; ep++ {
					add(api.Pos{Board: p.Board, Turn: color, Castle: castle, EP: ep, Half: p.Half, Full: p.Full})
				}
			}
		}
		for _, h := range []int{0, 1, 9, 10, 11, 100, 101, 110, 999, 1000} {
			for _, f := range []int{1, 10, 11, 100, 101, 110, 1000, 9999, 10000} {
				q := p
				q.Half, q.Full = h, f
				add(q)
			}
		}
	}
	return out
}

// P12.4
func TestFoundAgain(t *testing.T) {
	found := map[string]api.Pos{}
	positions := varied(t)
	for _, p := range positions {
		s, e := fen.Print(p)
		if s != encoded(p) || e != api.OK {
			t.Errorf("Print(%v) = %q, %d; want %q", p, s, e, encoded(p))
		}
		if q, is := found[s]; is && q != p {
			t.Errorf("%v and %v have the FEN %q", p, q, s)
		}
		found[s] = p
		q, e := fen.Parse(s)
		if q != p || e != api.OK {
			t.Errorf("Parse(%q) = %v, %d; want %v", s, q, e, p)
		}
		if again, e := fen.Print(q); again != s || e != api.OK {
			t.Errorf("Print(%v) = %q, %d; want %q", q, again, e, s)
		}
	}
	if len(positions) < 5000 || len(found) < 5000 {
		t.Error(len(positions), len(found))
	}
}

// P12.5
func TestDrawings(t *testing.T) {
	for _, b := range boards(t) {
		before := b
		s, e := fen.Draw(b)
		if e != api.OK || len(s) != 72 || b != before {
			t.Errorf("Draw(%v) = %q, %d; the board is %v then", before, s, e, b)
			continue
		}
		for square, n := range b {
			if c := s[9*(7-square/8)+square%8]; c != letters[n] {
				t.Errorf("Draw(%v) = %q; on %d there stands %c", b, s, square, c)
			}
		}
		for rank := range 8 {
			if s[9*rank+8] != 10 {
				t.Errorf("Draw(%v) = %q", b, s)
			}
		}
		if points, empty := strings.Count(s, "."), board.Count(b)[0]; points != empty {
			t.Errorf("Draw(%v) = %q has %d points; want %d", b, s, points, empty)
		}
	}
}

// R4, R8: who changes results changes nothing that equal calls return.
func TestEqualCalls(t *testing.T) {
	for _, s := range fens() {
		p, _ := fen.Parse(s)
		p.Board[0], p.Castle, p.EP = 99, 99, 99
		accepted(t, s, pos(t, s))
	}
}
