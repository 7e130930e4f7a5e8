package state_test

import (
	"math"
	"slices"
	"strconv"
	"strings"
	"testing"

	"tempo/api"
	"tempo/board"
	"tempo/mix"
	"tempo/square"
	"tempo/state"
)

const start = "rnbqkbnr/pppppppp/8/8/8/8/PPPPPPPP/RNBQKBNR w KQkq - 0 1"

// The pieces, by their numbers.
const (
	whitePawn = 1 + iota
	whiteKnight
	whiteBishop
	whiteRook
	whiteQueen
	whiteKing
	blackPawn
	blackKnight
	blackBishop
	blackRook
	blackQueen
	blackKing
)

// pos returns the position of a FEN, whether it is valid or not.
func pos(t *testing.T, fen string) api.Pos {
	t.Helper()
	parts := strings.Fields(fen)
	b, e := board.Parse(parts[0])
	if e != api.OK {
		t.Fatalf("%q: %d", fen, e)
	}
	p := api.Pos{Board: b, Turn: strings.Index("wb", parts[1]), EP: -1}
	for i, letter := range "KQkq" {
		if strings.ContainsRune(parts[2], letter) {
			p.Castle |= 1 << i
		}
	}
	if parts[3] != "-" {
		p.EP = at(t, parts[3])
	}
	p.Half, _ = strconv.Atoi(parts[4])
	p.Full, _ = strconv.Atoi(parts[5])
	return p
}

// at returns the square with a name.
func at(t *testing.T, name string) int {
	t.Helper()
	n, e := square.Parse(name)
	if e != api.OK {
		t.Fatalf("%q: %d", name, e)
	}
	return n
}

// fens returns those of valid positions: with all rights and with some, with an en passant square on each rank and file, of use and of none, with a king in check, with many pieces and with two, and with clocks at their limits.
func fens() []string {
	out := []string{
		start, "rnbqkbnr/pppppppp/8/8/8/8/PPPPPPPP/RNBQKBNR b Kq - 1000 10000",
		"rnbqkbnr/pppppppp/8/8/4P3/8/PPPP1PPP/RNBQKBNR b KQkq e3 0 1", "rnbqkbnr/ppp1pppp/8/8/3pP3/8/PPPP1PPP/RNBQKBNR b KQkq e3 5 9",
		"r3k2r/p1ppqpb1/bn2pnp1/3PN3/1p2P3/2N2Q1p/PPPBBPPP/R3K2R w KQkq - 0 1", "8/2p5/3p4/KP5r/1R3p1k/8/4P1P1/8 w - - 0 1",
		"r3k2r/8/8/8/8/8/8/R3K2R w Qk - 3 40", "r3k2r/8/8/8/8/8/8/R3K2R b - - 3 40", "r3k3/8/8/8/8/8/8/4K2R w Kq - 0 7", "1r2k2r/8/8/8/8/8/8/R3KR2 w Qk - 0 7",
		"K7/8/8/8/8/8/8/7k w - - 999 9999", "k7/8/1K6/8/8/8/8/8 b - - 0 2", "4k3/8/8/8/8/8/8/K3R3 b - - 7 8", "4k3/8/8/b7/8/8/8/4K3 w - - 7 8",
		"4k3/pppppppp/8/8/8/8/PPPPPPPP/4K3 w - - 0 1", "k7/8/8/8/8/N7/NNNNNNNN/NNNNKNN1 b - - 0 1", "nnnnknn1/nnnnnnnn/n7/8/8/8/8/K7 w - - 0 1",
		"4k3/8/8/8/P6p/8/8/4K3 b - a3 0 5", "4k3/8/8/p6P/8/8/8/4K3 w - a6 0 5", "4k3/8/8/7p/P6P/8/8/4K3 b - h3 0 5", "4k3/8/8/p6p/P7/8/8/4K3 w - h6 0 5", "r3k3/8/8/pP6/8/8/8/4K3 w q a6 0 3", "4k3/8/8/8/4Pp2/8/8/4K2R b K e3 2 3",
		"8/8/8/2k5/3Pp3/8/8/4K3 b - d3 0 9", "4k3/8/8/3pP3/2K5/8/8/8 w - d6 0 9", "8/8/8/8/k2Pp2Q/8/8/3K4 b - d3 0 1",
	}
	for file := range 8 {
		name := string("abcdefgh"[file])
		out = append(out,
			"4k3/8/8/"+lone(file, 'p')+"/8/8/8/4K3 w - "+name+"6 0 2",
			"4k3/8/8/8/"+lone(file, 'P')+"/8/8/4K3 b - "+name+"3 0 2",
			"4k3/8/8/"+between(file, 'p', 'P')+"/8/8/8/4K3 w - "+name+"6 0 2",
			"4k3/8/8/8/"+between(file, 'P', 'p')+"/8/8/4K3 b - "+name+"3 0 2")
	}
	return out
}

// lone returns the text of a rank with one piece.
func lone(file int, piece byte) string {
	return rank(map[int]byte{file: piece})
}

// between returns the text of a rank with a piece, and others on both sides of it.
func between(file int, piece, others byte) string {
	return rank(map[int]byte{file - 1: others, file: piece, file + 1: others})
}

// rank returns the text of a rank with the letters of pieces on some files.
func rank(pieces map[int]byte) string {
	text := ""
	for file := range 8 {
		letter, is := pieces[file]
		if !is {
			letter = '1'
		}
		text += string(letter)
	}
	for n := 8; n > 1; n-- {
		text = strings.ReplaceAll(text, strings.Repeat("1", n), strconv.Itoa(n))
	}
	return text
}

// positions returns the valid positions of the tests.
func positions(t *testing.T) []api.Pos {
	t.Helper()
	var out []api.Pos
	for _, fen := range fens() {
		out = append(out, pos(t, fen))
	}
	return out
}

// notPieces returns numbers that neither are pieces nor stand for an empty square. Some would if they were cut to 4, 8, 16 or 32 bits, or without their sign.
func notPieces() []int {
	return []int{
		-1, 13, -2, -6, -7, -12, -13, -16, 14, 15, 16, 17, 22, 64, 99, 127, 128, 134, 255, 256, 257, 262, 268, -250, -256, 1 << 16, 1<<16 + 6,
		math.MaxInt32, math.MaxInt32 + 1, math.MinInt32, math.MinInt32 - 1, 1 << 32, 1<<32 + 6, 1<<32 + 12, -1<<32 + 6, 1<<32 - 1,
		math.MinInt, math.MinInt + 1, math.MinInt + 6, math.MinInt + 12, math.MaxInt - 12, math.MaxInt - 1, math.MaxInt,
	}
}

// far returns numbers that are outside of all ranges. Some would be in one if they were cut to 1, 4, 6, 8, 16 or 32 bits, or without their sign.
func far() []int {
	out := []int{math.MinInt, math.MinInt + 1, math.MinInt + 20, math.MinInt + 43, math.MaxInt - 20, math.MaxInt - 1, math.MaxInt}
	for _, shift := range []int{14, 16, 31, 32, 62} {
		for _, n := range []int{-1, 0, 1, 2, 15, 16, 20, 43, 47} {
			out = append(out, 1<<shift+n, -1<<shift+n)
		}
	}
	return out
}

func color(piece int) int {
	switch {
	case 1 <= piece && piece <= 6:
		return 0
	case 7 <= piece && piece <= 12:
		return 1
	}
	return -1
}

// ofBoard returns the squares whose numbers are one of those that are given.
func ofBoard(b api.Board, numbers ...int) []int {
	var out []int
	for n, x := range b {
		if slices.Contains(numbers, x) {
			out = append(out, n)
		}
	}
	return out
}

// attacks says whether a piece of a color attacks a square, by how far the pieces are from it: numbers that are no pieces stand in no way.
func attacks(b api.Board, by, to int) bool {
	for from, x := range b {
		if color(x) == by && from != to && reaches(b, from, to) {
			return true
		}
	}
	return false
}

func reaches(b api.Board, from, to int) bool {
	files, ranks := to%8-from%8, to/8-from/8
	straight, diagonal := files == 0 || ranks == 0, files*files == ranks*ranks
	switch b[from] {
	case whitePawn:
		return ranks == 1 && files*files == 1
	case blackPawn:
		return ranks == -1 && files*files == 1
	case whiteKnight, blackKnight:
		return files*files+ranks*ranks == 5
	case whiteKing, blackKing:
		return files*files <= 1 && ranks*ranks <= 1
	case whiteBishop, blackBishop:
		return diagonal && isFree(b, from, to)
	case whiteRook, blackRook:
		return straight && isFree(b, from, to)
	case whiteQueen, blackQueen:
		return (diagonal || straight) && isFree(b, from, to)
	}
	return false
}

// isFree reports whether there is no piece between two squares of a line.
func isFree(b api.Board, from, to int) bool {
	step := 8*sign(to/8-from/8) + sign(to%8-from%8)
	for n := from + step; n != to; n += step {
		if color(b[n]) >= 0 {
			return false
		}
	}
	return true
}

func sign(n int) int {
	return min(1, max(-1, n))
}

// allowed returns the rights that a board allows.
func allowed(b api.Board) int {
	rights := 0
	if b[4] == whiteKing && b[7] == whiteRook {
		rights++
	}
	if b[4] == whiteKing && b[0] == whiteRook {
		rights += 2
	}
	if b[60] == blackKing && b[63] == blackRook {
		rights += 4
	}
	if b[60] == blackKing && b[56] == blackRook {
		rights += 8
	}
	return rights
}

// broken returns the numbers of the chapter's conditions that do not hold. Those that rely on another one that does not hold count as holding.
func broken(p api.Pos) []int {
	b := p.Board
	var out []int
	is := func(condition int, holds bool) {
		if !holds {
			out = append(out, condition)
		}
	}
	is(1, !slices.ContainsFunc(b[:], func(n int) bool { return n != 0 && color(n) < 0 }))
	whiteKings, blackKings := ofBoard(b, whiteKing), ofBoard(b, blackKing)
	is(2, len(whiteKings) == 1 && len(blackKings) == 1 && len(ofBoard(b, 1, 2, 3, 4, 5, 6)) <= 16 && len(ofBoard(b, 7, 8, 9, 10, 11, 12)) <= 16 &&
		len(ofBoard(b, whitePawn)) <= 8 && len(ofBoard(b, blackPawn)) <= 8 && !slices.ContainsFunc(ofBoard(b, whitePawn, blackPawn), func(n int) bool { return n < 8 || n > 55 }))
	isTurn := p.Turn == 0 || p.Turn == 1
	is(3, isTurn)
	is(4, p.Castle >= 0 && p.Castle <= 15 && p.Castle&allowed(b) == p.Castle)
	is(5, !isTurn || p.EP == -1 || isPassed(p))
	is(6, p.Half >= 0 && p.Half <= 1000 && p.Full >= 1 && p.Full <= 10000)
	if p.Turn == 0 && len(blackKings) == 1 {
		is(7, !attacks(b, 0, blackKings[0]))
	}
	if p.Turn == 1 && len(whiteKings) == 1 {
		is(7, !attacks(b, 1, whiteKings[0]))
	}
	return out
}

// isPassed says whether EP is a square behind a pawn that has just moved.
func isPassed(p api.Pos) bool {
	for file := range 8 {
		if p.Turn == 0 && p.EP == 40+file {
			return p.Board[32+file] == blackPawn && p.Board[40+file] == 0 && p.Board[48+file] == 0
		}
		if p.Turn == 1 && p.EP == 16+file {
			return p.Board[24+file] == whitePawn && p.Board[16+file] == 0 && p.Board[8+file] == 0
		}
	}
	return false
}

// normal returns the normal form of a valid position.
func normal(p api.Pos) api.Pos {
	p.Half, p.Full = 0, 1
	if p.EP == -1 {
		return p
	}
	rank, own := 4, whitePawn
	if p.Turn == 1 {
		rank, own = 3, blackPawn
	}
	for file := range 8 {
		if d := file - p.EP%8; d*d == 1 && p.Board[8*rank+file] == own {
			return p
		}
	}
	p.EP = -1
	return p
}

// flipped returns a valid position with the colors exchanged.
func flipped(p api.Pos) api.Pos {
	out := api.Pos{Turn: 1 - p.Turn, EP: -1, Half: p.Half, Full: p.Full}
	for n, x := range p.Board {
		switch color(x) {
		case 0:
			out.Board[n^56] = x + 6
		case 1:
			out.Board[n^56] = x - 6
		}
	}
	for right, opposite := range map[int]int{1: 4, 2: 8, 4: 1, 8: 2} {
		if p.Castle&right != 0 {
			out.Castle += opposite
		}
	}
	if p.EP >= 0 {
		out.EP = p.EP ^ 56
	}
	return out
}

// expect compares what all functions say of a position with what the tests say.
func expect(t *testing.T, p api.Pos) {
	t.Helper()
	want, wantNormal, wantFlip := api.OK, normal(p), flipped(p)
	if len(broken(p)) > 0 {
		want, wantNormal, wantFlip = api.ErrArg, api.Pos{}, api.Pos{}
	}
	if e := state.Check(p); e != want {
		t.Errorf("Check(%v) = %d; want %d, with the conditions %v broken", p, e, want, broken(p))
	}
	if n, e := state.Normal(p); n != wantNormal || e != want {
		t.Errorf("Normal(%v) = %v, %d; want %v, %d", p, n, e, wantNormal, want)
	}
	if f, e := state.Flip(p); f != wantFlip || e != want {
		t.Errorf("Flip(%v) = %v, %d; want %v, %d", p, f, e, wantFlip, want)
	}
	if is := state.Same(p, p); is != (want == api.OK) {
		t.Errorf("Same(%v) = %t with itself", p, is)
	}
	if n := state.Rights(p.Board); n != allowed(p.Board) {
		t.Errorf("Rights(%v) = %d; want %d", p.Board, n, allowed(p.Board))
	}
}

// refused expects ErrArg for a position in which just one condition is broken.
func refused(t *testing.T, p api.Pos, condition int) {
	t.Helper()
	if got := broken(p); !slices.Equal(got, []int{condition}) {
		t.Errorf("%v: broken are %v; want %d alone", p, got, condition)
	}
	if e := state.Check(p); e != api.ErrArg {
		t.Errorf("Check(%v) = %d, with the condition %d broken", p, e, condition)
	}
	expect(t, p)
}

// accepted expects OK for a position.
func accepted(t *testing.T, p api.Pos) {
	t.Helper()
	if e := state.Check(p); e != api.OK {
		t.Errorf("Check(%v) = %d", p, e)
	}
	expect(t, p)
}

// judged expects ErrArg for the condition, or OK if it is 0.
func judged(t *testing.T, p api.Pos, condition int) {
	t.Helper()
	if condition == 0 {
		accepted(t, p)
	} else {
		refused(t, p, condition)
	}
}

// The chapter's examples.
func TestExamples(t *testing.T) {
	s := state.Start()
	if state.Check(s) != api.OK || state.Rights(s.Board) != 15 || s != pos(t, start) {
		t.Error(s)
	}
	for fen, want := range map[string]string{
		"rnbqkbnr/pppppppp/8/8/4P3/8/PPPP1PPP/RNBQKBNR b KQkq e3 0 1":  "rnbqkbnr/pppppppp/8/8/4P3/8/PPPP1PPP/RNBQKBNR b KQkq - 0 1",
		"rnbqkbnr/ppp1pppp/8/8/3pP3/8/PPPP1PPP/RNBQKBNR b KQkq e3 5 9": "rnbqkbnr/ppp1pppp/8/8/3pP3/8/PPPP1PPP/RNBQKBNR b KQkq e3 0 1",
	} {
		if p, e := state.Normal(pos(t, fen)); p != pos(t, want) || e != api.OK {
			t.Errorf("Normal of %q = %v, %d", fen, p, e)
		}
	}
	for fen, want := range map[string]api.Errno{
		"4k3/8/8/8/8/8/8/K3R3 w - - 0 1":                              api.ErrArg,
		"4k3/8/8/8/8/8/8/K3R3 b - - 0 1":                              api.OK,
		"rnbqkbnr/pppppppp/8/8/8/8/PPPPPPPP/RNBQ1BNR w kq - 0 1":      api.ErrArg,
		"rnbqkbnr/pppppppp/8/8/8/8/PPPPPPPP/RNBQ1BNR w KQkq - 0 1":    api.ErrArg,
		"rnbqkbnr/pppppppp/8/8/8/8/PPPPPPPP/RNBQKBN1 w KQkq - 0 1":    api.ErrArg,
		"rnbqkbnr/pppppppp/8/8/8/8/PPPPPPPP/RNBQKBNR w KQkq - 1001 1": api.ErrArg,
		"rnbqkbnr/pppppppp/8/8/8/8/PPPPPPPP/RNBQKBNR w KQkq - 0 0":    api.ErrArg,
	} {
		if e := state.Check(pos(t, fen)); e != want {
			t.Errorf("Check of %q = %d; want %d", fen, e, want)
		}
	}
	s.Castle = 16
	if e := state.Check(s); e != api.ErrArg {
		t.Errorf("Check of the start with the rights 16 = %d", e)
	}
	second := pos(t, "rnbqkbnr/pppppppp/8/8/4P3/8/PPPP1PPP/RNBQKBNR b KQkq e3 0 1")
	if p, e := state.Flip(second); p != pos(t, "rnbqkbnr/pppp1ppp/8/4p3/8/8/PPPPPPPP/RNBQKBNR w KQkq e6 0 1") || e != api.OK {
		t.Errorf("Flip = %v, %d", p, e)
	}
}

// P11.1: the positions of the tests are valid.
func TestValidPositions(t *testing.T) {
	for _, p := range positions(t) {
		accepted(t, p)
	}
}

// P11.1: each of the conditions broken by itself.
func TestEachConditionBroken(t *testing.T) {
	for _, p := range positions(t) {
		for _, n := range far() {
			turn, castle, ep, half, full := p, p, p, p, p
			turn.Turn, castle.Castle, ep.EP, half.Half, full.Full = n, n, n, n, n
			for i, q := range []api.Pos{turn, castle, ep, half, full} {
				refused(t, q, []int{3, 4, 5, 6, 6}[i])
			}
		}
	}
	for fen, condition := range map[string]int{
		"rnbqkbnr/pppppppp/8/8/8/8/PPPPPPPP/RNBQ1BNR w kq - 0 1":       2,
		"rnbq1bnr/pppppppp/8/8/8/8/PPPPPPPP/RNBQKBNR w KQ - 0 1":       2,
		"rnbqkbnr/pppppppp/8/8/8/8/PPPPPPPP/RNBKKBNR w KQkq - 0 1":     2,
		"rnbqkbnr/pppppppp/8/8/8/P7/PPPPPPPP/1NBQKBNR w Kkq - 0 1":     2,
		"rnbqkbnr/pppppppp/8/8/8/N7/PPPPPPPP/RNBQKBNR w KQkq - 0 1":    2,
		"rnbqkbnP/ppppppp1/8/8/8/8/PPPPPPP1/RNBQKBNR w KQq - 0 1":      2,
		"rnbqkbnr/pppppppp/8/8/8/8/PPPPPPPP/RNBQKBN1 w KQkq - 0 1":     4,
		"rnbqkbnr/pppppppp/8/8/8/8/PPPPPPPP/RNBQKBNR w KQkq e6 0 1":    5,
		"rnbqkbnr/pppppppp/8/8/8/8/PPPPPPPP/RNBQKBNR b KQkq e3 0 1":    5,
		"rnbqkbnr/pppppppp/8/8/8/8/PPPPPPPP/RNBQKBNR w KQkq - 1001 1":  6,
		"rnbqkbnr/pppppppp/8/8/8/8/PPPPPPPP/RNBQKBNR w KQkq - 0 10001": 6,
		"rnbqkbnr/pppp1Qpp/8/8/8/8/PPPPPPPP/RNB1KBNR w KQkq - 0 1":     7,
		"rnb1kbnr/pppppppp/8/8/8/5n2/PPPPPPPP/RNBQKBNR b KQkq - 0 1":   7,
	} {
		refused(t, pos(t, fen), condition)
	}
	p := pos(t, start)
	p.Board[30] = 13
	refused(t, p, 1)
}

// P11.1: numbers that are no pieces, on each square.
func TestNumbersThatAreNoPieces(t *testing.T) {
	kings := []string{"8/8/1k6/8/8/6K1/8/8 w - - 0 1", "8/8/1k6/8/8/6K1/8/8 b - - 0 1"}
	for _, fen := range append(fens()[:6], kings...) {
		for square := range 64 {
			for _, n := range notPieces() {
				p := pos(t, fen)
				p.Board[square] = n
				if e := state.Check(p); e != api.ErrArg {
					t.Errorf("Check of %q with %d on %d = %d", fen, n, square, e)
				}
				expect(t, p)
			}
		}
	}
	for _, n := range notPieces() {
		p := pos(t, kings[0])
		p.Board[9] = n
		refused(t, p, 1)
		for square := range p.Board {
			p.Board[square] = n
		}
		expect(t, p)
	}
}

// P11.1: one king of each color, neither none nor several.
func TestKings(t *testing.T) {
	for placement, condition := range map[string]int{
		"k7/8/8/8/8/8/8/7K": 0, "K7/8/8/8/8/8/8/7k": 0, "8/8/8/8/8/8/8/8": 2,
		"8/8/8/8/8/8/8/7K": 2, "k7/8/8/8/8/8/8/8": 2, "k7/8/8/8/8/8/8/6Q1": 2, "6q1/8/8/8/8/8/8/7K": 2,
		"k7/8/8/8/8/8/8/K6K": 2, "k6k/8/8/8/8/8/8/7K": 2, "k6k/8/8/8/8/8/8/K6K": 2, "k6k/8/8/8/8/8/8/8": 2, "8/8/8/8/8/8/8/K6K": 2,
		"kkk5/8/8/8/8/8/8/7K": 2, "k7/8/8/8/8/8/8/5KKK": 2, "k7/8/8/8/8/8/8/6KK": 2,
	} {
		for _, turn := range []string{"w", "b"} {
			judged(t, pos(t, placement+" "+turn+" - - 0 1"), condition)
		}
	}
}

// P11.1: up to 16 pieces of a color, of whatever kind they are; those of the other color do not count.
func TestNumbersOfPieces(t *testing.T) {
	for _, kind := range []int{2, 3, 4, 5} {
		for more := range 20 {
			for side := range 2 {
				for _, both := range []bool{false, true} {
					// The king that is not to move is the one of the color with many pieces: they do not attack it.
					p := api.Pos{Turn: 1 - side, EP: -1, Full: 1}
					p.Board[0], p.Board[63] = whiteKing, blackKing
					first, step, own := 1, 1, kind
					if side == 1 {
						first, step, own = 62, -1, kind+6
					}
					for i := range more {
						p.Board[first+step*i] = own
					}
					if both {
						p.Board[first+25*step] = 8 - 6*side
					}
					condition := 0
					if more > 15 {
						condition = 2
					}
					judged(t, p, condition)
				}
			}
		}
	}
}

// P11.1: up to 8 pawns of a color.
func TestNumbersOfPawns(t *testing.T) {
	for white := range 11 {
		for black := range 11 {
			for turn := range 2 {
				p := pos(t, "7k/8/8/8/8/8/8/K7 w - - 0 1")
				p.Turn = turn
				for i := range white {
					p.Board[8+i] = whitePawn
				}
				for i := range black {
					p.Board[47-i] = blackPawn
				}
				condition := 0
				if white > 8 || black > 8 {
					condition = 2
				}
				judged(t, p, condition)
			}
		}
	}
}

// P11.1: no pawns on the first and the last rank.
func TestRanksOfPawns(t *testing.T) {
	for n := range 64 {
		for _, pawn := range []int{whitePawn, blackPawn} {
			for turn := range 2 {
				p := pos(t, "8/8/8/k7/7K/8/8/8 w - - 0 1")
				p.Turn = turn
				// There a king stands, or the pawn attacks the one that is not to move.
				if n == 31 || n == 32 || n == 25 && pawn == whitePawn && turn == 0 || n == 38 && pawn == blackPawn && turn == 1 {
					continue
				}
				p.Board[n] = pawn
				condition := 0
				if n/8 == 0 || n/8 == 7 {
					condition = 2
				}
				judged(t, p, condition)
			}
		}
	}
}

// P11.1: who is to move.
func TestTurn(t *testing.T) {
	for _, x := range []struct{ turn, condition int }{{0, 0}, {1, 0}, {-1, 3}, {2, 3}, {3, 3}, {-2, 3}, {6, 3}, {7, 3}, {255, 3}, {256, 3}, {257, 3}, {-256, 3}, {-255, 3}, {math.MinInt, 3}, {math.MaxInt, 3}} {
		p := pos(t, start)
		p.Turn = x.turn
		judged(t, p, x.condition)
		p = pos(t, "4k3/8/8/8/8/8/8/4K3 w - - 0 1")
		p.Turn = x.turn
		judged(t, p, x.condition)
	}
}

// P11.1, P11.6: each set of rights, and of kings and rooks in their places.
func TestCastlingRights(t *testing.T) {
	places := []struct{ piece, on, off int }{{whiteKing, 4, 3}, {whiteRook, 7, 6}, {whiteRook, 0, 1}, {blackKing, 60, 59}, {blackRook, 63, 62}, {blackRook, 56, 57}}
	for set := range 1 << len(places) {
		for _, missing := range []bool{false, true} {
			p := api.Pos{EP: -1, Full: 1}
			// Pawns stand between the kings and the rooks of the other color.
			for file := range 8 {
				p.Board[8+file], p.Board[48+file] = whitePawn, blackPawn
			}
			for i, x := range places {
				if set>>i&1 == 1 {
					p.Board[x.on] = x.piece
				} else if !missing || x.piece == whiteKing || x.piece == blackKing {
					p.Board[x.off] = x.piece
				}
			}
			want := 0
			for right, pieces := range map[int]int{1: 0b000011, 2: 0b000101, 4: 0b011000, 8: 0b101000} {
				if set&pieces == pieces {
					want += right
				}
			}
			if n := state.Rights(p.Board); n != want {
				t.Errorf("Rights(%v) = %d; want %d", p.Board, n, want)
			}
			for p.Castle = -20; p.Castle < 40; p.Castle++ {
				condition := 4
				if p.Castle >= 0 && p.Castle|want == want {
					condition = 0
				}
				p.Turn = p.Castle & 1
				judged(t, p, condition)
			}
		}
	}
}

// P11.1, P11.6: another piece in the place of a king or a rook.
func TestCastlingRightsWithOtherPieces(t *testing.T) {
	for _, n := range []int{0, 4, 7, 56, 60, 63} {
		for piece := range 13 {
			p := pos(t, "r3k2r/8/8/8/8/8/8/R3K2R w KQkq - 0 1")
			want := p.Board[n]
			p.Board[n] = piece
			if got := state.Rights(p.Board); (got == 15) != (piece == want) {
				t.Errorf("with %d on %d, the rights are %d", piece, n, got)
			}
			for p.Castle = range 16 {
				expect(t, p)
			}
		}
	}
}

// P11.6: boards without kings, with many ones, and with numbers that are no pieces.
func TestRightsOfAnyBoard(t *testing.T) {
	for s, want := range map[string]int{
		"8/8/8/8/8/8/8/8": 0, "r3k2r/8/8/8/8/8/8/R3K2R": 15, "R3K2R/8/8/8/8/8/8/r3k2r": 0, "r3K2r/8/8/8/8/8/8/R3k2R": 0, "R3k2R/8/8/8/8/8/8/r3K2r": 0,
		"8/8/8/8/8/8/8/R3K2R": 3, "r3k2r/8/8/8/8/8/8/8": 12, "8/8/8/8/8/8/8/4K2R": 1, "8/8/8/8/8/8/8/R3K3": 2, "4k2r/8/8/8/8/8/8/8": 4, "r3k3/8/8/8/8/8/8/8": 8,
		"r2k3r/8/8/8/8/8/8/R2K3R": 0, "r4k1r/8/8/8/8/8/8/R4K1R": 0, "4k3/8/8/8/8/8/8/4K3": 0, "r6r/8/8/8/8/8/8/R6R": 0,
		"rkkkkkkr/pppppppp/pppppppp/8/8/PPPPPPPP/PPPPPPPP/RKKKKKKR": 15, "rrrrkrrr/8/8/8/8/8/8/RRRRKRRR": 15, "8/r3k2r/8/8/8/8/R3K2R/8": 0,
	} {
		b, e := board.Parse(s)
		if n := state.Rights(b); e != api.OK || n != want {
			t.Errorf("Rights of %q = %d; want %d", s, n, want)
		}
	}
	castled := pos(t, "r3k2r/8/8/8/8/8/8/R3K2R w - - 0 1").Board
	for _, number := range notPieces() {
		for n := range 64 {
			b := castled
			b[n] = number
			if got := state.Rights(b); got != allowed(b) {
				t.Errorf("with %d on %d, the rights are %d; want %d", number, n, got, allowed(b))
			}
			for k := range b {
				if castled[k] == 0 {
					b[k] = number
				}
			}
			if got := state.Rights(b); got != allowed(b) {
				t.Errorf("with %d on %d and all empty squares, the rights are %d; want %d", number, n, got, allowed(b))
			}
		}
	}
	for i := range uint64(2000) {
		var b api.Board
		for k, n := range []int{0, 4, 7, 56, 60, 63} {
			b[n] = castled[n]
			if x := mix.At(16, 6*i+uint64(k)); x%5 == 0 {
				b[n] = int(x>>8%15) - 1
			}
		}
		if got := state.Rights(b); got != allowed(b) {
			t.Errorf("Rights(%v) = %d; want %d", b, got, allowed(b))
		}
	}
}

// P11.1: each number near the squares as the en passant square, with either side to move, and pieces on the ranks on which a pawn may have just moved.
func TestEnPassantSquares(t *testing.T) {
	for file := range 8 {
		for _, pieces := range [][2]int{{whitePawn, blackPawn}, {blackPawn, whitePawn}, {whitePawn, whitePawn}, {blackPawn, blackPawn}, {whiteKnight, blackKnight}, {0, 0}} {
			// No pawn and no knight of these ranks attacks the kings.
			p := pos(t, "7K/8/8/8/8/8/8/k7 w - - 0 1")
			p.Board[24+file], p.Board[32+file] = pieces[0], pieces[1]
			tryEnPassantSquares(t, p)
		}
	}
}

// P11.1: the same with one pawn, on each rank.
func TestEnPassantSquaresWithOnePawn(t *testing.T) {
	for n := 8; n < 56; n++ {
		for _, pawn := range []int{whitePawn, blackPawn} {
			p := pos(t, "7K/8/8/8/8/8/8/k7 w - - 0 1")
			p.Board[n] = pawn
			tryEnPassantSquares(t, p)
		}
	}
}

// tryEnPassantSquares tries each en passant square of a position whose pawns have no pieces behind them.
func tryEnPassantSquares(t *testing.T, p api.Pos) {
	t.Helper()
	for p.Turn = range 2 {
		for p.EP = -20; p.EP < 90; p.EP++ {
			condition := 5
			byBlack := p.Turn == 0 && 40 <= p.EP && p.EP < 48 && p.Board[p.EP-8] == blackPawn
			byWhite := p.Turn == 1 && 16 <= p.EP && p.EP < 24 && p.Board[p.EP+8] == whitePawn
			if p.EP == -1 || byBlack || byWhite {
				condition = 0
			}
			judged(t, p, condition)
		}
	}
}

// P11.1: each piece on the en passant square, on the next one, and in place of the pawn that has just moved.
func TestEnPassantSquaresWithPieces(t *testing.T) {
	for file := range 8 {
		for turn := range 2 {
			p := pos(t, "k7/8/8/8/8/8/8/7K w - - 0 1")
			behind, ahead, pawn := 32+file, 48+file, blackPawn
			if turn == 1 {
				behind, ahead, pawn = 24+file, 8+file, whitePawn
			}
			p.Turn, p.EP, p.Board[behind] = turn, (behind+ahead)/2, pawn
			accepted(t, p)
			for _, n := range []int{behind, p.EP, ahead} {
				for piece := range 13 {
					if piece == whiteKing || piece == blackKing {
						continue
					}
					q := p
					q.Board[n] = piece
					condition := 5
					if q.Board == p.Board {
						condition = 0
					}
					judged(t, safe(q), condition)
				}
			}
		}
	}
}

// safe returns the position with the king that is not to move on a square of another file than EP, on which it is not attacked.
func safe(p api.Pos) api.Pos {
	for n, x := range p.Board {
		if q := withKing(p, 1-p.Turn, n); x == 0 && n%8 != p.EP%8 && !slices.Contains(broken(q), 7) {
			return q
		}
	}
	return p
}

// withKing returns the position with the king of a color on another square.
func withKing(p api.Pos, side, to int) api.Pos {
	king := 6 + 6*side
	for n, x := range p.Board {
		if x == king {
			p.Board[n] = 0
		}
	}
	p.Board[to] = king
	return p
}

// P11.1: nothing but the en passant square is wrong in these positions, or nothing at all.
func TestWrongEnPassantSquares(t *testing.T) {
	for fen, condition := range map[string]int{
		"4k3/8/8/8/2P5/8/8/4K3 b - c3 0 1":     0,
		"4k3/8/8/8/2P5/8/8/4K3 w - c3 0 1":     5, // the other side is to move
		"4k3/8/8/8/2P5/8/8/4K3 b - c4 0 1":     5,
		"4k3/8/8/8/2P5/8/8/4K3 b - c2 0 1":     5,
		"4k3/8/8/8/2P5/8/8/4K3 b - c5 0 1":     5,
		"4k3/8/8/8/2P5/8/8/4K3 b - c6 0 1":     5,
		"4k3/8/8/8/2P5/8/8/4K3 b - b3 0 1":     5,
		"4k3/8/8/8/2P5/8/8/4K3 b - d3 0 1":     5,
		"4k3/8/8/8/2P5/2N5/8/4K3 b - c3 0 1":   5,
		"4k3/8/8/8/2P5/2n5/8/4K3 b - c3 0 1":   5,
		"4k3/8/8/8/2P5/8/2P5/4K3 b - c3 0 1":   5,
		"4k3/8/8/8/2P5/8/2p5/4K3 b - c3 0 1":   5,
		"4k3/8/8/8/2P5/2p5/8/4K3 b - c3 0 1":   5,
		"4k3/8/8/8/2p5/8/8/4K3 b - c3 0 1":     5,
		"4k3/8/8/8/2N5/8/8/4K3 b - c3 0 1":     5,
		"4k3/8/8/8/8/8/8/4K3 b - c3 0 1":       5,
		"4k3/8/8/8/8/2P5/8/4K3 b - c3 0 1":     5,
		"4k3/8/8/8/8/8/2p5/4K3 w - c3 0 1":     5, // the right squares for the wrong side
		"4k3/8/8/2p5/8/8/8/4K3 w - c6 0 1":     0,
		"4k3/8/8/2p5/8/8/8/4K3 b - c6 0 1":     5,
		"4k3/8/8/2p5/8/8/8/4K3 w - c5 0 1":     5,
		"4k3/8/8/2p5/8/8/8/4K3 w - c7 0 1":     5,
		"4k3/8/8/2p5/8/8/8/4K3 w - c4 0 1":     5,
		"4k3/8/8/2p5/8/8/8/4K3 w - c3 0 1":     5,
		"4k3/8/8/2p5/8/8/8/4K3 w - b6 0 1":     5,
		"4k3/8/8/2p5/8/8/8/4K3 w - d6 0 1":     5,
		"4k3/8/2n5/2p5/8/8/8/4K3 w - c6 0 1":   5,
		"4k3/8/2N5/2p5/8/8/8/4K3 w - c6 0 1":   5,
		"4k3/2p5/8/2p5/8/8/8/4K3 w - c6 0 1":   5,
		"4k3/2P5/8/2p5/8/8/8/4K3 w - c6 0 1":   5,
		"4k3/8/8/2P5/8/8/8/4K3 w - c6 0 1":     5,
		"4k3/8/8/2n5/8/8/8/4K3 w - c6 0 1":     5,
		"4k3/8/8/8/8/8/8/4K3 w - c6 0 1":       5,
		"2r1k3/8/8/2p5/8/8/8/2R1K3 w - c6 0 1": 0, // pieces further away do not matter
		"2r1k3/8/8/8/2P5/8/8/2R1K3 b - c3 0 1": 0,
		"4k3/8/8/2pP4/8/8/8/3RK3 w - c6 0 1":   0,
		"4k3/8/2PPP3/2p5/8/8/8/4K3 w - d6 0 1": 5,
		"4k3/8/8/8/P7/8/7P/4K3 b - a3 0 1":     0, // the file h is not beside the file a
		"4k3/7p/8/p7/8/8/8/4K3 w - a6 0 1":     0,
		"4k3/8/8/8/7P/P7/P7/4K3 b - h3 0 1":    0,
		"4k3/p7/p7/7p/8/8/8/4K3 w - h6 0 1":    0,
	} {
		judged(t, pos(t, fen), condition)
	}
}

// P11.1
func TestClocks(t *testing.T) {
	for _, fen := range []string{start, "8/8/8/2k5/3Pp3/8/8/4K3 b - d3 0 9"} {
		for _, x := range []struct{ half, full, condition int }{
			{0, 1, 0}, {0, 10000, 0}, {1000, 1, 0}, {1000, 10000, 0}, {1, 2, 0}, {999, 9999, 0}, {50, 1, 0}, {100, 1, 0}, {1000, 1001, 0},
			{1001, 1, 6}, {1002, 10000, 6}, {-1, 1, 6}, {-2, 10000, 6}, {-1000, 1, 6}, {10000, 1, 6}, {1024, 1, 6}, {2000, 1, 6},
			{0, 0, 6}, {1000, 0, 6}, {0, 10001, 6}, {1000, 10001, 6}, {0, -1, 6}, {0, -10000, 6}, {0, 16384, 6}, {0, 65537, 6}, {-1, 0, 6}, {1001, 10001, 6},
			{math.MinInt, 1, 6}, {math.MaxInt, 1, 6}, {0, math.MinInt, 6}, {0, math.MaxInt, 6}, {math.MinInt, math.MinInt, 6}, {math.MaxInt, math.MaxInt, 6},
		} {
			p := pos(t, fen)
			p.Half, p.Full = x.half, x.full
			judged(t, p, x.condition)
		}
	}
	p := pos(t, start)
	for p.Half = -5; p.Half <= 1005; p.Half++ {
		expect(t, p)
	}
	p.Half = 0
	for p.Full = -5; p.Full <= 10005; p.Full++ {
		expect(t, p)
	}
}

// P11.1: the king of the side that is to move may be attacked, that of the other side may not.
func TestAttackedKings(t *testing.T) {
	for placement, x := range map[string]struct{ white, black int }{ // the conditions that are broken, by who is to move
		"4k3/8/8/8/8/8/8/4K3":        {0, 0},
		"4k3/8/8/8/8/8/8/K3R3":       {7, 0},
		"4k3/8/8/8/8/8/4p3/K3R3":     {0, 0},
		"4k3/8/8/8/8/8/4P3/K3R3":     {0, 0},
		"4k3/3P4/8/8/8/8/8/4K3":      {7, 0},
		"4k3/4P3/8/8/8/8/8/4K3":      {0, 0},
		"4k3/8/8/8/8/8/5p2/4K3":      {0, 7},
		"4k3/8/8/8/8/8/4p3/4K3":      {0, 0},
		"4k3/8/3N4/8/8/8/8/4K3":      {7, 0},
		"4k3/8/8/8/8/5n2/8/4K3":      {0, 7},
		"4k3/8/8/8/Q7/8/8/4K3":       {7, 0},
		"4k3/8/8/8/b7/8/3P4/4K3":     {0, 0},
		"4k3/8/8/8/7b/8/8/4K3":       {0, 7},
		"4k3/8/8/8/4r3/8/8/4K3":      {0, 7},
		"r3k3/8/8/8/8/8/8/4K2q":      {0, 7},
		"R3k3/8/8/8/8/8/8/4K2q":      {7, 7},
		"8/8/8/3kK3/8/8/8/8":         {7, 7},
		"8/8/8/3k4/4K3/8/8/8":        {7, 7},
		"8/8/8/3k4/8/3K4/8/8":        {0, 0},
		"4k3/8/8/8/1B5b/8/8/4K3":     {0, 7},
		"1n2k1N1/8/8/1B6/7b/8/8/4K3": {7, 7},
	} {
		for turn, condition := range map[string]int{" w": x.white, " b": x.black} {
			judged(t, pos(t, placement+turn+" - - 0 1"), condition)
		}
	}
}

// P11.1: each piece on each square, beside two kings.
func TestPiecesThatAttackKings(t *testing.T) {
	seen := map[bool]int{}
	for _, fen := range []string{"8/8/2k5/8/8/5K2/8/8 w - - 0 1", "k7/8/8/8/8/8/8/7K w - - 0 1", "8/8/8/4K3/8/4k3/8/8 w - - 0 1"} {
		for n := range 64 {
			for piece := range 13 {
				for turn := range 2 {
					p := pos(t, fen)
					p.Board[n], p.Turn = piece, turn
					expect(t, p)
					seen[slices.Equal(broken(p), []int{7})]++
				}
			}
		}
	}
	if seen[true] < 200 || seen[false] < 200 {
		t.Error(seen)
	}
}

// P11.1: one change of a valid position, or two.
func TestChangedPositions(t *testing.T) {
	seen := map[int]int{}
	for _, p := range positions(t) {
		for n := range 64 {
			for x := -1; x <= 13; x++ {
				q := p
				q.Board[n] = x
				expect(t, q)
				for _, c := range broken(q) {
					seen[c]++
				}
			}
		}
		for x := -3; x <= 66; x++ {
			turn, castle, ep, half, full := p, p, p, p, p
			turn.Turn, castle.Castle, ep.EP, half.Half, full.Full = x, x, x, x, x
			for _, q := range []api.Pos{turn, castle, ep, half, full} {
				expect(t, q)
				q.Turn = 1 - q.Turn
				expect(t, q)
				for _, c := range broken(q) {
					seen[c]++
				}
			}
		}
	}
	for c := 1; c <= 7; c++ {
		if seen[c] < 100 {
			t.Errorf("the condition %d was broken %d times", c, seen[c])
		}
	}
}

// P11.2
func TestStart(t *testing.T) {
	p := state.Start()
	want := api.Board{
		4, 2, 3, 5, 6, 3, 2, 4,
		1, 1, 1, 1, 1, 1, 1, 1,
		48: 7, 7, 7, 7, 7, 7, 7, 7,
		56: 10, 8, 9, 11, 12, 9, 8, 10,
	}
	if p.Board != want || p.Turn != 0 || p.Castle != 15 || p.EP != -1 || p.Half != 0 || p.Full != 1 {
		t.Error(p)
	}
	for name, piece := range map[string]int{
		"a1": whiteRook, "b1": whiteKnight, "c1": whiteBishop, "d1": whiteQueen, "e1": whiteKing, "f1": whiteBishop, "g1": whiteKnight, "h1": whiteRook, "a2": whitePawn, "h2": whitePawn,
		"a8": blackRook, "b8": blackKnight, "c8": blackBishop, "d8": blackQueen, "e8": blackKing, "f8": blackBishop, "g8": blackKnight, "h8": blackRook, "a7": blackPawn, "h7": blackPawn,
	} {
		if n := p.Board[at(t, name)]; n != piece {
			t.Errorf("on %s there is %d; want %d", name, n, piece)
		}
	}
	accepted(t, p)
	p.Board[4], p.Castle = 0, 0
	if again := state.Start(); again != pos(t, start) {
		t.Error(again)
	}
}

// P11.3
func TestNormal(t *testing.T) {
	for fen, want := range map[string]string{
		start: start,
		"rnbqkbnr/pppppppp/8/8/8/8/PPPPPPPP/RNBQKBNR b Kq - 1000 10000": "rnbqkbnr/pppppppp/8/8/8/8/PPPPPPPP/RNBQKBNR b Kq - 0 1",
		"4k3/8/8/8/2P5/8/8/4K3 b - c3 3 4":                              "4k3/8/8/8/2P5/8/8/4K3 b - - 0 1",
		"4k3/8/8/8/1pP5/8/8/4K3 b - c3 3 4":                             "4k3/8/8/8/1pP5/8/8/4K3 b - c3 0 1",
		"4k3/8/8/8/2Pp4/8/8/4K3 b - c3 3 4":                             "4k3/8/8/8/2Pp4/8/8/4K3 b - c3 0 1",
		"4k3/8/8/8/1pPp4/8/8/4K3 b - c3 3 4":                            "4k3/8/8/8/1pPp4/8/8/4K3 b - c3 0 1",
		"4k3/8/8/8/1PPP4/8/8/4K3 b - c3 3 4":                            "4k3/8/8/8/1PPP4/8/8/4K3 b - - 0 1", // pawns of the wrong color
		"4k3/8/8/8/1nPq4/8/8/4K3 b - c3 3 4":                            "4k3/8/8/8/1nPq4/8/8/4K3 b - - 0 1", // no pawns
		"8/8/8/8/1kPr4/8/8/4K3 b - c3 3 4":                              "8/8/8/8/1kPr4/8/8/4K3 b - - 0 1",
		"4k3/8/8/8/p1P1p3/8/8/4K3 b - c3 3 4":                           "4k3/8/8/8/p1P1p3/8/8/4K3 b - - 0 1", // two files away
		"4k3/8/8/1ppp4/2P5/1p1p4/8/4K3 b - c3 3 4":                      "4k3/8/8/1ppp4/2P5/1p1p4/8/4K3 b - - 0 1",
		"4k3/8/8/2p5/8/8/8/4K3 w - c6 3 4":                              "4k3/8/8/2p5/8/8/8/4K3 w - - 0 1",
		"4k3/8/8/1Pp5/8/8/8/4K3 w - c6 3 4":                             "4k3/8/8/1Pp5/8/8/8/4K3 w - c6 0 1",
		"4k3/8/8/2pP4/8/8/8/4K3 w - c6 3 4":                             "4k3/8/8/2pP4/8/8/8/4K3 w - c6 0 1",
		"4k3/8/8/1ppp4/8/8/8/4K3 w - c6 3 4":                            "4k3/8/8/1ppp4/8/8/8/4K3 w - - 0 1",
		"4k3/8/8/1NpQ4/8/8/8/4K3 w - c6 3 4":                            "4k3/8/8/1NpQ4/8/8/8/4K3 w - - 0 1",
		"4k3/8/8/1NpQ4/8/8/8/4K3 b - c6 3 4":                            "",
		"4k3/8/8/1NpR4/8/8/8/4K3 w - c6 3 4":                            "4k3/8/8/1NpR4/8/8/8/4K3 w - - 0 1",
		"4k3/8/1P1P4/2p5/1PPP4/8/8/4K3 w - c6 3 4":                      "4k3/8/1P1P4/2p5/1PPP4/8/8/4K3 w - - 0 1",
		"4k3/8/8/8/P6p/7p/8/4K3 b - a3 3 4":                             "4k3/8/8/8/P6p/7p/8/4K3 b - - 0 1", // the edges are not beside each other
		"4k3/8/8/p7/p6P/8/8/4K3 b - h3 3 4":                             "4k3/8/8/p7/p6P/8/8/4K3 b - - 0 1",
		"4k3/8/8/p6P/7P/8/8/4K3 w - a6 3 4":                             "4k3/8/8/p6P/7P/8/8/4K3 w - - 0 1",
		"4k3/8/P7/P6p/8/8/8/4K3 w - h6 3 4":                             "4k3/8/P7/P6p/8/8/8/4K3 w - - 0 1",
		"4k3/8/8/8/Pp6/8/8/4K3 b - a3 3 4":                              "4k3/8/8/8/Pp6/8/8/4K3 b - a3 0 1",
		"4k3/8/8/8/6pP/8/8/4K3 b - h3 3 4":                              "4k3/8/8/8/6pP/8/8/4K3 b - h3 0 1",
		"4k3/8/8/pP6/8/8/8/4K3 w - a6 3 4":                              "4k3/8/8/pP6/8/8/8/4K3 w - a6 0 1",
		"4k3/8/8/6Pp/8/8/8/4K3 w - h6 3 4":                              "4k3/8/8/6Pp/8/8/8/4K3 w - h6 0 1",
		"8/8/8/8/k2Pp2Q/8/8/3K4 b - d3 0 9":                             "8/8/8/8/k2Pp2Q/8/8/3K4 b - d3 0 1", // the capture is not legal
		"r3k2r/8/8/8/8/8/8/R3K2R w Qk - 3 40":                           "r3k2r/8/8/8/8/8/8/R3K2R w Qk - 0 1",
	} {
		var p api.Pos
		e := api.ErrArg
		if want != "" {
			p, e = pos(t, want), api.OK
		}
		if got, got2 := state.Normal(pos(t, fen)); got != p || got2 != e {
			t.Errorf("Normal of %q = %v, %d; want %q", fen, got, got2, want)
		}
	}
}

// P11.3: a piece on each square beside the pawn that has just moved, and on all others.
func TestNormalWithOnePieceMore(t *testing.T) {
	seen := map[bool]int{}
	for file := range 8 {
		for turn := range 2 {
			for n := range 64 {
				for piece := range 13 {
					p := pos(t, "4k3/8/8/8/8/8/8/4K3 w - - 2 3")
					p.Turn, p.EP = turn, 40-24*turn+file
					p.Board[32-8*turn+file] = blackPawn - 6*turn
					if p.Board[n] == 0 {
						p.Board[n] = piece
					}
					expect(t, p)
					got, _ := state.Normal(p)
					seen[got.EP == p.EP]++
				}
			}
		}
	}
	if seen[true] != 2*(6*2+2) {
		t.Error(seen)
	}
}

// P11.4: positions that are not valid are the same as none, themselves included.
func TestSameOfInvalidPositions(t *testing.T) {
	valid := pos(t, start)
	noKing, noRook, late := valid, valid, valid
	noKing.Board[4], noKing.Castle = 0, 0
	noRook.Board[7] = 0
	late.Half = 1001
	all := []api.Pos{{}, noKing, noRook, late, {Board: valid.Board, Turn: 2, EP: -1, Full: 1}, {Board: valid.Board}, {Board: valid.Board, EP: -1}, {EP: -1, Full: 1}}
	for _, a := range all {
		for _, b := range append(all, valid) {
			if state.Same(a, b) || state.Same(b, a) {
				t.Errorf("Same of %v and %v", a, b)
			}
		}
	}
	if !state.Same(valid, valid) {
		t.Error("Same")
	}
}

// P11.4
func TestSame(t *testing.T) {
	for _, x := range []struct {
		a, b string
		want bool
	}{
		{start, start, true},
		{start, "rnbqkbnr/pppppppp/8/8/8/8/PPPPPPPP/RNBQKBNR w KQkq - 70 80", true},
		{start, "rnbqkbnr/pppppppp/8/8/8/8/PPPPPPPP/RNBQKBNR b KQkq - 0 1", false},
		{start, "rnbqkbnr/pppppppp/8/8/8/8/PPPPPPPP/RNBQKBNR w KQk - 0 1", false},
		{start, "rnbqkbnr/pppppppp/8/8/8/8/PPPPPPPP/RNBQKBNR w - - 0 1", false},
		{start, "rnbqkbnr/pppppppp/8/8/8/7P/PPPPPPP1/RNBQKBNR w KQkq - 0 1", false},
		{start, "rnbqkbnr/pppppppp/8/8/8/8/PPPPPPPP/RNQBKBNR w KQkq - 0 1", false},
		{"4k3/8/8/8/2P5/8/8/4K3 b - c3 3 4", "4k3/8/8/8/2P5/8/8/4K3 b - - 9 9", true},
		{"4k3/8/8/8/1pP5/8/8/4K3 b - c3 3 4", "4k3/8/8/8/1pP5/8/8/4K3 b - c3 9 9", true},
		{"4k3/8/8/8/1pP5/8/8/4K3 b - c3 3 4", "4k3/8/8/8/1pP5/8/8/4K3 b - - 3 4", false},
		{"4k3/8/8/8/P6p/8/8/4K3 b - a3 3 4", "4k3/8/8/8/P6p/8/8/4K3 b - - 3 4", true},
		{"4k3/8/8/1pPpP3/8/8/8/4K3 w - b6 3 4", "4k3/8/8/1pPpP3/8/8/8/4K3 w - d6 3 4", false},
		{"4k3/8/8/p2p4/8/8/8/4K3 w - a6 3 4", "4k3/8/8/p2p4/8/8/8/4K3 w - d6 3 4", true},
	} {
		a, b := pos(t, x.a), pos(t, x.b)
		if state.Same(a, b) != x.want || state.Same(b, a) != x.want {
			t.Errorf("Same of %q and %q = %t, %t; want %t", x.a, x.b, state.Same(a, b), state.Same(b, a), x.want)
		}
	}
}

// P11.5
func TestFlip(t *testing.T) {
	for fen, want := range map[string]string{
		start: "rnbqkbnr/pppppppp/8/8/8/8/PPPPPPPP/RNBQKBNR b KQkq - 0 1",
		"rnbqkbnr/ppp1pppp/8/8/3pP3/8/PPPP1PPP/RNBQKBNR b KQkq e3 5 9":         "rnbqkbnr/pppp1ppp/8/3Pp3/8/8/PPP1PPPP/RNBQKBNR w KQkq e6 5 9",
		"r3k2r/p1ppqpb1/bn2pnp1/3PN3/1p2P3/2N2Q1p/PPPBBPPP/R3K2R w KQ - 6 100": "r3k2r/pppbbppp/2n2q1P/1P2p3/3pn3/BN2PNP1/P1PPQPB1/R3K2R b kq - 6 100",
		"r3k2r/8/8/8/8/8/8/R3K2R b K - 1000 10000":                             "r3k2r/8/8/8/8/8/8/R3K2R w k - 1000 10000",
		"r3k2r/8/8/8/8/8/8/R3K2R b Q - 0 1":                                    "r3k2r/8/8/8/8/8/8/R3K2R w q - 0 1",
		"r3k2r/8/8/8/8/8/8/R3K2R b k - 0 1":                                    "r3k2r/8/8/8/8/8/8/R3K2R w K - 0 1",
		"r3k2r/8/8/8/8/8/8/R3K2R b q - 0 1":                                    "r3k2r/8/8/8/8/8/8/R3K2R w Q - 0 1",
		"r3k2r/8/8/8/8/8/8/R3K2R b Kq - 0 1":                                   "r3k2r/8/8/8/8/8/8/R3K2R w Qk - 0 1",
		"4k3/8/8/8/P6p/8/8/4K3 b - a3 2 3":                                     "4k3/8/8/p6P/8/8/8/4K3 w - a6 2 3",
		"4k3/8/8/7p/8/8/8/4K3 w - h6 2 3":                                      "4k3/8/8/8/7P/8/8/4K3 b - h3 2 3",
		"4k3/8/8/8/8/8/8/K3R3 b - - 7 8":                                       "k3r3/8/8/8/8/8/8/4K3 w - - 7 8",
	} {
		if p, e := state.Flip(pos(t, fen)); p != pos(t, want) || e != api.OK {
			t.Errorf("Flip of %q = %v, %d; want %q", fen, p, e, want)
		}
	}
}

// P11.7
func TestNormalForms(t *testing.T) {
	for _, p := range positions(t) {
		n, e := state.Normal(p)
		again, e2 := state.Normal(n)
		if e != api.OK || e2 != api.OK || state.Check(n) != api.OK || again != n {
			t.Errorf("the normal form of %v is %v, and of this %v", p, n, again)
		}
		if !state.Same(p, n) || !state.Same(n, p) {
			t.Errorf("%v and its normal form %v are not the same", p, n)
		}
	}
}

// variants returns positions that differ from a valid one in their clocks, sides, rights and en passant squares, as far as they are valid.
func variants(p api.Pos) []api.Pos {
	var out []api.Pos
	for turn := range 2 {
		for castle := range 16 {
			for ep := -1; ep < 64; ep++ {
				q := api.Pos{Board: p.Board, Turn: turn, Castle: castle, EP: ep, Half: p.Half, Full: p.Full}
				if len(broken(q)) > 0 {
					continue
				}
				clocks := q
				clocks.Half, clocks.Full = 1000-q.Half, 10001-q.Full
				out = append(out, q, clocks)
			}
		}
	}
	return out
}

// P11.8
func TestSameIsAnEquivalence(t *testing.T) {
	var all []api.Pos
	for _, fen := range []string{
		"r3k2r/8/8/1pP4p/P2Pp2P/8/8/R3K3 w - - 3 40", "4k3/8/8/pP1p4/2p1PpP1/8/8/4K2R w - - 0 1", "4k3/8/8/p6P/P6p/8/8/4K3 w - - 1 1",
		"4k3/8/8/p7/P7/8/8/4K3 w - - 0 7", "4k3/8/8/p7/P6p/8/8/4K3 w - - 0 7", "4k3/8/8/8/8/8/8/4K3 w - - 0 7",
	} {
		all = append(all, variants(pos(t, fen))...)
	}
	same := make([][]bool, len(all))
	for i, a := range all {
		for _, b := range all {
			same[i] = append(same[i], state.Same(a, b))
		}
	}
	seen := map[bool]int{}
	for i, a := range all {
		for k, b := range all {
			want := a.Board == b.Board && a.Turn == b.Turn && a.Castle == b.Castle && normal(a).EP == normal(b).EP
			if same[i][k] != want || same[k][i] != want {
				t.Errorf("Same of %v and %v = %t, %t; want %t", a, b, same[i][k], same[k][i], want)
			}
			if same[i][k] && !slices.Equal(same[i], same[k]) {
				t.Errorf("%v and %v are the same, but not as the same others", a, b)
			}
			seen[want]++
		}
		if !same[i][i] {
			t.Errorf("%v is not the same as itself", a)
		}
	}
	if len(all) < 100 || seen[true] < 2*len(all) || seen[false] < len(all) {
		t.Error(len(all), seen)
	}
}

// P11.8: the clocks do not matter; the pieces, the side to move and the rights do.
func TestWhatMatters(t *testing.T) {
	for _, p := range positions(t) {
		for _, clocks := range [][2]int{{0, 1}, {1000, 10000}, {7, 13}} {
			q := p
			q.Half, q.Full = clocks[0], clocks[1]
			if !state.Same(p, q) || !state.Same(q, p) {
				t.Errorf("%v and %v are not the same", p, q)
			}
		}
		others := []api.Pos{p}
		others[0].Turn, others[0].EP = 1-p.Turn, -1
		for castle := range 16 {
			q := p
			if q.Castle = castle; castle != p.Castle {
				others = append(others, q)
			}
		}
		for n := range 64 {
			for piece := range 13 {
				q := p
				if q.Board[n] = piece; piece != p.Board[n] {
					others = append(others, q)
				}
			}
		}
		for _, q := range others {
			if state.Same(p, q) || state.Same(q, p) {
				t.Errorf("%v and %v are the same", p, q)
			}
		}
	}
}

// P11.9
func TestExchangedColors(t *testing.T) {
	var all []api.Pos
	for _, p := range append(positions(t), variants(pos(t, "r3k2r/8/8/1pP4p/P2Pp2P/8/8/R3K3 w - - 3 40"))...) {
		f, e := state.Flip(p)
		back, e2 := state.Flip(f)
		if e != api.OK || e2 != api.OK || state.Check(f) != api.OK || back != p || f == p {
			t.Errorf("Flip of %v = %v, %d; and of this %v, %d", p, f, e, back, e2)
		}
		all = append(all, p, f)
	}
	// Each position of even number has its flipped one behind it.
	seen := map[bool]int{}
	for i := 0; i < len(all); i += 2 {
		for k := 0; k < len(all); k += 2 {
			is := state.Same(all[i], all[k])
			if state.Same(all[i+1], all[k+1]) != is {
				t.Errorf("Same of %v and %v = %t, but not with the colors exchanged", all[i], all[k], is)
			}
			seen[is && i != k]++
		}
	}
	if seen[true] < 10 || seen[false] < 10 {
		t.Error(seen)
	}
}

// R4, R8: who changes results changes neither the position nor what equal calls return.
func TestEqualCalls(t *testing.T) {
	for _, p := range positions(t) {
		n, _ := state.Normal(p)
		f, _ := state.Flip(p)
		n.Board[0], f.Board[0] = 99, 99
		n.EP, f.Castle = 99, 99
		expect(t, p)
	}
}
