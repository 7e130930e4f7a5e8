package square_test

import (
	"math"
	"regexp"
	"slices"
	"strings"
	"testing"

	"tempo/api"
	"tempo/square"
)

const squares = 64

// allNames are the names of all squares, from 0 on.
const allNames = "a1 b1 c1 d1 e1 f1 g1 h1 " +
	"a2 b2 c2 d2 e2 f2 g2 h2 " +
	"a3 b3 c3 d3 e3 f3 g3 h3 " +
	"a4 b4 c4 d4 e4 f4 g4 h4 " +
	"a5 b5 c5 d5 e5 f5 g5 h5 " +
	"a6 b6 c6 d6 e6 f6 g6 h6 " +
	"a7 b7 c7 d7 e7 f7 g7 h7 " +
	"a8 b8 c8 d8 e8 f8 g8 h8"

// colors are the colors of all squares, from 0 on: d is dark, l is light.
const colors = "dldldldl" + "ldldldld" + "dldldldl" + "ldldldld" + "dldldldl" + "ldldldld" + "dldldldl" + "ldldldld"

var (
	isName = regexp.MustCompile(`\A[a-h][1-8]\z`)
	isList = regexp.MustCompile(`\A([a-h][1-8](,[a-h][1-8])*)?\z`)
)

// names returns the names of all squares, from 0 on.
func names() []string { return strings.Fields(allNames) }

func isSquare(n int) bool { return n >= 0 && n <= 63 }

func isLine(n int) bool { return n >= 0 && n <= 7 }

// edges returns numbers far outside of the squares, the squares, and the numbers around them. Some of the far ones would be inside if they were cut to 8, 16 or 32 bits, or if their sum with another number overflowed.
func edges() []int {
	out := []int{
		math.MinInt, math.MinInt + 1, math.MinInt + 7, math.MinInt + 8, math.MinInt + 63, math.MinInt + 64,
		math.MaxInt - 64, math.MaxInt - 63, math.MaxInt - 8, math.MaxInt - 7, math.MaxInt - 1, math.MaxInt,
		math.MinInt32 - 1, math.MinInt32, math.MinInt32 + 5, math.MaxInt32, math.MaxInt32 + 1,
		1 << 8, 1<<8 + 5, -1<<8 + 5, 1<<16 + 5, -1<<16 + 5, 1 << 32, 1<<32 + 5, -1<<32 + 5, 1<<32 - 1, 1 << 40, 1 << 61, 1<<61 + 5, 1 << 62, -1 << 62,
	}
	for n := -140; n <= 140; n++ {
		out = append(out, n)
	}
	return out
}

// off returns the edges that are no squares.
func off() []int { return slices.DeleteFunc(edges(), isSquare) }

// notNames returns strings that are no names: of other characters, lengths and encodings.
func notNames() []string {
	return []string{
		"", " ", "e", "4", "E", ",", "-", "\x00",
		"E4", "A1", "H8", "i1", "i8", "`1", "`8", "@1", "I1", "e0", "e9", "a0", "a9", "h0", "h9", "e/", "e:",
		"ee", "44", "4e", "1a", "  ", " e", "e ", " 4", "4 ", "--", "e-", "-4", "e\n", "\n4", "e\x00", "\x004", "e,", ",4", ",,",
		"e44", "ee4", "e4e", "e4 ", " e4", "e 4", "e4\n", "\ne4", "e4\x00", "\x00e4", "e4,", ",e4", "e-4", "e+4", "e04", "e10", "a11", "e4e4", "e4-e5", "Ne4", "e4=", "e4+",
		"\xff4", "e\xff", "\xff\xff", "\xe54", "e\xb4", "\xe5\xb4", "\x80\x80", "e4\xff", "\xffe4", "\xc3", "e\xc3",
		"\u00e94", "e\u0664", "\u00e9", "\u00e9\u00e9", "\u04354", "e\u00b9", "e\u00b2", "\uff45\uff14", "\uff454", "e\uff14", "\u0161", "\u01654", "e\u0134", "\u0165\u0134", "\U000100654", "e\U00010034", "e\u0301", "e4\u0301", "\ufeffe4", "e\u200d4",
		strings.Repeat("e4", 1000), strings.Repeat("e", 100000), strings.Repeat("\xff", 100000),
	}
}

// refused fails if a string is decoded as a name.
func refused(t *testing.T, s string) {
	t.Helper()
	if x, e := square.Parse(s); x != 0 || e != api.ErrForm {
		t.Errorf("Parse(%q) = %d, %d", s, x, e)
	}
}

// refusedList fails if a string is decoded as a list.
func refusedList(t *testing.T, s string) {
	t.Helper()
	if l, e := square.List(s); len(l) != 0 || e != api.ErrForm {
		t.Errorf("List(%q) = %v, %d", s, l, e)
	}
}

// P7.1, the chapter's examples: Name and Parse.
func TestExamplesOfNames(t *testing.T) {
	for _, x := range []struct {
		square int
		name   string
		e      api.Errno
	}{{0, "a1", api.OK}, {12, "e2", api.OK}, {63, "h8", api.OK}, {64, "", api.ErrRange}, {-1, "", api.ErrRange}} {
		if name, e := square.Name(x.square); name != x.name || e != x.e {
			t.Errorf("Name(%d) = %q, %d; want %q, %d", x.square, name, e, x.name, x.e)
		}
	}
	if x, e := square.Parse("e4"); x != 28 || e != api.OK {
		t.Errorf("Parse(e4) = %d, %d", x, e)
	}
	for _, s := range []string{"E4", "e9", "e0", "i1", "e", "e44", ""} {
		refused(t, s)
	}
}

// P7.2 to P7.4, the chapter's examples: At, File, Rank, Light and Flip.
func TestExamplesOfSquares(t *testing.T) {
	for _, x := range []struct {
		file, rank, square int
		e                  api.Errno
	}{{4, 3, 28, api.OK}, {8, 0, 0, api.ErrRange}, {0, -1, 0, api.ErrRange}} {
		if s, e := square.At(x.file, x.rank); s != x.square || e != x.e {
			t.Errorf("At(%d, %d) = %d, %d; want %d, %d", x.file, x.rank, s, e, x.square, x.e)
		}
	}
	if square.File(28) != 4 || square.Rank(28) != 3 || square.File(64) != -1 || square.Rank(-1) != -1 {
		t.Errorf("File(28) = %d, Rank(28) = %d, File(64) = %d, Rank(-1) = %d", square.File(28), square.Rank(28), square.File(64), square.Rank(-1))
	}
	if square.Light(0) || !square.Light(7) || !square.Light(28) || square.Light(64) {
		t.Errorf("Light: %t, %t, %t, %t", square.Light(0), square.Light(7), square.Light(28), square.Light(64))
	}
	for _, x := range [][2]int{{12, 52}, {0, 56}} {
		if s, e := square.Flip(x[0]); s != x[1] || e != api.OK {
			t.Errorf("Flip(%d) = %d, %d; want %d", x[0], s, e, x[1])
		}
	}
}

// P7.5, the chapter's examples: List.
func TestExamplesOfLists(t *testing.T) {
	if l, e := square.List("e1,e8,e1"); !slices.Equal(l, []int{4, 60, 4}) || e != api.OK {
		t.Errorf("List(e1,e8,e1) = %v, %d", l, e)
	}
	if l, e := square.List(""); len(l) != 0 || e != api.OK {
		t.Errorf("List of an empty string = %v, %d", l, e)
	}
	for _, s := range []string{"e1,", ",", "e1 ,e2"} {
		refusedList(t, s)
	}
}

// P7.1
func TestName(t *testing.T) {
	for s, want := range names() {
		if name, e := square.Name(s); name != want || e != api.OK {
			t.Errorf("Name(%d) = %q, %d; want %q", s, name, e, want)
		}
	}
	for _, n := range off() {
		if name, e := square.Name(n); name != "" || e != api.ErrRange {
			t.Errorf("Name(%d) = %q, %d", n, name, e)
		}
	}
}

// P7.1
func TestParse(t *testing.T) {
	for want, name := range names() {
		if s, e := square.Parse(name); s != want || e != api.OK {
			t.Errorf("Parse(%q) = %d, %d; want %d", name, s, e, want)
		}
	}
	for _, s := range notNames() {
		refused(t, s)
	}
}

// P7.1: all strings of two bytes.
func TestParseTwoBytes(t *testing.T) {
	for a := range 256 {
		for b := range 256 {
			s := string([]byte{byte(a), byte(b)})
			if !isName.MatchString(s) {
				refused(t, s)
			} else if n, e := square.Parse(s); n != slices.Index(names(), s) || e != api.OK {
				t.Errorf("Parse(%q) = %d, %d", s, n, e)
			}
		}
	}
}

// P7.1: names that are too short by a byte, or too long by one; wherever it is.
func TestParseAnotherLength(t *testing.T) {
	for c := range 256 {
		b := string([]byte{byte(c)})
		refused(t, b)
		for _, name := range []string{"a1", "e4", "h8"} {
			refused(t, b+name)
			refused(t, name[:1]+b+name[1:])
			refused(t, name+b)
		}
	}
}

// P7.2
func TestAt(t *testing.T) {
	for _, file := range edges() {
		for _, rank := range edges() {
			want, wantErr := 0, api.ErrRange
			if isLine(file) && isLine(rank) {
				want, wantErr = 8*rank+file, api.OK
			}
			if s, e := square.At(file, rank); s != want || e != wantErr {
				t.Errorf("At(%d, %d) = %d, %d; want %d, %d", file, rank, s, e, want, wantErr)
			}
		}
	}
}

// P7.2: files and ranks whose square would be one, or would be one behind an overflow, were it computed all the same.
func TestAtOfNoFileOrRank(t *testing.T) {
	for _, x := range [][2]int{
		{8, 0}, {-1, 0}, {0, 8}, {0, -1}, {-1, 1}, {8, 6}, {63, 0}, {28, 0}, {-8, 1}, {-56, 7}, {64, -8}, {60, -7},
		{0, 1 << 61}, {4, 1 << 61}, {4, 1<<61 + 3}, {4, -1 << 61}, {1 << 62, 1 << 62}, {math.MinInt, 0}, {0, math.MinInt}, {math.MaxInt, 0}, {0, math.MaxInt}, {math.MinInt, math.MinInt}, {math.MaxInt, math.MaxInt},
	} {
		if s, e := square.At(x[0], x[1]); s != 0 || e != api.ErrRange {
			t.Errorf("At(%d, %d) = %d, %d", x[0], x[1], s, e)
		}
	}
}

// P7.2: what the name says, by its letter and its digit.
func TestFileAndRank(t *testing.T) {
	for s, name := range names() {
		if file, rank := square.File(s), square.Rank(s); file != strings.Index("abcdefgh", name[:1]) || rank != strings.Index("12345678", name[1:]) {
			t.Errorf("%s: File(%d) = %d, Rank(%d) = %d", name, s, file, s, rank)
		}
	}
	for _, n := range off() {
		if file, rank := square.File(n), square.Rank(n); file != api.NoSquare || rank != api.NoSquare {
			t.Errorf("File(%d) = %d, Rank(%d) = %d", n, file, n, rank)
		}
	}
}

// P7.2: each square is found again from its file and its rank, and these from it.
func TestSquaresFilesAndRanks(t *testing.T) {
	for s := range squares {
		if at, e := square.At(square.File(s), square.Rank(s)); at != s || e != api.OK {
			t.Errorf("At(File(%d), Rank(%d)) = %d, %d", s, s, at, e)
		}
	}
	for file := range 8 {
		for rank := range 8 {
			s, e := square.At(file, rank)
			if e != api.OK || square.File(s) != file || square.Rank(s) != rank {
				t.Errorf("At(%d, %d) = %d, %d, with the file %d and the rank %d", file, rank, s, e, square.File(s), square.Rank(s))
			}
		}
	}
}

// P7.3
func TestLight(t *testing.T) {
	for s := range squares {
		if want := colors[s] == 'l'; square.Light(s) != want {
			t.Errorf("Light(%d) = %t", s, !want)
		}
	}
	for _, n := range off() {
		if square.Light(n) {
			t.Errorf("Light(%d) = true", n)
		}
	}
}

// P7.3: two squares side by side have different colors, those on a diagonal the same.
func TestLightOfNeighbours(t *testing.T) {
	for s := range squares {
		if s%8 < 7 && square.Light(s) == square.Light(s+1) {
			t.Errorf("%d and %d have the same color", s, s+1)
		}
		if s/8 < 7 && square.Light(s) == square.Light(s+8) {
			t.Errorf("%d and %d have the same color", s, s+8)
		}
		if s%8 < 7 && s/8 < 7 && square.Light(s) != square.Light(s+9) {
			t.Errorf("%d and %d have different colors", s, s+9)
		}
	}
}

// P7.4
func TestFlip(t *testing.T) {
	for rank, row := range []int{56, 48, 40, 32, 24, 16, 8, 0} {
		for file := range 8 {
			if s, e := square.Flip(8*rank + file); s != row+file || e != api.OK {
				t.Errorf("Flip(%d) = %d, %d; want %d", 8*rank+file, s, e, row+file)
			}
		}
	}
	for _, n := range off() {
		if s, e := square.Flip(n); s != 0 || e != api.ErrRange {
			t.Errorf("Flip(%d) = %d, %d", n, s, e)
		}
	}
}

// P7.5: in the order of the names, and as often as they are there.
func TestList(t *testing.T) {
	for _, x := range []struct {
		s    string
		want []int
	}{
		{"", nil},
		{"a1", []int{0}},
		{"h8", []int{63}},
		{"e4", []int{28}},
		{"a1,h8", []int{0, 63}},
		{"h8,a1", []int{63, 0}},
		{"e4,e4", []int{28, 28}},
		{"a1,a1,a1,a1", []int{0, 0, 0, 0}},
		{"h8,e4,a1,e4,h8", []int{63, 28, 0, 28, 63}},
		{"c3,b2,a1,d4,h8", []int{18, 9, 0, 27, 63}},
	} {
		if l, e := square.List(x.s); !slices.Equal(l, x.want) || e != api.OK {
			t.Errorf("List(%q) = %v, %d; want %v", x.s, l, e, x.want)
		}
	}
	all := names()
	for i, name := range all {
		for j, other := range all {
			if l, e := square.List(name + "," + other); !slices.Equal(l, []int{i, j}) || e != api.OK {
				t.Errorf("List(%s,%s) = %v, %d", name, other, l, e)
			}
		}
	}
}

// P7.5: lists that are long, and those that are long and have their error at the end.
func TestLongLists(t *testing.T) {
	all := names()
	list := strings.Join(all, ",")
	var want []int
	for s := range squares {
		want = append(want, s)
	}
	if l, e := square.List(list); !slices.Equal(l, want) || e != api.OK {
		t.Errorf("List(%q) = %v, %d", list, l, e)
	}
	slices.Reverse(all)
	slices.Reverse(want)
	for times := 1; times <= 4096; times *= 8 {
		long := strings.Join(slices.Repeat(all, times), ",")
		if l, e := square.List(long); !slices.Equal(l, slices.Repeat(want, times)) || e != api.OK {
			t.Errorf("a list of %d names: %d squares, %d", 64*times, len(l), e)
		}
		for _, end := range []string{",", " ", "1", ",a", ",a9", ",a1,", ",,a1", "\n"} {
			if l, e := square.List(long + end); len(l) != 0 || e != api.ErrForm {
				t.Errorf("a list of %d names, and %q: %d squares, %d", 64*times, end, len(l), e)
			}
		}
	}
}

// P7.5
func TestListErrors(t *testing.T) {
	for _, s := range []string{
		",", ",,", ",,,", " ", "  ", " ,", ", ", "\n", "\x00", "\xff",
		",e1", "e1,", ",e1,", "e1,,e2", "e1,,", ",,e1", "e1,e2,", ",e1,e2", "e1,,,e2", "e1,e2,,e3", "e1,,e2,e3",
		" e1", "e1 ", "e1 ,e2", "e1, e2", "e1 , e2", "e1 e2", "e1, ", " ,e1", "e1,e2 ", " e1,e2", "e1,\te2", "e1,e2\n", "e1,\ne2", "e1\r,e2",
		"e1;e2", "e1.e2", "e1-e2", "e1/e2", "e1\x00e2", "e1\uff0ce2", "e1\u060ce2", "e1\u201ae2", "e1\xffe2", "e1e2", "e1e2,e3", "e1,e2e3", "[e1,e2]", "\"e1\"", "'e1','e2'",
		"e9", "E1", "E1,e1", "e1,E1", "e1,e9", "e0,e1", "i1,e1", "e1,i1", "e1,e", "e,e1", "1,e1", "e1,1", "e1,e11", "e11,e1", "e1,-,e2", "-", "e1,\xff1", "\xff1,e1", "e1,e\u0661", "e\u0661,e1",
	} {
		refusedList(t, s)
	}
}

// P7.5: a part that is no name, wherever it is in the list.
func TestListWithAPartThatIsNoName(t *testing.T) {
	for _, part := range notNames() {
		// Some of these strings are lists of their own.
		if !isList.MatchString(part) {
			refusedList(t, part)
		}
		for _, s := range []string{part + ",e1", "e1," + part, "e1," + part + ",e8", part + ",e1,e8", "e1,e8," + part, part + "," + part} {
			if isList.MatchString(s) {
				t.Errorf("the test's own list %q is one", s)
			}
			refusedList(t, s)
		}
	}
}

// decoded returns the squares of a list that is one.
func decoded(s string) []int {
	var out []int
	for i := 0; i < len(s); i += 3 {
		out = append(out, slices.Index(names(), s[i:i+2]))
	}
	return out
}

// P7.5: lists that differ from one in one byte: another one, one more, or one less.
func TestListWithAnotherByte(t *testing.T) {
	check := func(s string) {
		if !isList.MatchString(s) {
			refusedList(t, s)
		} else if l, e := square.List(s); !slices.Equal(l, decoded(s)) || e != api.OK {
			t.Errorf("List(%q) = %v, %d; want %v", s, l, e, decoded(s))
		}
	}
	for _, list := range []string{"e4", "e1,e8,e1", "a1,h8,d5,d5,c2"} {
		for i := range len(list) + 1 {
			if i < len(list) {
				check(list[:i] + list[i+1:])
			}
			for c := range 256 {
				b := string([]byte{byte(c)})
				check(list[:i] + b + list[i:])
				if i < len(list) {
					check(list[:i] + b + list[i+1:])
				}
			}
		}
	}
}

// R4: a result is new memory, also between its length and its capacity.
func TestListIsNewMemory(t *testing.T) {
	first, _ := square.List("e1,e8,e1")
	second, _ := square.List("e1,e8,e1")
	clear(first[:cap(first)])
	third, e := square.List("e1,e8,e1")
	if want := []int{4, 60, 4}; !slices.Equal(second, want) || !slices.Equal(third, want) || e != api.OK {
		t.Errorf("behind a result was changed: %v, %v, %d", second, third, e)
	}
}

// P7.6: each square is decoded from its name, and no two squares have the same one.
func TestSquaresAreDecodedFromTheirNames(t *testing.T) {
	squareOf := map[string]int{}
	for s := range squares {
		name, e := square.Name(s)
		if e != api.OK {
			t.Errorf("Name(%d): %d", s, e)
		}
		if other, is := squareOf[name]; is {
			t.Errorf("%d and %d have the name %q", other, s, name)
		}
		squareOf[name] = s
		if got, e := square.Parse(name); got != s || e != api.OK {
			t.Errorf("%d has the name %q, which is decoded to %d, %d", s, name, got, e)
		}
		if l, e := square.List(name); !slices.Equal(l, []int{s}) || e != api.OK {
			t.Errorf("%d has the name %q, which as a list is decoded to %v, %d", s, name, l, e)
		}
	}
}

// P7.6: strings that Parse accepts are the names of what it returns. They are looked for among all of up to two characters near to letters and digits, and among those that are no names.
func TestStringsThatParseAcceptsAreNames(t *testing.T) {
	candidates := append(notNames(), names()...)
	for a := rune(0); a < 0x180; a++ {
		candidates = append(candidates, string(a))
		for b := rune(0); b < 0x180; b++ {
			candidates = append(candidates, string([]rune{a, b}))
		}
	}
	accepted := map[string]bool{}
	for _, s := range candidates {
		x, e := square.Parse(s)
		if e != api.OK {
			continue
		}
		accepted[s] = true
		if name, e := square.Name(x); name != s || e != api.OK {
			t.Errorf("Parse(%q) = %d, which has the name %q, %d", s, x, name, e)
		}
	}
	if len(accepted) != squares {
		t.Errorf("%d strings are accepted", len(accepted))
	}
}

// P7.7
func TestFlipOfFlip(t *testing.T) {
	for s := range squares {
		once, e := square.Flip(s)
		twice, f := square.Flip(once)
		if twice != s || once == s || e != api.OK || f != api.OK {
			t.Errorf("Flip(%d) = %d, %d; Flip of this = %d, %d", s, once, e, twice, f)
		}
		if square.Light(once) == square.Light(s) {
			t.Errorf("%d and its flipped square %d have the same color", s, once)
		}
		if square.File(once) != square.File(s) || square.Rank(once) != 7-square.Rank(s) {
			t.Errorf("Flip(%d) = %d, with the file %d and the rank %d", s, once, square.File(once), square.Rank(once))
		}
	}
}
