package gauss_test

import (
	"math"
	"slices"
	"testing"

	"tempo/api"
	"tempo/gauss"
)

const squares = 64

// way is a step by files and ranks, as integers: what the tests compute does not depend on complex numbers.
type way struct{ files, ranks int }

// lines are the steps of a queen, in their order.
var lines = []way{{1, 0}, {0, 1}, {-1, 0}, {0, -1}, {1, 1}, {-1, 1}, {-1, -1}, {1, -1}}

// hops are the steps of a knight, in their order.
var hops = []way{{2, 1}, {-1, 2}, {-2, -1}, {1, -2}, {1, 2}, {-2, 1}, {-1, -2}, {2, -1}}

// waysOf returns the steps of a kind.
func waysOf(kind int) []way {
	switch kind {
	case 2:
		return hops
	case 3:
		return lines[4:]
	case 4:
		return lines[:4]
	case 5, 6:
		return lines
	}
	return nil
}

// step returns a way as a complex number.
func (w way) step() complex128 { return complex(float64(w.files), float64(w.ranks)) }

// from returns where a way leads from a square, if there is a square.
func (w way) from(square int) (int, bool) {
	file, rank := square%8+w.files, square/8+w.ranks
	if !isSquare(square) || file < 0 || file > 7 || rank < 0 || rank > 7 {
		return 0, false
	}
	return 8*rank + file, true
}

// ray returns the squares to which a way leads from a square, again and again.
func (w way) ray(square int) []int {
	var out []int
	for times := 1; times < 8 && w != (way{}); times++ {
		to, is := way{times * w.files, times * w.ranks}.from(square)
		if !is {
			break
		}
		out = append(out, to)
	}
	return out
}

// ways returns all steps with parts from -n to n.
func ways(n int) []way {
	var out []way
	for files := -n; files <= n; files++ {
		for ranks := -n; ranks <= n; ranks++ {
			out = append(out, way{files, ranks})
		}
	}
	return out
}

// line returns the way from one square to another one in a line, and the squares between them.
func line(a, b int) (way, []int, bool) {
	files, ranks := b%8-a%8, b/8-a/8
	if !isSquare(a) || !isSquare(b) || a == b || files != 0 && ranks != 0 && files != ranks && files != -ranks {
		return way{}, nil, false
	}
	w := way{sign(files), sign(ranks)}
	var between []int
	for square := a + 8*w.ranks + w.files; square != b; square += 8*w.ranks + w.files {
		between = append(between, square)
	}
	return w, between, true
}

// distance returns how far one square is from another one.
func distance(a, b int) int {
	return max(a%8-b%8, b%8-a%8, a/8-b/8, b/8-a/8)
}

func sign(n int) int {
	return min(max(n, -1), 1)
}

func isSquare(n int) bool { return n >= 0 && n <= 63 }

// edges returns numbers far outside of the squares, the squares, and the numbers around them. Some of the far ones would be inside if they were cut to 8, 16 or 32 bits, or to their sign and few bits.
func edges() []int {
	out := []int{
		math.MinInt, math.MinInt + 1, math.MinInt + 2, math.MinInt + 3, math.MinInt + 8, math.MinInt + 63, math.MinInt + 64,
		math.MaxInt - 64, math.MaxInt - 63, math.MaxInt - 8, math.MaxInt - 3, math.MaxInt - 2, math.MaxInt - 1, math.MaxInt,
		math.MinInt32 - 1, math.MinInt32, math.MaxInt32, math.MaxInt32 + 1,
		1<<8 + 9, -1<<8 + 9, 1<<16 + 9, -1<<16 + 9, 1<<32 + 9, -1<<32 + 9, 1<<32 - 1, 1 << 53, 1<<53 + 1, 1<<62 + 1, -1 << 62,
	}
	for n := -140; n <= 140; n++ {
		out = append(out, n)
	}
	return out
}

// off returns the edges that are no squares.
func off() []int { return slices.DeleteFunc(edges(), isSquare) }

// notWhole returns parts of complex numbers that are no integers. Added to a small integer, some of them would be lost.
func notWhole() []float64 {
	return []float64{
		math.NaN(), math.Inf(1), math.Inf(-1), 0.5, -0.5, 1.5, 6.5, 7.5, 0.1, 6.999999999999999, 7.000000000000001, 0.9999999999999999, 1.0000000000000002,
		math.SmallestNonzeroFloat64, -math.SmallestNonzeroFloat64, 1e-300, -1e-300, 1e-17, -1e-17, 4294967296.5, -2147483647.5,
	}
}

// farWhole returns parts that are integers of no square and far away; some would be inside if they were cut to fewer bits.
func farWhole() []float64 {
	return []float64{
		8, -1, 9, -7, -8, 15, 16, 63, 64, -64, 255, 256, 257, -255, 1 << 16, 1<<16 + 1, 1 << 31, -1 << 31, 1 << 32, 1<<32 + 3, -1<<32 + 3,
		1 << 53, 1 << 61, 1 << 62, -1 << 62, 1 << 63, -1 << 63, 1 << 64, -1 << 64, 1 << 80, 1e300, -1e300, math.MaxFloat64, -math.MaxFloat64,
	}
}

// number returns the complex number of a square.
func number(square int) complex128 {
	return complex(float64(square%8), float64(square/8))
}

// samePart reports whether two parts are the same: both are NaN, or they are equal.
func samePart(x, y float64) bool {
	return x == y || math.IsNaN(x) && math.IsNaN(y)
}

func same(z, y complex128) bool {
	return samePart(real(z), real(y)) && samePart(imag(z), imag(y))
}

// P6.1, the chapter's examples: At and Square.
func TestExamplesOfNumbers(t *testing.T) {
	for _, x := range []struct {
		square int
		z      complex128
		e      api.Errno
	}{{0, 0, api.OK}, {63, 7 + 7i, api.OK}, {10, 2 + 1i, api.OK}, {64, 0, api.ErrRange}} {
		if z, e := gauss.At(x.square); z != x.z || e != x.e {
			t.Errorf("At(%d) = %v, %d; want %v, %d", x.square, z, e, x.z, x.e)
		}
	}
	for _, x := range []struct {
		z      complex128
		square int
		is     bool
	}{{2 + 1i, 10, true}, {7.5, 0, false}, {8, 0, false}, {-1 + 1i, 0, false}, {complex(math.NaN(), 0), 0, false}, {complex(0, math.NaN()), 0, false}} {
		if square, is := gauss.Square(x.z); square != x.square || is != x.is {
			t.Errorf("Square(%v) = %d, %t; want %d, %t", x.z, square, is, x.square, x.is)
		}
	}
}

// P6.2, P6.3, the chapter's examples: Turn, Jump and Ray.
func TestExamplesOfSteps(t *testing.T) {
	for _, x := range []struct {
		quarters int
		want     complex128
	}{{1, -1 + 2i}, {-1, 1 - 2i}, {2, -2 - 1i}, {1001, -1 + 2i}} {
		if z := gauss.Turn(2+1i, x.quarters); z != x.want {
			t.Errorf("Turn(2+1i, %d) = %v; want %v", x.quarters, z, x.want)
		}
	}
	for _, x := range []struct {
		square int
		step   complex128
		to     int
		is     bool
	}{{0, 1 + 1i, 9, true}, {0, -1, 0, false}, {0, 0.5, 0, false}, {63, 0, 63, true}} {
		if to, is := gauss.Jump(x.square, x.step); to != x.to || is != x.is {
			t.Errorf("Jump(%d, %v) = %d, %t; want %d, %t", x.square, x.step, to, is, x.to, x.is)
		}
	}
	for _, x := range []struct {
		square int
		step   complex128
		want   []int
	}{{0, 1 + 1i, []int{9, 18, 27, 36, 45, 54, 63}}, {3, 2 + 1i, []int{13, 23}}, {7, 1, nil}, {5, 0, nil}} {
		if ray := gauss.Ray(x.square, x.step); !slices.Equal(ray, x.want) {
			t.Errorf("Ray(%d, %v) = %v; want %v", x.square, x.step, ray, x.want)
		}
	}
}

// P6.4, P6.5, the chapter's examples: Aligned, Between and Distance.
func TestExamplesOfLines(t *testing.T) {
	for _, x := range []struct {
		a, b int
		step complex128
		is   bool
	}{{0, 27, 1 + 1i, true}, {27, 0, -1 - 1i, true}, {0, 17, 0, false}, {5, 5, 0, false}} {
		if step, is := gauss.Aligned(x.a, x.b); step != x.step || is != x.is {
			t.Errorf("Aligned(%d, %d) = %v, %t; want %v, %t", x.a, x.b, step, is, x.step, x.is)
		}
	}
	for _, x := range []struct {
		a, b int
		want []int
	}{{0, 27, []int{9, 18}}, {27, 0, []int{18, 9}}, {0, 9, nil}, {0, 17, nil}} {
		if between := gauss.Between(x.a, x.b); !slices.Equal(between, x.want) {
			t.Errorf("Between(%d, %d) = %v; want %v", x.a, x.b, between, x.want)
		}
	}
	for _, x := range []struct {
		a, b, want int
		e          api.Errno
	}{{0, 63, 7, api.OK}, {0, 17, 2, api.OK}, {8, 8, 0, api.OK}, {0, -1, 0, api.ErrRange}} {
		if n, e := gauss.Distance(x.a, x.b); n != x.want || e != x.e {
			t.Errorf("Distance(%d, %d) = %d, %d; want %d, %d", x.a, x.b, n, e, x.want, x.e)
		}
	}
}

// P6.1
func TestAt(t *testing.T) {
	for _, n := range edges() {
		var want complex128
		wantErr := api.ErrRange
		if isSquare(n) {
			want, wantErr = number(n), api.OK
		}
		if z, e := gauss.At(n); z != want || e != wantErr {
			t.Errorf("At(%d) = %v, %d; want %v, %d", n, z, e, want, wantErr)
		}
	}
}

// P6.1: whole numbers, of which only those with parts from 0 to 7 have squares.
func TestSquareOfWholeNumbers(t *testing.T) {
	for _, w := range ways(70) {
		want, wantIs := w.from(0)
		if square, is := gauss.Square(w.step()); square != want || is != wantIs {
			t.Errorf("Square(%v) = %d, %t; want %d, %t", w.step(), square, is, want, wantIs)
		}
	}
	minus := math.Copysign(0, -1)
	for line := range 8 {
		if square, is := gauss.Square(complex(minus, float64(line))); square != 8*line || !is {
			t.Errorf("Square(-0 + %di) = %d, %t", line, square, is)
		}
		if square, is := gauss.Square(complex(float64(line), minus)); square != line || !is {
			t.Errorf("Square(%d - 0i) = %d, %t", line, square, is)
		}
	}
}

// P6.1: numbers with a part that is no integer, or is far outside of the board.
func TestSquareOfOthers(t *testing.T) {
	bad := append(notWhole(), farWhole()...)
	for _, x := range bad {
		for _, y := range append([]float64{0, 1, 3, 6, 7}, bad...) {
			for _, z := range []complex128{complex(x, y), complex(y, x)} {
				if square, is := gauss.Square(z); square != 0 || is {
					t.Errorf("Square(%v) = %d, %t", z, square, is)
				}
			}
		}
	}
}

// turned returns what the definition says of a number turned by 0 to 3 quarters.
func turned(z complex128, quarters int) complex128 {
	x, y := real(z), imag(z)
	switch quarters {
	case 1:
		return complex(-y, x)
	case 2:
		return complex(-x, -y)
	case 3:
		return complex(y, -x)
	}
	return z
}

// parts returns parts of all sorts.
func parts() []float64 {
	return append([]float64{0, 1, -1, 2, -3, 7, 12345, -0.25, 1e-5}, append(notWhole(), farWhole()...)...)
}

// P6.2: all sorts of parts, by any numbers of quarters.
func TestTurn(t *testing.T) {
	for _, x := range parts() {
		for _, y := range parts() {
			z := complex(x, y)
			for n := -9; n <= 9; n++ {
				if got, want := gauss.Turn(z, n), turned(z, (n+12)%4); !same(got, want) {
					t.Errorf("Turn(%v, %d) = %v; want %v", z, n, got, want)
				}
			}
		}
	}
	for _, n := range edges() {
		for _, z := range []complex128{2 + 1i, -5 + 0.5i, 3, complex(math.Inf(-1), 4), complex(4, math.NaN())} {
			if got, want := gauss.Turn(z, n), turned(z, (n%4+4)%4); !same(got, want) {
				t.Errorf("Turn(%v, %d) = %v; want %v", z, n, got, want)
			}
		}
	}
}

// P6.2: the least and the greatest numbers of quarters.
func TestTurnByExtremes(t *testing.T) {
	for _, x := range []struct {
		quarters int
		want     complex128
	}{
		{math.MinInt, 2 + 1i}, {math.MinInt + 1, -1 + 2i}, {math.MinInt + 2, -2 - 1i}, {math.MinInt + 3, 1 - 2i},
		{math.MaxInt, 1 - 2i}, {math.MaxInt - 1, -2 - 1i}, {math.MaxInt - 2, -1 + 2i}, {math.MaxInt - 3, 2 + 1i},
		{1 << 32, 2 + 1i}, {1<<32 + 1, -1 + 2i}, {-1<<32 - 1, 1 - 2i}, {-5, 1 - 2i}, {-6, -2 - 1i}, {-7, -1 + 2i}, {-8, 2 + 1i},
	} {
		if z := gauss.Turn(2+1i, x.quarters); z != x.want {
			t.Errorf("Turn(2+1i, %d) = %v; want %v", x.quarters, z, x.want)
		}
	}
}

// P6.2: parts that are infinite or NaN do nothing to the other part, and nothing is lost when they are turned.
func TestTurnOfInfinities(t *testing.T) {
	inf, nan := math.Inf(1), math.NaN()
	for _, x := range []struct {
		z        complex128
		quarters int
		want     complex128
	}{
		{complex(inf, 5), 1, complex(-5, inf)},
		{complex(inf, 5), 2, complex(-inf, -5)},
		{complex(inf, 5), 3, complex(5, -inf)},
		{complex(5, inf), 1, complex(-inf, 5)},
		{complex(0, inf), 3, complex(inf, 0)},
		{complex(inf, 0), 1, complex(0, inf)},
		{complex(inf, -inf), 1, complex(inf, inf)},
		{complex(-inf, -inf), 1, complex(inf, -inf)},
		{complex(nan, 5), 1, complex(-5, nan)},
		{complex(nan, 5), 2, complex(nan, -5)},
		{complex(5, nan), -1, complex(nan, -5)},
		{complex(nan, inf), 1, complex(-inf, nan)},
		{complex(nan, nan), 1, complex(nan, nan)},
		{complex(nan, 5), 4, complex(nan, 5)},
		{complex(-inf, 5), -400, complex(-inf, 5)},
	} {
		if z := gauss.Turn(x.z, x.quarters); !same(z, x.want) {
			t.Errorf("Turn(%v, %d) = %v; want %v", x.z, x.quarters, z, x.want)
		}
	}
}

// P6.2: the steps of each kind, and of numbers that are none.
func TestSteps(t *testing.T) {
	for _, kind := range edges() {
		var want []complex128
		for _, w := range waysOf(kind) {
			want = append(want, w.step())
		}
		if steps := gauss.Steps(kind); !slices.Equal(steps, want) {
			t.Errorf("Steps(%d) = %v; want %v", kind, steps, want)
		}
	}
}

// P6.2: the table of the definitions.
func TestTableOfSteps(t *testing.T) {
	for _, x := range []struct {
		kind int
		want []complex128
	}{
		{api.Rook, []complex128{1, 1i, -1, -1i}},
		{api.Bishop, []complex128{1 + 1i, -1 + 1i, -1 - 1i, 1 - 1i}},
		{api.Queen, []complex128{1, 1i, -1, -1i, 1 + 1i, -1 + 1i, -1 - 1i, 1 - 1i}},
		{api.King, []complex128{1, 1i, -1, -1i, 1 + 1i, -1 + 1i, -1 - 1i, 1 - 1i}},
		{api.Knight, []complex128{2 + 1i, -1 + 2i, -2 - 1i, 1 - 2i, 1 + 2i, -2 + 1i, -1 - 2i, 2 - 1i}},
		{api.Pawn, nil},
		{0, nil},
		{7, nil},
		{-1, nil},
	} {
		if steps := gauss.Steps(x.kind); !slices.Equal(steps, x.want) {
			t.Errorf("Steps(%d) = %v; want %v", x.kind, steps, x.want)
		}
	}
}

// R4: results are new memory, also between their length and their capacity.
func TestResultsAreNewMemory(t *testing.T) {
	for kind := 2; kind <= 6; kind++ {
		want := slices.Clone(gauss.Steps(kind))
		steps := gauss.Steps(kind)
		clear(steps[:cap(steps)])
		for other := 2; other <= 6; other++ {
			if l := gauss.Steps(other); slices.Contains(l, 0) || other == kind && !slices.Equal(l, want) {
				t.Errorf("Steps(%d) = %v, behind those of %d were changed", other, l, kind)
			}
		}
	}
	for _, w := range lines {
		for square := range squares {
			want := w.ray(square)
			ray := gauss.Ray(square, w.step())
			clear(ray[:cap(ray)])
			if l := gauss.Ray(square, w.step()); !slices.Equal(l, want) {
				t.Errorf("Ray(%d, %v) = %v, behind a result was changed; want %v", square, w.step(), l, want)
			}
		}
	}
	for a := range squares {
		for b := range squares {
			_, want, _ := line(a, b)
			between := gauss.Between(a, b)
			clear(between[:cap(between)])
			if l := gauss.Between(a, b); !slices.Equal(l, want) {
				t.Errorf("Between(%d, %d) = %v, behind a result was changed; want %v", a, b, l, want)
			}
		}
	}
}

// P6.3: whole steps, of which some lead from one edge of the board to another one.
func TestJump(t *testing.T) {
	for square := range squares {
		for _, w := range ways(17) {
			want, wantIs := w.from(square)
			if to, is := gauss.Jump(square, w.step()); to != want || is != wantIs {
				t.Errorf("Jump(%d, %v) = %d, %t; want %d, %t", square, w.step(), to, is, want, wantIs)
			}
		}
	}
}

// P6.3
func TestRay(t *testing.T) {
	for square := range squares {
		for _, w := range ways(17) {
			if ray, want := gauss.Ray(square, w.step()), w.ray(square); !slices.Equal(ray, want) {
				t.Errorf("Ray(%d, %v) = %v; want %v", square, w.step(), ray, want)
			}
		}
	}
}

// P6.3: the step 0, with either sign of its parts.
func TestStepZero(t *testing.T) {
	minus := math.Copysign(0, -1)
	for _, step := range []complex128{0, complex(minus, 0), complex(0, minus), complex(minus, minus)} {
		for _, n := range edges() {
			want := n
			if !isSquare(n) {
				want = 0
			}
			if to, is := gauss.Jump(n, step); to != want || is != isSquare(n) {
				t.Errorf("Jump(%d, %v) = %d, %t", n, step, to, is)
			}
			if ray := gauss.Ray(n, step); len(ray) != 0 {
				t.Errorf("Ray(%d, %v) = %v", n, step, ray)
			}
		}
	}
	for _, step := range []complex128{complex(minus, 1), complex(1, minus)} {
		want := way{int(real(step)), int(imag(step))}.ray(9)
		if ray := gauss.Ray(9, step); !slices.Equal(ray, want) {
			t.Errorf("Ray(9, %v) = %v; want %v", step, ray, want)
		}
	}
}

// stays fails if a step leads anywhere from a square.
func stays(t *testing.T, square int, step complex128) {
	t.Helper()
	if to, is := gauss.Jump(square, step); to != 0 || is {
		t.Errorf("Jump(%d, %v) = %d, %t", square, step, to, is)
	}
	if ray := gauss.Ray(square, step); len(ray) != 0 {
		t.Errorf("Ray(%d, %v) = %v", square, step, ray)
	}
}

// P6.3: steps that are not whole, also those that would be lost in a sum with the number of the square, and those of which a multiple is whole; and steps that lead far away.
func TestOtherSteps(t *testing.T) {
	bad := append(notWhole(), 1<<32, -1<<32, 1<<32+1, 1<<53, 1<<63, -1<<63, 1<<64, 1e300, -1e300, math.MaxFloat64, -math.MaxFloat64)
	for _, square := range append([]int{0, 1, 7, 8, 9, 27, 36, 54, 56, 63}, off()...) {
		for _, x := range bad {
			for _, y := range []float64{0, 1, -1, 2, -7, 0.5, math.NaN(), math.Inf(1), math.SmallestNonzeroFloat64} {
				stays(t, square, complex(x, y))
				stays(t, square, complex(y, x))
			}
		}
	}
}

// P6.3: from numbers that are no squares nothing is reached, also where the sum would be on the board.
func TestStepsFromNoSquare(t *testing.T) {
	for _, n := range off() {
		for _, w := range ways(9) {
			stays(t, n, w.step())
		}
	}
	for _, w := range ways(70) {
		stays(t, 64, w.step())
		stays(t, -1, w.step())
	}
}

// P6.4
func TestAlignedAndBetween(t *testing.T) {
	for a := range squares {
		for b := range squares {
			w, wantBetween, wantIs := line(a, b)
			if step, is := gauss.Aligned(a, b); step != w.step() || is != wantIs {
				t.Errorf("Aligned(%d, %d) = %v, %t; want %v, %t", a, b, step, is, w.step(), wantIs)
			}
			if between := gauss.Between(a, b); !slices.Equal(between, wantBetween) {
				t.Errorf("Between(%d, %d) = %v; want %v", a, b, between, wantBetween)
			}
		}
	}
}

// P6.4: numbers that are no squares, with each other too.
func TestNoLines(t *testing.T) {
	for _, n := range off() {
		for _, other := range append(edges(), n) {
			for _, x := range [][2]int{{n, other}, {other, n}} {
				if step, is := gauss.Aligned(x[0], x[1]); step != 0 || is {
					t.Errorf("Aligned(%d, %d) = %v, %t", x[0], x[1], step, is)
				}
				if between := gauss.Between(x[0], x[1]); len(between) != 0 {
					t.Errorf("Between(%d, %d) = %v", x[0], x[1], between)
				}
			}
		}
	}
}

// P6.5
func TestDistance(t *testing.T) {
	for _, a := range edges() {
		for _, b := range edges() {
			want, wantErr := 0, api.ErrRange
			if isSquare(a) && isSquare(b) {
				want, wantErr = distance(a, b), api.OK
			}
			if n, e := gauss.Distance(a, b); n != want || e != wantErr {
				t.Errorf("Distance(%d, %d) = %d, %d; want %d, %d", a, b, n, e, want, wantErr)
			}
		}
	}
}

// P6.6: numbers whose parts are NaN are the same here if the same parts are.
func TestFourQuartersAreNothing(t *testing.T) {
	for _, x := range parts() {
		for _, y := range parts() {
			z := complex(x, y)
			once := z
			for range 4 {
				once = gauss.Turn(once, 1)
			}
			if !same(once, z) || !same(gauss.Turn(z, 4), z) || !same(gauss.Turn(z, -4), z) || !same(gauss.Turn(z, 0), z) {
				t.Errorf("%v, turned four times: %v; by 4, -4 and 0: %v, %v, %v", z, once, gauss.Turn(z, 4), gauss.Turn(z, -4), gauss.Turn(z, 0))
			}
		}
	}
}

// P6.6
func TestTurnedStepsAreSteps(t *testing.T) {
	byParts := func(z, y complex128) int {
		return int(real(z)-real(y))*8 + int(imag(z)-imag(y))
	}
	for kind := -1; kind <= 8; kind++ {
		for quarters := -4; quarters <= 4; quarters++ {
			steps := gauss.Steps(kind)
			other := gauss.Steps(kind)
			for i, step := range other {
				other[i] = gauss.Turn(step, quarters)
			}
			if quarters%4 != 0 && len(steps) > 0 && slices.Equal(steps, other) {
				t.Errorf("the steps of %d, turned by %d, are in the same order", kind, quarters)
			}
			slices.SortFunc(steps, byParts)
			slices.SortFunc(other, byParts)
			if !slices.Equal(steps, other) {
				t.Errorf("the steps of %d are %v; turned by %d they are %v", kind, steps, quarters, other)
			}
		}
	}
}

// P6.6
func TestTurnsOneAfterTheOther(t *testing.T) {
	for _, z := range []complex128{2 + 1i, -3, 0.5i, 1e300 - 1e-300i, complex(math.Inf(1), -2), complex(3, math.NaN())} {
		for a := -9; a <= 9; a++ {
			for b := -9; b <= 9; b++ {
				if got, want := gauss.Turn(gauss.Turn(z, a), b), gauss.Turn(z, a+b); !same(got, want) {
					t.Errorf("%v, turned by %d and %d: %v; by their sum: %v", z, a, b, got, want)
				}
			}
		}
		for _, a := range []int{math.MinInt, math.MinInt + 1, math.MinInt + 2, math.MaxInt, math.MaxInt - 1, math.MaxInt - 2} {
			// a and b differ in their signs, so their sum does not overflow.
			b := -(a / 3)
			if got, want := gauss.Turn(gauss.Turn(z, a), b), gauss.Turn(z, a+b); !same(got, want) {
				t.Errorf("%v, turned by %d and %d: %v; by their sum: %v", z, a, b, got, want)
			}
		}
	}
}

// P6.7
func TestJumpsBack(t *testing.T) {
	for square := range squares {
		for _, w := range ways(8) {
			to, is := gauss.Jump(square, w.step())
			if !is {
				continue
			}
			if back, isBack := gauss.Jump(to, gauss.Turn(w.step(), 2)); back != square || !isBack {
				t.Errorf("from %d by %v to %d, and back to %d, %t", square, w.step(), to, back, isBack)
			}
		}
	}
}

// reached returns the squares that a kind reaches in one jump, in order.
func reached(square, kind int) []int {
	var out []int
	for _, step := range gauss.Steps(kind) {
		if to, is := gauss.Jump(square, step); is {
			out = append(out, to)
		}
	}
	slices.Sort(out)
	return out
}

// P6.7
func TestSquaresOfKingsAndKnights(t *testing.T) {
	for square := range squares {
		var near, others []int
		for other := range squares {
			n, _ := gauss.Distance(square, other)
			if n == 1 {
				near = append(near, other)
			}
			if _, aligned := gauss.Aligned(square, other); n == 2 && !aligned {
				others = append(others, other)
			}
		}
		if king := reached(square, api.King); !slices.Equal(king, near) {
			t.Errorf("a king on %d reaches %v; at the distance 1 are %v", square, king, near)
		}
		if knight := reached(square, api.Knight); !slices.Equal(knight, others) {
			t.Errorf("a knight on %d reaches %v; at the distance 2, but not aligned, are %v", square, knight, others)
		}
	}
}

// P6.8
func TestLines(t *testing.T) {
	for a := range squares {
		for b := range squares {
			step, is := gauss.Aligned(a, b)
			between := gauss.Between(a, b)
			back, isBack := gauss.Aligned(b, a)
			if is != isBack || back != gauss.Turn(step, 2) {
				t.Errorf("%d and %d: %v, %t; back: %v, %t", a, b, step, is, back, isBack)
			}
			opposite := gauss.Between(b, a)
			slices.Reverse(opposite)
			if !slices.Equal(between, opposite) {
				t.Errorf("%d and %d: between them are %v; in the opposite order %v", a, b, between, opposite)
			}
			if !is {
				continue
			}
			ray := gauss.Ray(a, step)
			n := len(between)
			if len(ray) <= n || ray[n] != b || !slices.Equal(ray[:n], between) {
				t.Errorf("%d and %d: between them are %v, on the ray of %v are %v", a, b, between, step, ray)
			}
			if far, e := gauss.Distance(a, b); n != far-1 || e != api.OK {
				t.Errorf("%d and %d: between them are %v, but the distance is %d, %d", a, b, between, far, e)
			}
		}
	}
}

// P6.9
func TestDistances(t *testing.T) {
	var far [squares][squares]int
	for a := range squares {
		for b := range squares {
			far[a][b], _ = gauss.Distance(a, b)
		}
	}
	for a := range squares {
		for b := range squares {
			if (far[a][b] == 0) != (a == b) || far[a][b] != far[b][a] {
				t.Errorf("from %d to %d: %d; back: %d", a, b, far[a][b], far[b][a])
			}
			for c := range squares {
				if far[a][b] > far[a][c]+far[c][b] {
					t.Errorf("from %d to %d: %d; by way of %d: %d and %d", a, b, far[a][b], c, far[a][c], far[c][b])
				}
			}
		}
	}
}

// P1: no arguments let a function panic, or go on forever.
func TestAnyArguments(t *testing.T) {
	for _, n := range edges() {
		for _, x := range parts() {
			for _, y := range parts() {
				z := complex(x, y)
				gauss.Square(z)
				gauss.Turn(z, n)
				gauss.Jump(n, z)
				if ray := gauss.Ray(n, z); len(ray) > 7 {
					t.Errorf("Ray(%d, %v) = %v", n, z, ray)
				}
			}
		}
	}
}
