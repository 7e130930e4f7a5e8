package keys_test

import (
	"math"
	"testing"

	"tempo/api"
	"tempo/keys"
	"tempo/mix"
)

const (
	count         = 781
	letters       = 0x74656D706F
	maxUint       = uint64(math.MaxUint64)
	gap           = 0x9E3779B97F4A7C15 // how far the numbers of a seed are apart before they are mixed
	lettersInTens = 499917877359
)

// blocks has the pieces in the order of their keys: by kinds, the black piece of each first.
var blocks = []int{7, 1, 8, 2, 9, 3, 10, 4, 11, 5, 12, 6}

// seeds returns seeds at the edges, and others.
func seeds() []uint64 {
	return []uint64{0, 1, 2, 7, letters - 1, letters, letters + 1, gap, 1<<64 - gap, 1 << 32, 1 << 63, maxUint - 1, maxUint}
}

// edges returns numbers far outside of all ranges, and those around them.
func edges() []int {
	out := []int{math.MinInt, math.MinInt + 1, math.MinInt32, math.MaxInt32, math.MaxInt - 1, math.MaxInt, 1 << 32, 1<<32 + 1, 1 << 40, -1 << 40}
	for n := -20; n <= 800; n++ {
		out = append(out, n)
	}
	return out
}

// table returns a table, and fails if there is none.
func table(t *testing.T, kind int, seed uint64) *keys.Table {
	t.Helper()
	out, e := keys.Of(kind, seed)
	if out == nil || e != api.OK {
		t.Fatalf("Of(%d, %X) = %v, %d", kind, seed, out, e)
	}
	return out
}

// invalid returns what is no table that Of returned, by names.
func invalid(t *testing.T) map[string]*keys.Table {
	value := *table(t, api.Standard, 0)
	zeros := *table(t, api.Zero, 0)
	none, _ := keys.Of(3, 0)
	return map[string]*keys.Table{
		"nil":                                nil,
		"zero":                               {},
		"new":                                new(keys.Table),
		"the copy of a struct":               &value,
		"the copy of a struct full of zeros": &zeros,
		"a table of no kind":                 none,
	}
}

// checkKeys fails if the keys of a table are not those that want returns.
func checkKeys(t *testing.T, name string, x *keys.Table, want func(i int) uint64) {
	t.Helper()
	for i := range count {
		if k, e := x.Key(i); k != want(i) || e != api.OK {
			t.Errorf("%s: Key(%d) = %X, %d; want %X", name, i, k, e, want(i))
		}
	}
}

// folded returns the xor of all keys of a table, and their sum, in which each key counts one more time than the one before it.
func folded(t *testing.T, x *keys.Table) (xor, sum uint64) {
	t.Helper()
	for i := range count {
		k, e := x.Key(i)
		if e != api.OK {
			t.Errorf("Key(%d): %d", i, e)
		}
		xor ^= k
		sum += uint64(i+1) * k
	}
	return xor, sum
}

// The chapter's examples.
func TestExamples(t *testing.T) {
	for _, x := range []struct {
		piece, square, want int
		e                   api.Errno
	}{
		{7, 0, 0, api.OK},
		{1, 0, 64, api.OK},
		{6, 63, 767, api.OK},
		{12, 5, 645, api.OK},
		{0, 0, 0, api.ErrRange},
		{13, 0, 0, api.ErrRange},
		{1, 64, 0, api.ErrRange},
		{1, -1, 0, api.ErrRange},
	} {
		if i, e := keys.Piece(x.piece, x.square); i != x.want || e != x.e {
			t.Errorf("Piece(%d, %d) = %d, %d; want %d, %d", x.piece, x.square, i, e, x.want, x.e)
		}
	}
	for right, want := range map[int]int{1: 768, 8: 771} {
		if i, e := keys.Castle(right); i != want || e != api.OK {
			t.Errorf("Castle(%d) = %d, %d", right, i, e)
		}
	}
	if i, e := keys.Castle(3); i != 0 || e != api.ErrRange {
		t.Errorf("Castle(3) = %d, %d", i, e)
	}
	for file, want := range map[int]int{0: 772, 7: 779} {
		if i, e := keys.EnPassant(file); i != want || e != api.OK {
			t.Errorf("EnPassant(%d) = %d, %d", file, i, e)
		}
	}
	if i, e := keys.EnPassant(8); i != 0 || e != api.ErrRange {
		t.Errorf("EnPassant(8) = %d, %d", i, e)
	}
	if i := keys.Turn(); i != 780 {
		t.Errorf("Turn = %d", i)
	}
}

// The chapter's examples of tables.
func TestExamplesOfTables(t *testing.T) {
	if x, e := keys.Of(3, 0); x != nil || e != api.ErrArg {
		t.Errorf("Of(3, 0) = %v, %d", x, e)
	}
	if k, e := table(t, api.Standard, 0).Key(781); k != 0 || e != api.ErrRange {
		t.Errorf("Key(781) = %X, %d", k, e)
	}
	if k, e := table(t, api.Zero, 0).Key(5); k != 0 || e != api.OK {
		t.Errorf("Key(5) of Zero = %X, %d", k, e)
	}
	if !keys.Same(table(t, api.Standard, 0), table(t, api.Seeded, lettersInTens)) {
		t.Error("the standard table is not the one with its seed")
	}
}

// P4.1: keys that were computed by another program.
func TestKeys(t *testing.T) {
	at := []int{0, 1, 63, 64, 767, 768, 771, 772, 779, 780}
	for _, x := range []struct {
		name     string
		kind     int
		seed     uint64
		want     []uint64
		xor, sum uint64
	}{
		{"standard", api.Standard, 0, []uint64{
			0x6012BFCA8FEA75FE, 0x25D68C65D7F32265, 0xDB093353608766EF, 0x537FFF52D789400B, 0x6F7F55B320C132DD,
			0x51961D1E2DAD40D4, 0x5A4C95A1ACD897BB, 0x1A0D51144F78A9B0, 0x6CF7CD6E6D39C527, 0xF2E12019F9DFD9EA,
		}, 0xBD97DEF4E8931080, 0x253EBEDAA750A542},
		{"the seed 0", api.Seeded, 0, []uint64{
			0xE220A8397B1DCDAF, 0x6E789E6AA1B965F4, 0xE255B237B8BB18FB, 0x2A7B67AF6C6AD50E, 0x862CAF81E41A1A19,
			0x1C787A8631A3CC4C, 0x5B1C44F240A786DF, 0xDD2E5D6F2B4B30D5, 0xCBD18EBCD1F9B00D, 0xCC5D77CDFDF2F139,
		}, 0xC2113644361F6236, 0xA0FE97F0ADFFB6AD},
		{"the seed 7", api.Seeded, 7, []uint64{
			0x63CBE1E459320DD7, 0x044C3CD7F43C661C, 0x66CD25813E9B65B8, 0x76A3DEC45265C099, 0xA5CDE5C70E1617A3,
			0x93A8DA7022266AF0, 0xF2A15FF0F0C7B0A2, 0x16242BDE0D6F7518, 0x2A28344CDCC22FB1, 0x8C87613C9C8A96F4,
		}, 0xCF0C3EE82CB00919, 0x30F63BA92151FD02},
		{"the greatest seed", api.Seeded, maxUint, []uint64{
			0xE4D971771B652C20, 0xE99FF867DBF682C9, 0xF63B7B9046FEA981, 0x536703AC09AF3436, 0x92BF22C58F59CA7D,
			0x2D8BA9B3E2AD6CA8, 0x58D1567F70048670, 0xEEC22780250327FC, 0x713F2FEB1DF95FD0, 0xBF7A11D06A2A5710,
		}, 0x5580850F2CA9F17D, 0x1AC9F672F8D98638},
	} {
		made := table(t, x.kind, x.seed)
		for i, want := range x.want {
			if k, e := made.Key(at[i]); k != want || e != api.OK {
				t.Errorf("%s: Key(%d) = %X, %d; want %X", x.name, at[i], k, e, want)
			}
		}
		if xor, sum := folded(t, made); xor != x.xor || sum != x.sum {
			t.Errorf("%s: all keys are folded to %X and %X; want %X and %X", x.name, xor, sum, x.xor, x.sum)
		}
	}
}

// P4.1: the key with an index is the number with this index. For Seeded the seed matters, for the other kinds it does not.
func TestKeysAreTheNumbers(t *testing.T) {
	for _, seed := range seeds() {
		checkKeys(t, "Standard", table(t, api.Standard, seed), func(i int) uint64 { return mix.At(letters, uint64(i)) })
		checkKeys(t, "Zero", table(t, api.Zero, seed), func(int) uint64 { return 0 })
		checkKeys(t, "Seeded", table(t, api.Seeded, seed), func(i int) uint64 { return mix.At(seed, uint64(i)) })
	}
}

// P4.1: the constants of package api are the kinds of the chapter.
func TestKinds(t *testing.T) {
	checkKeys(t, "kind 0", table(t, 0, 5), func(i int) uint64 { return mix.At(letters, uint64(i)) })
	checkKeys(t, "kind 1", table(t, 1, 5), func(int) uint64 { return 0 })
	checkKeys(t, "kind 2", table(t, 2, 5), func(i int) uint64 { return mix.At(5, uint64(i)) })
}

// P4.1
func TestOfErrors(t *testing.T) {
	for _, kind := range edges() {
		if kind >= 0 && kind <= 2 {
			continue
		}
		for _, seed := range []uint64{0, 1, letters, maxUint} {
			if x, e := keys.Of(kind, seed); x != nil || e != api.ErrArg {
				t.Errorf("Of(%d, %X) = %v, %d", kind, seed, x, e)
			}
		}
	}
}

// P4.1
func TestKeyErrors(t *testing.T) {
	for kind := range 3 {
		x := table(t, kind, 9)
		for _, i := range edges() {
			if i >= 0 && i < count {
				continue
			}
			if k, e := x.Key(i); k != 0 || e != api.ErrRange {
				t.Errorf("kind %d: Key(%d) = %X, %d", kind, i, k, e)
			}
		}
		for _, i := range []int{0, count - 1} {
			if _, e := x.Key(i); e != api.OK {
				t.Errorf("kind %d: Key(%d): %d", kind, i, e)
			}
		}
	}
}

// P4.1, R2: whether the table is valid is judged before the index.
func TestKeyOfNoTable(t *testing.T) {
	for name, x := range invalid(t) {
		for _, i := range []int{math.MinInt, -1, 0, 5, 780, 781, 999, math.MaxInt} {
			if k, e := x.Key(i); k != 0 || e != api.ErrNil {
				t.Errorf("%s: Key(%d) = %X, %d", name, i, k, e)
			}
		}
	}
}

// P4.2
func TestPiece(t *testing.T) {
	want := 0
	for _, piece := range blocks {
		for square := range 64 {
			if i, e := keys.Piece(piece, square); i != want || e != api.OK {
				t.Errorf("Piece(%d, %d) = %d, %d; want %d", piece, square, i, e, want)
			}
			want++
		}
	}
	if want != 768 {
		t.Errorf("%d indexes of pieces", want)
	}
}

// P4.2: the formula of the chapter.
func TestPieceIsTheFormula(t *testing.T) {
	for color := range 2 {
		for kind := api.Pawn; kind <= api.King; kind++ {
			k := 2 * (kind - 1)
			if color == api.White {
				k++
			}
			for square := range 64 {
				if i, e := keys.Piece(kind+6*color, square); i != 64*k+square || e != api.OK {
					t.Errorf("color %d, kind %d, square %d: %d, %d", color, kind, square, i, e)
				}
			}
		}
	}
}

// P4.2: a piece, a square, or both that there are not.
func TestPieceErrors(t *testing.T) {
	for _, n := range edges() {
		for inside := 1; inside <= 12; inside++ {
			if n >= 0 && n <= 63 {
				break
			}
			if i, e := keys.Piece(inside, n); i != 0 || e != api.ErrRange {
				t.Errorf("Piece(%d, %d) = %d, %d", inside, n, i, e)
			}
		}
		if n >= 1 && n <= 12 {
			continue
		}
		for _, square := range []int{math.MinInt, -64, -1, 0, 1, 31, 62, 63, 64, 128, math.MaxInt} {
			if i, e := keys.Piece(n, square); i != 0 || e != api.ErrRange {
				t.Errorf("Piece(%d, %d) = %d, %d", n, square, i, e)
			}
		}
	}
}

// P4.2
func TestCastle(t *testing.T) {
	want := map[int]int{api.WhiteShort: 768, api.WhiteLong: 769, api.BlackShort: 770, api.BlackLong: 771}
	for _, right := range edges() {
		index, is := want[right]
		e := api.ErrRange
		if is {
			e = api.OK
		}
		if i, got := keys.Castle(right); i != index || got != e {
			t.Errorf("Castle(%d) = %d, %d; want %d, %d", right, i, got, index, e)
		}
	}
}

// P4.2
func TestEnPassant(t *testing.T) {
	for _, file := range edges() {
		want, e := 0, api.ErrRange
		if file >= 0 && file <= 7 {
			want, e = 772+file, api.OK
		}
		if i, got := keys.EnPassant(file); i != want || got != e {
			t.Errorf("EnPassant(%d) = %d, %d; want %d, %d", file, i, got, want, e)
		}
	}
}

// P4.2
func TestTurn(t *testing.T) {
	for range 2 {
		if i := keys.Turn(); i != 780 {
			t.Errorf("Turn = %d", i)
		}
	}
	if _, e := table(t, api.Standard, 0).Key(keys.Turn()); e != api.OK {
		t.Errorf("the side to move has no key: %d", e)
	}
}

// P4.3: tables are the same if and only if Key returns the same for all indexes.
func TestSame(t *testing.T) {
	var all []*keys.Table
	for kind := range 3 {
		for _, seed := range seeds() {
			all = append(all, table(t, kind, seed))
		}
	}
	for _, a := range all {
		for _, b := range all {
			want := true
			for i := range count {
				k, _ := a.Key(i)
				l, _ := b.Key(i)
				want = want && k == l
			}
			if is := keys.Same(a, b); is != want {
				xor, _ := folded(t, a)
				other, _ := folded(t, b)
				t.Errorf("Same = %t; the keys are folded to %X and %X", is, xor, other)
			}
		}
	}
}

// P4.3: tables whose keys are those of neighbouring indexes, or of a neighbouring seed; and one whose first key is 0, which are not all zeros.
func TestAlmostSame(t *testing.T) {
	zero, standard := table(t, api.Zero, 0), table(t, api.Standard, 0)
	firstIsZero := uint64(1<<64 - gap)
	if k, _ := table(t, api.Seeded, firstIsZero).Key(0); k != 0 {
		t.Fatalf("the first key is %X", k)
	}
	for _, x := range []struct {
		name string
		a, b *keys.Table
	}{
		{"shifted by an index", standard, table(t, api.Seeded, letters+gap)},
		{"the seed below", standard, table(t, api.Seeded, letters-1)},
		{"the seed above", standard, table(t, api.Seeded, letters+1)},
		{"the first key", zero, table(t, api.Seeded, firstIsZero)},
		{"the standard table and zeros", standard, zero},
	} {
		if keys.Same(x.a, x.b) || keys.Same(x.b, x.a) {
			t.Errorf("%s: the tables are the same", x.name)
		}
	}
}

// P4.3, R2: what is no table is not the same as anything, not even as itself.
func TestSameOfNoTable(t *testing.T) {
	standard, zero := table(t, api.Standard, 0), table(t, api.Zero, 0)
	for name, x := range invalid(t) {
		if keys.Same(x, standard) || keys.Same(standard, x) || keys.Same(x, zero) || keys.Same(zero, x) {
			t.Errorf("%s is the same as a table", name)
		}
		for other, y := range invalid(t) {
			if keys.Same(x, y) {
				t.Errorf("%s is the same as %s", name, other)
			}
		}
		if keys.Same(x, x) {
			t.Errorf("%s is the same as itself", name)
		}
	}
}

// P4.4
func TestEachIndexHasOneRole(t *testing.T) {
	var roles [count]int
	take := func(i int, e api.Errno) {
		if e != api.OK || i < 0 || i >= count {
			t.Fatalf("index %d, %d", i, e)
		}
		roles[i]++
	}
	for piece := 1; piece <= 12; piece++ {
		for square := range 64 {
			take(keys.Piece(piece, square))
		}
	}
	for _, right := range []int{api.WhiteShort, api.WhiteLong, api.BlackShort, api.BlackLong} {
		take(keys.Castle(right))
	}
	for file := range 8 {
		take(keys.EnPassant(file))
	}
	take(keys.Turn(), api.OK)
	for i, n := range roles {
		if n != 1 {
			t.Errorf("index %d has %d roles", i, n)
		}
	}
}

// P4.5
func TestSameKindAndSeed(t *testing.T) {
	for kind := range 3 {
		for _, seed := range seeds() {
			a, b := table(t, kind, seed), table(t, kind, seed)
			if a == b {
				t.Errorf("kind %d, seed %X: the same memory is returned again", kind, seed)
			}
			if !keys.Same(a, b) || !keys.Same(a, a) {
				t.Errorf("kind %d, seed %X: not the same", kind, seed)
			}
		}
	}
	for _, seed := range seeds() {
		if !keys.Same(table(t, api.Standard, seed), table(t, api.Seeded, letters)) {
			t.Errorf("Standard with %X is not the table with the seed of the standard table", seed)
		}
		if keys.Same(table(t, api.Standard, seed), table(t, api.Seeded, seed)) != (seed == letters) {
			t.Errorf("Standard with %X, and Seeded", seed)
		}
		if !keys.Same(table(t, api.Zero, seed), table(t, api.Zero, 0)) {
			t.Errorf("Zero with %X is not Zero", seed)
		}
	}
}

// P4.5: all keys of Zero are 0, and no two keys of the other tables are equal.
func TestKeysOfATableDiffer(t *testing.T) {
	checkKeys(t, "Zero", table(t, api.Zero, letters), func(int) uint64 { return 0 })
	others := []*keys.Table{table(t, api.Standard, 0)}
	for _, seed := range seeds() {
		others = append(others, table(t, api.Seeded, seed))
	}
	for _, x := range others {
		byKey := map[uint64]int{}
		for i := range count {
			k, _ := x.Key(i)
			if other, have := byKey[k]; have {
				t.Errorf("the keys %d and %d are %X", other, i, k)
			}
			byKey[k] = i
		}
	}
}

// R8: what was called before changes nothing.
func TestEqualCalls(t *testing.T) {
	x := table(t, api.Seeded, 11)
	xor, sum := folded(t, x)
	for seed := range uint64(50) {
		table(t, api.Seeded, seed)
		keys.Of(-1, seed)
		x.Key(-1)
		keys.Same(x, nil)
	}
	if again, sumAgain := folded(t, x); again != xor || sumAgain != sum {
		t.Error("the keys have changed")
	}
	if !keys.Same(x, table(t, api.Seeded, 11)) {
		t.Error("the table has changed")
	}
}
