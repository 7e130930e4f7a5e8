package mix_test

import (
	"math"
	"math/big"
	"math/rand"
	"testing"

	"tempo/api"
	"tempo/mix"
)

const (
	maxUint = uint64(math.MaxUint64)
	gap     = 0x9E3779B97F4A7C15
)

// numbers returns the numbers at all edges (powers of two and their neighbours), and some others; always the same ones.
func numbers() []uint64 {
	out := []uint64{0, maxUint, 0x74656D706F, 1234567, gap, 1<<64 - gap}
	for bit := range 64 {
		power := uint64(1) << bit
		out = append(out, power-1, power, power+1)
	}
	random := rand.New(rand.NewSource(1))
	for range 100 {
		out = append(out, random.Uint64()>>random.Intn(64))
	}
	return out
}

// number returns the number of a seed with an index by the definition, with numbers of any size.
func number(seed, i uint64) uint64 {
	z := new(big.Int).SetUint64(i)
	z.Add(z, big.NewInt(1))
	z.Mul(z, new(big.Int).SetUint64(gap))
	z.Add(z, new(big.Int).SetUint64(seed))
	z = modulo(z)
	z = modulo(multiplied(xored(z, 30), 0xBF58476D1CE4E5B9))
	z = modulo(multiplied(xored(z, 27), 0x94D049BB133111EB))
	return xored(z, 31).Uint64()
}

// modulo returns the remainder of a division by 2^64.
func modulo(z *big.Int) *big.Int {
	return new(big.Int).Mod(z, new(big.Int).Lsh(big.NewInt(1), 64))
}

func multiplied(z *big.Int, factor uint64) *big.Int {
	return new(big.Int).Mul(z, new(big.Int).SetUint64(factor))
}

// xored returns z xor z >> shift.
func xored(z *big.Int, shift uint) *big.Int {
	return new(big.Int).Xor(z, new(big.Int).Rsh(z, shift))
}

// unmixed returns the only number that is z when it is mixed: the steps are undone, the last one first.
func unmixed(z uint64) uint64 {
	z = unxored(z, 31) * inverse(0x94D049BB133111EB)
	z = unxored(z, 27) * inverse(0xBF58476D1CE4E5B9)
	return unxored(z, 30)
}

// unxored returns the number that is z when it is xored with itself, shifted to the right. Its upper bits are those of z, and each round finds as many again.
func unxored(z uint64, shift uint) uint64 {
	n := z
	for range 64 / shift {
		n = z ^ n>>shift
	}
	return n
}

// inverse returns the number whose product with an odd factor is 1, modulo 2^64.
func inverse(factor uint64) uint64 {
	bound := new(big.Int).Lsh(big.NewInt(1), 64)
	return new(big.Int).ModInverse(new(big.Int).SetUint64(factor), bound).Uint64()
}

// checkDraws draws a few numbers, and fails if they are not those of the seed from the position on.
func checkDraws(t *testing.T, name string, m *mix.Mix, seed, pos uint64) {
	t.Helper()
	for i := pos; i < pos+5; i++ {
		if m.Pos() != i {
			t.Errorf("%s: seed %X: Pos = %d; want %d", name, seed, m.Pos(), i)
		}
		if n := m.Next(); n != number(seed, i) {
			t.Errorf("%s: seed %X: the number %d is %X; want %X", name, seed, i, n, number(seed, i))
		}
	}
}

// The chapter's examples.
func TestExamples(t *testing.T) {
	m := mix.New(0)
	for i, want := range []uint64{0xE220A8397B1DCDAF, 0x6E789E6AA1B965F4, 0x06C45D188009454F} {
		if n := m.Next(); n != want {
			t.Errorf("call %d of Next = %X; want %X", i, n, want)
		}
	}
	if n := mix.At(0, 0); n != 0xE220A8397B1DCDAF {
		t.Errorf("At(0, 0) = %X", n)
	}
	if n := mix.At(0, 2); n != 0x06C45D188009454F {
		t.Errorf("At(0, 2) = %X", n)
	}
	m = mix.New(0)
	if n, e := m.Below(10); n != 5 || e != api.OK || m.Pos() != 1 {
		t.Errorf("Below(10) = %d, %d; Pos = %d", n, e, m.Pos())
	}
	for _, none := range []int{0, -1} {
		if n, e := m.Below(none); n != 0 || e != api.ErrArg || m.Pos() != 1 {
			t.Errorf("Below(%d) = %d, %d; Pos = %d", none, n, e, m.Pos())
		}
	}
}

// P3.1
func TestNew(t *testing.T) {
	for _, seed := range numbers() {
		m := mix.New(seed)
		if m == nil || m.Pos() != 0 {
			t.Fatalf("New(%X) is at %d", seed, m.Pos())
		}
		checkDraws(t, "New", m, seed, 0)
	}
}

// P3.1: generators with the same seed have nothing in common.
func TestNewIsIndependent(t *testing.T) {
	a, b, other := mix.New(5), mix.New(5), mix.New(6)
	a.Next()
	a.Below(9)
	other.Next()
	if a.Pos() != 2 || b.Pos() != 0 || other.Pos() != 1 {
		t.Errorf("positions %d, %d, %d", a.Pos(), b.Pos(), other.Pos())
	}
	checkDraws(t, "the second one", b, 5, 0)
	checkDraws(t, "the first one", a, 5, 2)
	checkDraws(t, "the other one", other, 6, 1)
}

// P3.1: the position grows by 1 for each number that is drawn, and by nothing else.
func TestPos(t *testing.T) {
	m := mix.New(77)
	for i := range uint64(300) {
		for range 2 {
			if m.Pos() != i {
				t.Fatalf("Pos = %d; want %d", m.Pos(), i)
			}
		}
		m.Copy().Next()
		m.Below(-int(i))
		mix.At(77, i)
		if i%3 == 0 {
			m.Below(int(i) + 1)
		} else {
			m.Next()
		}
	}
}

// P3.1
func TestCopy(t *testing.T) {
	for _, seed := range []uint64{0, 7, 1 << 63, maxUint} {
		for pos := range uint64(6) {
			m := mix.New(seed)
			for range pos {
				m.Next()
			}
			first := m.Copy()
			second := first.Copy()
			if first == m || second == first {
				t.Fatal("a copy is the generator itself")
			}
			checkDraws(t, "copy", first, seed, pos)
			checkDraws(t, "copy of a copy", second, seed, pos)
			checkDraws(t, "copied", m, seed, pos)
			checkDraws(t, "copy, later", first, seed, pos+5)
			checkDraws(t, "copy of what has drawn", m.Copy(), seed, pos+5)
		}
	}
}

// P3.1: what is drawn from a generator changes nothing in its copies.
func TestCopyStays(t *testing.T) {
	m := mix.New(9)
	m.Next()
	c := m.Copy()
	for range 10 {
		m.Next()
		m.Below(3)
	}
	if m.Pos() != 21 || c.Pos() != 1 {
		t.Errorf("positions %d, %d", m.Pos(), c.Pos())
	}
	checkDraws(t, "copy", c, 9, 1)
}

// P3.2
func TestNext(t *testing.T) {
	m := mix.New(1234567)
	for i, want := range []uint64{6457827717110365317, 3203168211198807973, 9817491932198370423, 4593380528125082431, 16408922859458223821} {
		if n := m.Next(); n != want || m.Pos() != uint64(i+1) {
			t.Errorf("call %d of Next = %d; want %d; Pos = %d", i, n, want, m.Pos())
		}
	}
}

// P3.2: Next goes on behind what Below has drawn.
func TestNextBehindBelow(t *testing.T) {
	m := mix.New(3)
	m.Below(2)
	if n := m.Next(); n != number(3, 1) {
		t.Errorf("behind Below(2): %X", n)
	}
	m.Below(0)
	if n := m.Next(); n != number(3, 2) {
		t.Errorf("behind Below(0): %X", n)
	}
}

// P3.3
func TestBelow(t *testing.T) {
	for _, n := range []int{1, 2, 3, 4, 10, 64, 100, 1000, 65535, math.MaxInt32, math.MaxInt32 + 1, 1 << 62, math.MaxInt - 1, math.MaxInt} {
		for _, seed := range []uint64{0, 1, 1 << 63, maxUint} {
			m := mix.New(seed)
			for i := range uint64(40) {
				want := int(number(seed, i) % uint64(n))
				if got, e := m.Below(n); got != want || e != api.OK {
					t.Errorf("seed %X, index %d: Below(%d) = %d, %d; want %d", seed, i, n, got, e, want)
				}
				if m.Pos() != i+1 {
					t.Errorf("Pos = %d; want %d", m.Pos(), i+1)
				}
			}
		}
	}
}

// P3.3: with an error no number is drawn.
func TestBelowErrors(t *testing.T) {
	m := mix.New(4)
	for i := range uint64(4) {
		for _, n := range []int{0, -1, -2, -10, math.MinInt32, math.MinInt + 1, math.MinInt} {
			if got, e := m.Below(n); got != 0 || e != api.ErrArg || m.Pos() != i {
				t.Errorf("Below(%d) = %d, %d; Pos = %d", n, got, e, m.Pos())
			}
		}
		if n := m.Next(); n != number(4, i) {
			t.Errorf("behind errors: the number %d is %X; want %X", i, n, number(4, i))
		}
	}
}

// P3.3: Below(1) returns 0, but draws a number.
func TestBelowOne(t *testing.T) {
	m := mix.New(8)
	for i := range uint64(20) {
		if n, e := m.Below(1); n != 0 || e != api.OK || m.Pos() != i+1 {
			t.Errorf("Below(1) = %d, %d; Pos = %d", n, e, m.Pos())
		}
	}
}

// P3.4
func TestAt(t *testing.T) {
	all := numbers()
	for _, seed := range all {
		for _, i := range all {
			if n := mix.At(seed, i); n != number(seed, i) {
				t.Errorf("At(%X, %X) = %X; want %X", seed, i, n, number(seed, i))
			}
		}
	}
}

// P3.4: the index behind the greatest one would be 0 times the gap, and 0 is mixed to 0.
func TestAtTheGreatestIndex(t *testing.T) {
	if n := mix.At(0, maxUint); n != 0 {
		t.Errorf("At(0, 2^64 - 1) = %X", n)
	}
	for _, seed := range numbers() {
		if a, b := mix.At(seed+gap, maxUint), mix.At(seed, 0); a != b {
			t.Errorf("seed %X: %X and %X", seed, a, b)
		}
	}
}

// P3.5
func TestOneSequence(t *testing.T) {
	for _, seed := range []uint64{0, 1, 0x74656D706F, 1 << 63, maxUint} {
		m := mix.New(seed)
		for i := range uint64(2000) {
			if a, b := m.Next(), mix.At(seed, i); a != b {
				t.Fatalf("seed %X, call %d: Next = %X, At = %X", seed, i, a, b)
			}
		}
	}
}

// P3.6: mixing can be undone, so different numbers are mixed to different ones. What is found for a number is what it was made of, apart from multiples of 2^64.
func TestMixingCanBeUndone(t *testing.T) {
	all := numbers()
	for _, seed := range all {
		for _, i := range all {
			z := unmixed(mix.At(seed, i))
			if z != seed+(i+1)*gap {
				t.Errorf("At(%X, %X) was mixed from %X", seed, i, z)
			}
			if index := (z-seed)*inverse(gap) - 1; index != i {
				t.Errorf("At(%X, %X) has the index %X", seed, i, index)
			}
		}
	}
}

// P3.6
func TestAllDifferent(t *testing.T) {
	for _, seed := range []uint64{0, 5, maxUint} {
		byNumber := map[uint64]uint64{}
		for i := range uint64(100000) {
			n := mix.At(seed, i)
			if other, have := byNumber[n]; have {
				t.Fatalf("seed %X: the indexes %d and %d have the number %X", seed, other, i, n)
			}
			byNumber[n] = i
		}
	}
	for _, i := range []uint64{0, 5, maxUint} {
		bySeed := map[uint64]uint64{}
		for seed := range uint64(100000) {
			n := mix.At(seed, i)
			if other, have := bySeed[n]; have {
				t.Fatalf("index %X: the seeds %d and %d have the number %X", i, other, seed, n)
			}
			bySeed[n] = seed
		}
	}
}

// P3.7
func TestShift(t *testing.T) {
	all := numbers()
	for _, seed := range []uint64{0, 1, gap, 1 << 63, maxUint} {
		for _, i := range all {
			for _, k := range all {
				if a, b := mix.At(seed, i+k), mix.At(seed+k*gap, i); a != b {
					t.Errorf("seed %X, index %X and %X: %X and %X", seed, i, k, a, b)
				}
			}
		}
	}
}

// P3.7: a generator that has drawn k numbers goes on as a new one with the seed that is shifted by k.
func TestShiftedGenerator(t *testing.T) {
	m := mix.New(11)
	for k := range uint64(200) {
		if a, b := m.Copy().Next(), mix.New(11+k*gap).Next(); a != b {
			t.Errorf("behind %d numbers: %X and %X", k, a, b)
		}
		m.Next()
	}
}

// R2: nothing is drawn from generators that are not valid, and nothing about them is an error but that.
func TestNotValid(t *testing.T) {
	made := mix.New(1)
	made.Next()
	value := *made
	valueOfCopy := *made.Copy()
	for _, x := range []struct {
		name string
		m    *mix.Mix
	}{
		{"nil", nil},
		{"zero", &mix.Mix{}},
		{"new", new(mix.Mix)},
		{"the copy of a struct", &value},
		{"the copy of a struct that Copy returned", &valueOfCopy},
		{"Copy of nil", (*mix.Mix)(nil).Copy()},
		{"Copy of zero", (&mix.Mix{}).Copy()},
	} {
		for range 2 {
			if n := x.m.Next(); n != 0 {
				t.Errorf("%s: Next = %X", x.name, n)
			}
			if x.m.Pos() != 0 {
				t.Errorf("%s: Pos = %d", x.name, x.m.Pos())
			}
			if x.m.Copy() != nil {
				t.Errorf("%s: there is a copy", x.name)
			}
			for _, n := range []int{math.MinInt, -1, 0, 1, 10, math.MaxInt} {
				if got, e := x.m.Below(n); got != 0 || e != api.ErrNil {
					t.Errorf("%s: Below(%d) = %d, %d", x.name, n, got, e)
				}
			}
		}
	}
	checkDraws(t, "the one that is valid", made, 1, 1)
}

// R8: equal calls return equal results, whatever is called between them.
func TestEqualCalls(t *testing.T) {
	a, b := mix.New(99), mix.New(99)
	for i := range 500 {
		mix.New(uint64(i)).Next()
		mix.At(uint64(i), 99)
		x, e := a.Below(i + 1)
		y, f := b.Below(i + 1)
		if x != y || e != f || a.Next() != b.Next() || a.Pos() != b.Pos() {
			t.Fatalf("Below(%d) = %d, %d and %d, %d", i+1, x, e, y, f)
		}
	}
}
