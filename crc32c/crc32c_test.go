package crc32c_test

import (
	"bytes"
	"hash/crc32"
	"math/rand"
	"testing"

	"tempo/api"
	"tempo/crc32c"
)

const (
	ones = 0xFFFFFFFF
	span = 32 // neighbouring bits in which any change is noticed
)

// fed returns x into which b is fed: the definition, step by step.
func fed(x uint32, b []byte) uint32 {
	for _, c := range b {
		x ^= uint32(c)
		for range 8 {
			if x%2 == 1 {
				x = x/2 ^ 0x82F63B78
			} else {
				x = x / 2
			}
		}
	}
	return x
}

// checksum returns the checksum of b, by the definition.
func checksum(b []byte) uint32 {
	return fed(ones, b) ^ ones
}

// sealed returns b and its checksum, by the definition.
func sealed(b []byte) []byte {
	sum := checksum(b)
	return append(bytes.Clone(b), byte(sum/0x1000000), byte(sum/0x10000%0x100), byte(sum/0x100%0x100), byte(sum%0x100))
}

// randomBytes returns bytes that are always the same ones for the same source.
func randomBytes(random *rand.Rand, length int) []byte {
	b := make([]byte, length)
	random.Read(b)
	return b
}

// samples returns byte strings of many lengths and contents; always the same ones.
func samples() [][]byte {
	random := rand.New(rand.NewSource(1))
	out := [][]byte{nil, {}}
	for c := range 256 {
		out = append(out, []byte{byte(c)}, []byte{byte(c), 0}, []byte{0, byte(c)}, []byte{255, byte(c)})
	}
	for length := range 140 {
		out = append(out, make([]byte, length), bytes.Repeat([]byte{255}, length), randomBytes(random, length))
	}
	return append(out, randomBytes(random, 512), randomBytes(random, 40000))
}

// sequence returns so many bytes from first on, each by step more than the one before.
func sequence(first, step, length int) []byte {
	b := make([]byte, length)
	for i := range b {
		b[i] = byte(first + i*step)
	}
	return b
}

// flip changes the bits of a mask in b; the lowest bit of the mask is at the offset from, in bits, and the lowest bit of a byte comes first.
func flip(b []byte, from int, mask uint32) {
	for i := range span {
		if mask>>i&1 == 1 {
			b[(from+i)/8] ^= 1 << ((from + i) % 8)
		}
	}
}

// changes calls f with copies of b in which bits from the byte first up to the byte end are changed that are among 32 neighbouring ones: each bit, each pair of bits, all bits of a span, and others by chance.
func changes(b []byte, first, end int, f func(changed []byte)) {
	random := rand.New(rand.NewSource(2))
	change := func(from int, mask uint32) {
		changed := bytes.Clone(b)
		flip(changed, from, mask)
		f(changed)
	}
	for from := 8 * first; from < 8*end; from++ {
		width := min(span, 8*end-from)
		inside := uint32(uint64(1)<<width - 1)
		change(from, inside)
		for i := range width {
			change(from, 1|1<<i)
		}
		for range 20 {
			change(from, random.Uint32()&inside|1)
		}
	}
}

// P2.1
func TestSum(t *testing.T) {
	for _, x := range []struct {
		b    []byte
		want uint32
	}{
		{nil, 0},
		{[]byte{}, 0},
		{[]byte("123456789"), 0xE3069283},
		{[]byte("a"), 0xC1D04330},
		{[]byte("abc"), 0x364B3FB7},
		{make([]byte, 32), 0x8A9136AA},
		{bytes.Repeat([]byte{255}, 32), 0x62A8AB43},
		{sequence(0, 1, 32), 0x46DD794E},
		{sequence(31, -1, 32), 0x113FDB5C},
	} {
		if sum := crc32c.Sum(x.b); sum != x.want {
			t.Errorf("Sum(%x) = %08X; want %08X", x.b, sum, x.want)
		}
	}
	castagnoli := crc32.MakeTable(crc32.Castagnoli)
	for _, b := range samples() {
		sum := crc32c.Sum(b)
		if want := checksum(b); sum != want {
			t.Errorf("Sum(%x) = %08X; want %08X", b, sum, want)
		}
		if want := crc32.Checksum(b, castagnoli); sum != want {
			t.Errorf("Sum(%x) = %08X; the library has %08X", b, sum, want)
		}
	}
}

// P2.2
func TestUpdate(t *testing.T) {
	if sum := crc32c.Update(crc32c.Sum([]byte("1234")), []byte("56789")); sum != 0xE3069283 {
		t.Errorf("Update of Sum(1234) with 56789 = %08X", sum)
	}
	sums := []uint32{0, 1, 0x80000000, 0x12345678, 0x82F63B78, ones - 1, ones}
	random := rand.New(rand.NewSource(3))
	for range 5 {
		sums = append(sums, random.Uint32())
	}
	for _, sum := range sums {
		for _, none := range [][]byte{nil, {}} {
			if got := crc32c.Update(sum, none); got != sum {
				t.Errorf("Update(%08X) with no bytes = %08X", sum, got)
			}
		}
		for _, b := range samples()[:400] {
			if got, want := crc32c.Update(sum, b), fed(sum^ones, b)^ones; got != want {
				t.Errorf("Update(%08X, %x) = %08X; want %08X", sum, b, got, want)
			}
		}
	}
}

// P2.2: the checksum of no bytes is 0, so Update of 0 is Sum.
func TestUpdateOfNothing(t *testing.T) {
	for _, b := range samples() {
		if sum := crc32c.Update(0, b); sum != checksum(b) {
			t.Errorf("Update(0, %x) = %08X", b, sum)
		}
	}
}

// P2.3
func TestSeal(t *testing.T) {
	for _, x := range []struct {
		b, want []byte
	}{
		{nil, []byte{0, 0, 0, 0}},
		{[]byte{}, []byte{0, 0, 0, 0}},
		{[]byte("a"), []byte{'a', 0xC1, 0xD0, 0x43, 0x30}},
		{[]byte("123456789"), []byte("123456789\xE3\x06\x92\x83")},
		{make([]byte, 4), append(make([]byte, 4), 0x48, 0x67, 0x4B, 0xC7)},
	} {
		if got := crc32c.Seal(x.b); !bytes.Equal(got, x.want) {
			t.Errorf("Seal(%x) = %x; want %x", x.b, got, x.want)
		}
	}
	for _, b := range samples() {
		if got, want := crc32c.Seal(b), sealed(b); !bytes.Equal(got, want) {
			t.Errorf("Seal(%x) = %x; want %x", b, got, want)
		}
	}
}

// P2.4
func TestUnseal(t *testing.T) {
	for _, x := range []struct {
		name string
		b    []byte
		want []byte
		e    api.Errno
	}{
		{"a byte", []byte{'a', 0xC1, 0xD0, 0x43, 0x30}, []byte{'a'}, api.OK},
		{"nothing", []byte{0, 0, 0, 0}, nil, api.OK},
		{"digits", []byte("123456789\xE3\x06\x92\x83"), []byte("123456789"), api.OK},
		{"nil", nil, nil, api.ErrTorn},
		{"empty", []byte{}, nil, api.ErrTorn},
		{"one byte", []byte{0}, nil, api.ErrTorn},
		{"two bytes", []byte{0, 0}, nil, api.ErrTorn},
		{"three bytes", []byte{0, 0, 0}, nil, api.ErrTorn},
		{"three other bytes", []byte{1, 2, 3}, nil, api.ErrTorn},
		{"the last byte", []byte{'a', 0xC1, 0xD0, 0x43, 0x31}, nil, api.ErrSum},
		{"the first byte of the checksum", []byte{'a', 0x41, 0xD0, 0x43, 0x30}, nil, api.ErrSum},
		{"the byte in front", []byte{'b', 0xC1, 0xD0, 0x43, 0x30}, nil, api.ErrSum},
		{"the least significant byte first", []byte{'a', 0x30, 0x43, 0xD0, 0xC1}, nil, api.ErrSum},
		{"the checksum in front", []byte{0xC1, 0xD0, 0x43, 0x30, 'a'}, nil, api.ErrSum},
		{"a byte behind", []byte{'a', 0xC1, 0xD0, 0x43, 0x30, 0}, nil, api.ErrSum},
		{"a byte missing", []byte{'a', 0xC1, 0xD0, 0x43}, nil, api.ErrSum},
		{"nothing, and not its checksum", []byte{0, 0, 0, 1}, nil, api.ErrSum},
		{"nothing, with all ones", []byte{255, 255, 255, 255}, nil, api.ErrSum},
		{"all zeros", make([]byte, 5), nil, api.ErrSum},
		{"many zeros", make([]byte, 128), nil, api.ErrSum},
	} {
		if got, e := crc32c.Unseal(x.b); !bytes.Equal(got, x.want) || e != x.e {
			t.Errorf("%s: Unseal(%x) = %x, %d; want %x, %d", x.name, x.b, got, e, x.want, x.e)
		}
	}
}

// P2.4: of all last bytes only the checksum is right.
func TestUnsealIsTheDefinition(t *testing.T) {
	random := rand.New(rand.NewSource(4))
	for _, b := range samples() {
		whole := sealed(b)
		if got, e := crc32c.Unseal(whole); !bytes.Equal(got, b) || e != api.OK {
			t.Errorf("Unseal(%x) = %x, %d", whole, got, e)
		}
		other := append(bytes.Clone(b), randomBytes(random, 4)...)
		if bytes.Equal(other, whole) {
			continue
		}
		if got, e := crc32c.Unseal(other); len(got) != 0 || e != api.ErrSum {
			t.Errorf("Unseal(%x) = %x, %d", other, got, e)
		}
	}
}

// P2.5
func TestParts(t *testing.T) {
	b := randomBytes(rand.New(rand.NewSource(5)), 40)
	want := checksum(b)
	for i := range len(b) + 1 {
		for j := i; j <= len(b); j++ {
			sum := crc32c.Update(crc32c.Update(crc32c.Sum(b[:i]), b[i:j]), b[j:])
			if sum != want {
				t.Errorf("cut at %d and %d: %08X; want %08X", i, j, sum, want)
			}
		}
	}
	bytewise := uint32(0)
	for i := range b {
		bytewise = crc32c.Update(bytewise, b[i:i+1])
	}
	if bytewise != want {
		t.Errorf("byte by byte: %08X; want %08X", bytewise, want)
	}
}

// P2.5: many parts, empty ones among them.
func TestManyParts(t *testing.T) {
	random := rand.New(rand.NewSource(6))
	for range 300 {
		b := randomBytes(random, random.Intn(600))
		sum, at := uint32(0), 0
		for at < len(b) {
			next := at + random.Intn(min(20, len(b)-at+1))
			sum = crc32c.Update(sum, b[at:next])
			at = next
		}
		if sum != checksum(b) {
			t.Errorf("%x: %08X; want %08X", b, sum, checksum(b))
		}
	}
}

// P2.6
func TestChanges(t *testing.T) {
	random := rand.New(rand.NewSource(7))
	for _, length := range []int{1, 2, 3, 4, 5, 8, 30} {
		for _, b := range [][]byte{make([]byte, length), bytes.Repeat([]byte{255}, length), randomBytes(random, length)} {
			sum := crc32c.Sum(b)
			changes(b, 0, length, func(changed []byte) {
				if crc32c.Sum(changed) == sum {
					t.Errorf("%x and %x have the checksum %08X", b, changed, sum)
				}
			})
		}
	}
}

// P2.6: for each 32 neighbouring bits, no choice of them has changes that cancel each other. The changes of a choice are the xor of the changes of its bits (P2.7), so it is enough that these are linearly independent.
func TestNoChangesCancel(t *testing.T) {
	const length = 64
	zeros := crc32c.Sum(make([]byte, length))
	var change [8 * length]uint32
	for bit := range change {
		b := make([]byte, length)
		flip(b, bit, 1)
		change[bit] = crc32c.Sum(b) ^ zeros
	}
	for from := 0; from+span <= len(change); from++ {
		if !independent(change[from : from+span]) {
			t.Errorf("changes of the bits from %d on cancel each other", from)
		}
	}
}

// independent says whether no xor of some of the numbers is 0.
func independent(numbers []uint32) bool {
	var withHighest [32]uint32 // by their highest bits, which differ
	for _, n := range numbers {
		for bit := 31; bit >= 0 && n != 0; bit-- {
			if n>>bit&1 == 0 {
				continue
			}
			if withHighest[bit] == 0 {
				withHighest[bit] = n
				break
			}
			n ^= withHighest[bit]
		}
		if n == 0 {
			return false
		}
	}
	return true
}

// P2.7
func TestLinear(t *testing.T) {
	random := rand.New(rand.NewSource(8))
	for length := range 150 {
		for range 5 {
			a, b, c := randomBytes(random, length), randomBytes(random, length), randomBytes(random, length)
			all := make([]byte, length)
			for i := range all {
				all[i] = a[i] ^ b[i] ^ c[i]
			}
			got := crc32c.Sum(a) ^ crc32c.Sum(b) ^ crc32c.Sum(c)
			if want := crc32c.Sum(all); got != want {
				t.Errorf("%x, %x, %x: %08X; want %08X", a, b, c, got, want)
			}
		}
	}
}

// P2.8
func TestSealedIsUnsealed(t *testing.T) {
	for _, b := range samples() {
		whole := crc32c.Seal(b)
		got, e := crc32c.Unseal(whole)
		if !bytes.Equal(got, b) || e != api.OK {
			t.Errorf("Unseal(Seal(%x)) = %x, %d", b, got, e)
		}
		if again := crc32c.Seal(got); !bytes.Equal(again, whole) {
			t.Errorf("%x is unsealed, and sealed to %x", whole, again)
		}
	}
}

// P2.8: sealed bytes can be sealed again, layer by layer.
func TestSealedTwice(t *testing.T) {
	b := []byte("tempo")
	once, e := crc32c.Unseal(crc32c.Seal(crc32c.Seal(b)))
	if !bytes.Equal(once, crc32c.Seal(b)) || e != api.OK {
		t.Errorf("unsealed once: %x, %d", once, e)
	}
	if got, e := crc32c.Unseal(once); !bytes.Equal(got, b) || e != api.OK {
		t.Errorf("unsealed twice: %x, %d", got, e)
	}
}

// P2.8
func TestChangedIsNotUnsealed(t *testing.T) {
	random := rand.New(rand.NewSource(9))
	for _, length := range []int{0, 1, 2, 4, 7, 30} {
		whole := crc32c.Seal(randomBytes(random, length))
		refused := func(changed []byte) {
			if got, e := crc32c.Unseal(changed); len(got) != 0 || e != api.ErrSum {
				t.Errorf("%x was changed to %x: Unseal = %x, %d", whole, changed, got, e)
			}
		}
		changes(whole, 0, length, refused)
		changes(whole, length, len(whole), refused)
	}
}

// R4: results are new memory, and arguments stay as they are.
func TestMemory(t *testing.T) {
	seal := func(b []byte) []byte { return crc32c.Seal(b) }
	unseal := func(b []byte) []byte {
		out, _ := crc32c.Unseal(b)
		return out
	}
	for name, f := range map[string]func([]byte) []byte{"Seal": seal, "Unseal": unseal} {
		for _, length := range []int{0, 1, 9, 200} {
			whole := append(crc32c.Seal(sequence(1, 1, length)), 91, 92, 93, 94, 95, 96, 97, 98)
			before := bytes.Clone(whole)
			argument := whole[:length+4]
			first := f(argument)
			kept := bytes.Clone(first)
			if !bytes.Equal(whole, before) {
				t.Errorf("%s writes to its argument, or behind its end: %x", name, whole)
			}
			second := f(argument)
			clear(second[:cap(second)])
			clear(whole)
			if !bytes.Equal(first, kept) {
				t.Errorf("%s: a result shares memory with the argument, or with another result: %x", name, first)
			}
			copy(whole, before)
			clear(first[:cap(first)])
			if !bytes.Equal(whole, before) {
				t.Errorf("%s: the argument shares memory with a result: %x", name, whole)
			}
		}
	}
	b := sequence(1, 1, 50)
	crc32c.Sum(b)
	crc32c.Update(7, b)
	if !bytes.Equal(b, sequence(1, 1, 50)) {
		t.Errorf("an argument has changed: %x", b)
	}
}

// R4: elements behind the length are not read.
func TestNothingBehindTheLengthIsRead(t *testing.T) {
	whole := []byte("a\xC1\xD0\x43\x30")
	for length := range 4 {
		if got, e := crc32c.Unseal(whole[:length]); len(got) != 0 || e != api.ErrTorn {
			t.Errorf("Unseal of %d bytes = %x, %d", length, got, e)
		}
	}
	if sum := crc32c.Sum(whole[:1]); sum != 0xC1D04330 {
		t.Errorf("Sum = %08X", sum)
	}
	if got := crc32c.Seal(whole[:1]); !bytes.Equal(got, whole) {
		t.Errorf("Seal = %x", got)
	}
}

// What is unsealed ends with its capacity, as a three-index slice does: appending to it is not writing over the checksum.
func TestUnsealedHasNoSumBehindIt(t *testing.T) {
	for _, length := range []int{0, 1, 4, 100} {
		got, _ := crc32c.Unseal(crc32c.Seal(make([]byte, length)))
		if cap(got) != length {
			t.Errorf("%d bytes, capacity %d", length, cap(got))
		}
	}
}
