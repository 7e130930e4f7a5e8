package mix

import (
	"math"
	"testing"

	"tempo/api"
)

// Limits: behind the greatest position is 0. This test is inside of the package, since nobody can draw so many numbers.
func TestPositionAfterTheGreatest(t *testing.T) {
	for _, seed := range []uint64{0, 1, 0x74656D706F, math.MaxUint64} {
		m := newAt(seed, math.MaxUint64-1)
		for _, pos := range []uint64{math.MaxUint64 - 1, math.MaxUint64, 0, 1} {
			c := m.Copy()
			if m.Pos() != pos || c.Pos() != pos {
				t.Errorf("seed %X: position %X, that of a copy %X; want %X", seed, m.Pos(), c.Pos(), pos)
			}
			want := At(seed, pos)
			if n, e := c.Below(1000); n != int(want%1000) || e != api.OK || c.Pos() != pos+1 {
				t.Errorf("seed %X, position %X: Below(1000) = %d, %d", seed, pos, n, e)
			}
			if n := m.Next(); n != want {
				t.Errorf("seed %X, position %X: Next = %X; want %X", seed, pos, n, want)
			}
		}
	}
}
