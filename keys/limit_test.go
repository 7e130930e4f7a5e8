package keys

import (
	"testing"

	"tempo/api"
)

// P4.3: each of the keys counts. This test is inside of the package, since no two tables that Of returns differ in one key alone.
func TestSameLooksAtEachKey(t *testing.T) {
	for _, kind := range []int{api.Standard, api.Zero, api.Seeded} {
		for i := range api.KeyCount {
			a, _ := Of(kind, 3)
			b, _ := Of(kind, 3)
			b.keys[i] ^= 1 << (i % 64)
			if Same(a, b) || Same(b, a) {
				t.Errorf("kind %d: tables are the same, but the keys %d differ", kind, i)
			}
			b.keys[i] = a.keys[i]
			if !Same(a, b) || !Same(b, a) {
				t.Errorf("kind %d: tables with equal keys are not the same", kind)
			}
		}
	}
}
