package count

import "testing"

// TestBitsFor asks for every b what no count above 2 comes to: one more than 2^b.
func TestBitsFor(t *testing.T) {
	if got := bitsFor(0); got != 0 {
		t.Errorf("bits for none: %d", got)
	}
	for b := range 20 {
		if got := bitsFor(1 << b); got != b {
			t.Errorf("bits for 2^%d: %d", b, got)
		}
		if got := bitsFor(1<<b + 1); got != b+1 {
			t.Errorf("bits for one more than 2^%d: %d", b, got)
		}
	}
	for b := 2; b < 20; b++ {
		if got := bitsFor(1<<b - 1); got != b {
			t.Errorf("bits for one less than 2^%d: %d", b, got)
		}
	}
}
