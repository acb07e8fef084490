package pair_test

import (
	"math"
	"testing"

	"pulsehorn/api"
	"pulsehorn/pair"
	"pulsehorn/plain"
)

// far has numbers that no call takes, at either side.
func far() []int {
	return []int{
		api.MaxInside + 1, -api.MaxInside - 1, 1 << 32, -1 << 32,
		math.MaxInt, math.MaxInt - 1, math.MinInt, math.MinInt + 1,
	}
}

// told is the error that a number is to get: none within the bound, at either side.
func told(bound int, l ...int) api.Errno {
	for _, n := range l {
		if n < -bound || n > bound {
			return api.ErrRange
		}
	}
	return api.OK
}

func TestHalf(t *testing.T) {
	for _, c := range []struct{ n, want int }{
		{0, 0}, {1, 0}, {2, 1}, {3, 1}, {4, 2}, {7, 3},
		{-1, -1}, {-2, -1}, {-3, -2}, {-4, -2}, {-5, -3}, {-7, -4},
		{7999, 3999}, {-7999, -4000}, {8000, 4000}, {-8000, -4000},
	} {
		if h, err := pair.Half(c.n); h != c.want || err != nil {
			t.Errorf("Half of %d: %d %v, want %d", c.n, h, err, c.want)
		}
	}
}

func TestHalfIsRoundedDown(t *testing.T) {
	for n := -8000; n <= 8000; n++ {
		h, err := pair.Half(n)
		if rest := n - 2*h; rest != 0 && rest != 1 || err != nil {
			t.Errorf("Half of %d: %d %v", n, h, err)
		}
	}
}

func TestHalfTellsWhatIsBeyond(t *testing.T) {
	for _, n := range append(far(), 8001, -8001, 8002, 16000, -16000) {
		if h, err := pair.Half(n); h != 0 || plain.Told(err) != api.ErrRange {
			t.Errorf("Half of %d: %d %v, want ErrRange", n, h, err)
		}
	}
}

func TestForward(t *testing.T) {
	for _, c := range []struct{ a, b, s, d int }{
		{0, 0, 0, 0}, {1, 0, 0, 1}, {0, 1, 0, -1}, {5, 3, 4, 2}, {3, 5, 4, -2}, {5, 2, 3, 3},
		{-1, 0, -1, -1}, {0, -1, -1, 1}, {-5, 2, -2, -7}, {2, -5, -2, 7}, {-3, -4, -4, 1}, {-3, -3, -3, 0},
		{2000, 2000, 2000, 0}, {-2000, -2000, -2000, 0}, {2000, -2000, 0, 4000}, {-2000, 2000, 0, -4000},
		{2000, 1999, 1999, 1}, {-2000, -1999, -2000, -1}, {2000, 0, 1000, 2000}, {0, -2000, -1000, 2000},
	} {
		if s, d, err := pair.Forward(c.a, c.b); s != c.s || d != c.d || err != nil {
			t.Errorf("Forward of %d, %d: %d %d %v, want %d %d", c.a, c.b, s, d, err, c.s, c.d)
		}
	}
}

func TestInverse(t *testing.T) {
	for _, c := range []struct{ s, d, a, b int }{
		{0, 0, 0, 0}, {0, 1, 1, 0}, {0, -1, 0, 1}, {4, 2, 5, 3}, {4, -2, 3, 5}, {3, 3, 5, 2},
		{-1, -1, -1, 0}, {-1, 1, 0, -1}, {-2, -7, -5, 2}, {-2, 7, 2, -5}, {-4, 1, -3, -4},
		{4000, 4000, 6000, 2000}, {4000, -4000, 2000, 6000},
		{-4000, 4000, -2000, -6000}, {-4000, -4000, -6000, -2000},
		{4000, 3999, 6000, 2001}, {-4000, -3999, -5999, -2000}, {0, 4000, 2000, -2000}, {4000, 0, 4000, 4000},
	} {
		if a, b, err := pair.Inverse(c.s, c.d); a != c.a || b != c.b || err != nil {
			t.Errorf("Inverse of %d, %d: %d %d %v, want %d %d", c.s, c.d, a, b, err, c.a, c.b)
		}
	}
}

// near has a bound's edges, one to either side of each, and numbers far from them.
func near(bound int) []int {
	l := append(far(), 0, 1, -1)
	for _, edge := range []int{-bound, bound} {
		l = append(l, edge-1, edge, edge+1)
	}
	return l
}

func TestForwardAtItsEdges(t *testing.T) {
	for _, a := range near(2000) {
		for _, b := range near(2000) {
			want := told(2000, a, b)
			s, d, err := pair.Forward(a, b)
			if plain.Told(err) != want || want != api.OK && (s != 0 || d != 0) {
				t.Errorf("Forward of %d, %d: %d %d %v, want %v", a, b, s, d, err, want)
			}
		}
	}
}

func TestInverseAtItsEdges(t *testing.T) {
	for _, s := range near(4000) {
		for _, d := range near(4000) {
			want := told(4000, s, d)
			a, b, err := pair.Inverse(s, d)
			if plain.Told(err) != want || want != api.OK && (a != 0 || b != 0) {
				t.Errorf("Inverse of %d, %d: %d %d %v, want %v", s, d, a, b, err, want)
			}
		}
	}
}

// grid has numbers within a bound, its edges among them, even ones and odd ones.
func grid(bound int) []int {
	l := []int{-bound, 1 - bound, -2, -1, 0, 1, 2, bound - 1, bound}
	for n := 3 - bound; n < bound; n += 37 {
		l = append(l, n)
	}
	return l
}

func TestThereAndBack(t *testing.T) {
	for _, a := range grid(2000) {
		for _, b := range grid(2000) {
			s, d, err := pair.Forward(a, b)
			if err != nil {
				t.Fatalf("Forward of %d, %d: %v", a, b, err)
			}
			if x, y, err := pair.Inverse(s, d); x != a || y != b || err != nil {
				t.Errorf("of %d, %d came %d, %d, and back %d, %d %v", a, b, s, d, x, y, err)
			}
		}
	}
}

func TestBackIsWhatItIsOf(t *testing.T) {
	for _, s := range grid(4000) {
		for _, d := range grid(4000) {
			a, b, err := pair.Inverse(s, d)
			if rest := a + b - 2*s; a-b != d || rest != 0 && rest != 1 || err != nil {
				t.Errorf("Inverse of %d, %d: %d %d %v", s, d, a, b, err)
			}
		}
	}
}
