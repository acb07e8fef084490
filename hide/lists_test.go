package hide_test

import (
	"math"
	"slices"
	"testing"

	"pulsehorn/api"
	"pulsehorn/hide"
)

// hiding puts numbers behind a list's length that no call may read or write.
func hiding(l []int) []int {
	return append(slices.Clone(l), 77, math.MinInt, -77)[:len(l)]
}

// whole is a list with what stands behind it, in memory of its own.
func whole(l []int) []int {
	return slices.Clone(l[:cap(l)])
}

// spoil writes over all memory of a list.
func spoil(l []int) {
	for i := range l[:cap(l)] {
		l[:cap(l)][i] = 99
	}
}

func TestSizesAreLeftAlone(t *testing.T) {
	look := func(given []int, bits int, b string) {
		sizes := hiding(given)
		kept := whole(sizes)
		p, err := hide.New(sizes, bits)
		if err == nil {
			p.Lose()
			p.Play(b)
			p.Lose()
			p.Lost()
		}
		if !slices.Equal(whole(sizes), kept) {
			t.Errorf("%v became %v", kept, whole(sizes))
		}
	}
	for turn, f := range allFrames(t) {
		if turn%3 == 0 {
			look(f.sizes, f.bits, f.b)
		}
	}
	for _, sizes := range oddSizes() {
		look(sizes, 8, "")
	}
	for _, c := range badSizes() {
		for _, bits := range []int{-1, 8, 401} {
			look(c.sizes, bits, "")
		}
	}
}

func TestWhatLiesBehindIsNotRead(t *testing.T) {
	for turn, f := range allFrames(t) {
		want, ok := heard(f.l)
		if !ok || turn%3 != 0 {
			continue
		}
		p := player(t, hiding(f.sizes), f.bits)
		loses(t, p, repeat(0, total(f.sizes))...)
		plays(t, p, f.b, want...)
		losesLike(t, p, f.l, 2)
	}
	refuses(t, hiding(nil), 8, api.ErrNone)
	refuses(t, hiding([]int{1}), 8, api.ErrShape)
}

// TestSizesAreNotKept writes over them behind New, and behind each call.
func TestSizesAreNotKept(t *testing.T) {
	for _, f := range allFrames(t) {
		want, ok := heard(f.l)
		if !ok {
			continue
		}
		for _, other := range []int{0, 1, 7, math.MinInt} {
			sizes := hiding(f.sizes)
			p := player(t, sizes, f.bits)
			for i := range sizes[:cap(sizes)] {
				sizes[:cap(sizes)][i] = other
			}
			loses(t, p, repeat(0, total(f.sizes))...)
			plays(t, p, f.b, want...)
			losesLike(t, p, f.l, 1)
			if slices.ContainsFunc(sizes[:cap(sizes)], func(n int) bool { return n != other }) {
				t.Errorf("%v were written into: %v", f.sizes, sizes)
			}
		}
	}
}

// TestWhatIsToldIsFresh writes over all that Play and Lose told, with what stands behind it.
func TestWhatIsToldIsFresh(t *testing.T) {
	for _, f := range allFrames(t) {
		want, ok := heard(f.l)
		if !ok {
			continue
		}
		p := player(t, f.sizes, f.bits)
		spoil(p.Lose())
		loses(t, p, repeat(0, total(f.sizes))...)
		for range 2 {
			samples, err := p.Play(f.b)
			if err != nil {
				t.Fatalf("Play of %v: %v", []byte(f.b), err)
			}
			spoil(samples)
			l := softened(f.l)
			spoil(p.Lose())
			l = losesLike(t, p, l, 1)
			spoil(p.Lose())
			losesLike(t, p, softened(l), 1)
			plays(t, p, f.b, want...)
			losesLike(t, p, f.l, 1)
		}
	}
}

// TestNoTwoShare keeps all that a Player told, writes over one, and looks at the others.
func TestNoTwoShare(t *testing.T) {
	for turn, f := range handFrames(t) {
		p := player(t, f.sizes, f.bits)
		all := [][]int{p.Lose(), p.Lose()}
		if samples, err := p.Play(f.b); err == nil {
			all = append(all, samples)
		}
		again, _ := p.Play(f.b)
		all = append(all, again)
		for range mostLost + 2 {
			all = append(all, p.Lose())
		}
		var kept [][]int
		for _, l := range all {
			kept = append(kept, slices.Clone(l))
		}
		at := turn % len(all)
		spoil(all[at])
		for i := range all {
			if i != at && !slices.Equal(all[i], kept[i]) {
				t.Errorf("%v became %v with another list", kept[i], all[i])
			}
		}
	}
}
