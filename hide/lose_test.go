package hide_test

import (
	"slices"
	"testing"

	"pulsehorn/api"
	"pulsehorn/hide"
)

func TestSomeFramesLost(t *testing.T) {
	p := player(t, []int{2}, 5)
	plays(t, p, "\x5b\x00", 11, 33)
	// Gains 18, 14, 10, then 5, because there is none of 6, then 1, of which half a pulse is nought, and 0.
	loses(t, p, 5, 16)
	loses(t, p, 2, 7)
	loses(t, p, 1, 3)
	loses(t, p, 0, 1)
	loses(t, p, 0, 0)
	loses(t, p, 0, 0)
	loses(t, p, 0, 0)
	lost(t, p, 7)
	q := player(t, []int{6}, 12)
	plays(t, q, string([]byte{188, 18, 192}), -1331, -1081, -831, -166, -831, -831)
	loses(t, q, -665, -540, -415, -83, -415, -415)
	loses(t, q, -332, -270, -208, -42, -208, -208)
	lost(t, q, 2)
}

// TestBeforeOneWasPlayed has noughts, as many as the sizes have, however often.
func TestBeforeOneWasPlayed(t *testing.T) {
	eachSetting(func(sizes []int, bits int) {
		p := player(t, sizes, bits)
		for i := range 20 {
			loses(t, p, repeat(0, total(sizes))...)
			lost(t, p, i+1)
		}
	})
}

// TestEachGainLost has each Gain that there is a Value of, once and again and again, as one number, which is the Value.
func TestEachGainLost(t *testing.T) {
	for _, g := range rightGains() {
		if g == 0 || g > 48 {
			continue
		}
		f := packed(t, parts(part(g, 1, 0)), []int{2}, 2)
		p := player(t, f.sizes, f.bits)
		plays(t, p, f.b, values[g], values[g])
		for g > 0 {
			g = behind[g]
			loses(t, p, values[g], values[g])
		}
		loses(t, p, 0, 0)
	}
}

// TestEachGreatGainLost has those, too, that are decoded only in several numbers.
func TestEachGreatGainLost(t *testing.T) {
	for _, g := range rightGains()[1:] {
		f := packed(t, parts(part(g, 2, -2, -2, 2)), []int{4}, 400)
		p := player(t, f.sizes, f.bits)
		want, ok := heard(f.l)
		if !ok {
			t.Fatalf("%v is too loud", f.l)
		}
		plays(t, p, f.b, want...)
		losesLike(t, p, f.l, mostLost+2)
	}
}

// TestGainsByTheWords holds the table of Gains against what the chapter says of them.
func TestGainsByTheWords(t *testing.T) {
	for _, g := range rightGains() {
		want := max(g-4, 0)
		for values[want] < 0 {
			want--
		}
		if behind[g] != want {
			t.Errorf("behind %d is %d, not %d", g, behind[g], want)
		}
	}
	for g, v := range values {
		if (v < 0) != (behind[g] < 0) {
			t.Errorf("behind %d is %d, but its Value is %d", g, behind[g], v)
		}
	}
}

// TestEachBandByItself has bands of other Gains, of which each gets softer by itself.
func TestEachBandByItself(t *testing.T) {
	right := rightGains()
	for i, g := range right {
		if g > 48 {
			break
		}
		other := right[(i*7+3)%len(right)]
		f := byHand(t, []int{g, min(other, 48)}, []int{1, 1}, 400, uint32(i))
		p := player(t, f.sizes, f.bits)
		want, ok := heard(f.l)
		if !ok {
			t.Fatalf("%v is too loud", f.l)
		}
		plays(t, p, f.b, want...)
		losesLike(t, p, f.l, mostLost+2)
	}
}

// TestFramesLostUntilTheyAreSilent has each frame, lost so often that every Gain is 0, and more often.
func TestFramesLostUntilTheyAreSilent(t *testing.T) {
	loud := 0
	for _, f := range allFrames(t) {
		want, ok := heard(f.l)
		if !ok {
			continue
		}
		p := player(t, f.sizes, f.bits)
		plays(t, p, f.b, want...)
		if !silent(want) {
			loud++
		}
		l := losesLike(t, p, f.l, mostLost)
		for i := range 3 {
			if slices.ContainsFunc(l, func(p api.Part) bool { return p.Gain != 0 }) {
				t.Fatalf("%v is %v behind %d", f.l, l, mostLost)
			}
			loses(t, p, repeat(0, total(f.sizes))...)
			lost(t, p, mostLost+1+i)
		}
	}
	if loud < 1000 {
		t.Errorf("only %d were not silent", loud)
	}
}

// TestALostOneIsSofter has samples that are further from 0 in none of the turned numbers; what rounding adds is at most one.
func TestALostOneIsSofter(t *testing.T) {
	for _, f := range sampleFrames(t) {
		p := player(t, f.sizes, f.bits)
		was, err := p.Play(f.b)
		if err != nil {
			continue
		}
		for range mostLost {
			now := p.Lose()
			if len(now) != len(was) {
				t.Fatalf("%v has %d samples, then %d", f.sizes, len(was), len(now))
			}
			if most(now) > most(was)+1 {
				t.Errorf("%v became louder: %v", was, now)
			}
			was = now
		}
		if !silent(was) {
			t.Errorf("%v is not silent", was)
		}
	}
}

// most is how far from 0 the furthest is.
func most(l []int) int {
	far := 0
	for _, n := range l {
		far = max(far, n, -n)
	}
	return far
}

// TestPlayedBehindLostOnes has each frame behind another one that was lost so often.
func TestPlayedBehindLostOnes(t *testing.T) {
	all := allFrames(t)
	for turn, f := range all {
		want, ok := heard(f.l)
		if !ok {
			continue
		}
		p := player(t, f.sizes, f.bits)
		for range turn % 4 {
			p.Lose()
		}
		plays(t, p, f.b, want...)
		l := losesLike(t, p, f.l, turn%5)
		losesLike(t, p, l, 1)
		// The same one again is as loud as it was, and is lost as if it were the first one.
		plays(t, p, f.b, want...)
		losesLike(t, p, f.l, 2)
		if next := all[(turn+1)%len(all)]; next.bits == f.bits && slices.Equal(next.sizes, f.sizes) {
			if want, ok := heard(next.l); ok {
				plays(t, p, next.b, want...)
				losesLike(t, p, next.l, 3)
			}
		}
	}
}

func TestHowManyWereLost(t *testing.T) {
	p := player(t, []int{2}, 5)
	lost(t, p, 0)
	for i := range 5 {
		p.Lose()
		lost(t, p, i+1)
	}
	p.Play("")
	lost(t, p, 5)
	p.Play(tooLoud(t).b)
	lost(t, p, 5)
	p.Play("\x5b\x00")
	lost(t, p, 0)
	p.Play("")
	lost(t, p, 0)
	for i := range 1000 {
		p.Lose()
		lost(t, p, i+1)
	}
	p.Play("\x00")
	lost(t, p, 0)
	p.Lose()
	lost(t, p, 1)
}

// TestASilentOneIsPlayedToo has a frame of noughts behind a loud one: what is lost then is the silent one.
func TestASilentOneIsPlayedToo(t *testing.T) {
	p := player(t, []int{2}, 5)
	plays(t, p, "\x5b\x00", 11, 33)
	plays(t, p, "\x00", 0, 0)
	loses(t, p, 0, 0)
	// One that is loud, but has no pulse, is decoded as noughts, and stays so.
	q := player(t, []int{2}, 0)
	plays(t, q, string([]byte{52 << 2}), 0, 0)
	for range mostLost + 1 {
		loses(t, q, 0, 0)
	}
}

// TestTwoPlayers has two of them in turn, by the same sizes and by others.
func TestTwoPlayers(t *testing.T) {
	all := allFrames(t)
	for turn := range all {
		f, g := all[turn], all[(turn*31+7)%len(all)]
		first, ok := heard(f.l)
		second, fine := heard(g.l)
		if !ok || !fine {
			continue
		}
		p, q, r := player(t, f.sizes, f.bits), player(t, g.sizes, g.bits), player(t, f.sizes, f.bits)
		plays(t, p, f.b, first...)
		lost(t, q, 0)
		l := losesLike(t, p, f.l, 1)
		plays(t, q, g.b, second...)
		lost(t, p, 1)
		l = losesLike(t, p, l, 1)
		playsNone(t, q, "", api.ErrSyntax)
		losesLike(t, q, g.l, 1)
		losesLike(t, p, l, 1)
		lost(t, q, 1)
		// The third has played nothing, though it is of the same sizes.
		loses(t, r, repeat(0, total(f.sizes))...)
		plays(t, r, f.b, first...)
		lost(t, p, 3)
	}
}

// TestCallsWithoutARule has plays, losses and refused ones as they come, held against what was played last.
func TestCallsWithoutARule(t *testing.T) {
	by := map[string][]framed{}
	settings := map[string]framed{}
	for _, f := range allFrames(t) {
		key := string([]rune{rune(f.bits + 1)})
		for _, n := range f.sizes {
			key += string(rune('0' + n))
		}
		by[key], settings[key] = append(by[key], f), f
	}
	for key, frames := range by {
		p := player(t, settings[key].sizes, settings[key].bits)
		walk(t, p, frames, total(settings[key].sizes), uint32(len(key)))
	}
}

// walk calls a Player, which is new, as numbers without a rule tell.
func walk(t *testing.T, p *hide.Player, frames []framed, many int, seed uint32) {
	t.Helper()
	var last []api.Part
	misses := 0
	for _, n := range some(0, 999, 60, seed) {
		f := frames[n%len(frames)]
		want, ok := heard(f.l)
		switch {
		case n%5 < 2:
			misses++
			last = softened(last)
			want, _ = heard(last)
			if last == nil {
				want = repeat(0, many)
			}
			loses(t, p, want...)
		case n%5 == 2:
			playsNone(t, p, f.b+"\x00", api.ErrSyntax)
		case !ok:
			playsNone(t, p, f.b, api.ErrRange)
		default:
			last, misses = f.l, 0
			plays(t, p, f.b, want...)
		}
		lost(t, p, misses)
	}
}
