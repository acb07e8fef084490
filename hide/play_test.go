package hide_test

import (
	"strings"
	"testing"

	"pulsehorn/api"
	"pulsehorn/frame"
	"pulsehorn/hide"
	"pulsehorn/pack"
	"pulsehorn/plain"
)

// tooLoud is a frame that is read, but not decoded: all of 7680 is one number.
func tooLoud(t *testing.T) framed {
	t.Helper()
	return packed(t, parts(part(52, 8, 0)), []int{2}, 5)
}

func TestSomeFramesPlayed(t *testing.T) {
	p := player(t, []int{2}, 5)
	// Gain 22 is 44, and 4 and 4 of 8 pulses are its halves: 22 and 22.
	plays(t, p, "\x5b\x00", 11, 33)
	plays(t, p, packed(t, parts(part(22, -4, -4)), []int{2}, 5).b, -11, -33)
	plays(t, p, packed(t, parts(part(41, 7, -1)), []int{2}, 5).b, 1080, 936)
	plays(t, p, "\x00", 0, 0)
	q := player(t, []int{6}, 12)
	plays(t, q, string([]byte{188, 18, 192}), -1331, -1081, -831, -166, -831, -831)
	plays(t, q, string([]byte{186, 61, 64}), 1126, 844, 563, 844, 1126, 1126)
	r := player(t, []int{1, 3}, 225)
	plays(t, r, string([]byte{162, 128, 0}), -960, -960, -960, -960)
}

func TestPlayedAsRead(t *testing.T) {
	all := allFrames(t)
	right, not := 0, 0
	for _, f := range all {
		p := player(t, f.sizes, f.bits)
		want, ok := heard(f.l)
		if !ok {
			playsNone(t, p, f.b, api.ErrRange)
			not++
			continue
		}
		right++
		plays(t, p, f.b, want...)
		// Again, behind itself.
		plays(t, p, f.b, want...)
		if len(want) != total(f.sizes) {
			t.Errorf("%v has %d samples", f.sizes, len(want))
		}
	}
	if right < 1000 || not < 30 {
		t.Errorf("only %d were played, and %d were too loud", right, not)
	}
}

// playsAsLayers checks that Play tells what Decode tells of what Unpack reads, whatever the bytes are; it tells the error.
func playsAsLayers(t *testing.T, p *hide.Player, b string, sizes []int, bits int) api.Errno {
	t.Helper()
	l, err := pack.Unpack(b, sizes, bits)
	var want []int
	if err == nil {
		want, err = frame.Decode(l)
	}
	if err != nil {
		playsNone(t, p, b, plain.Told(err))
		return plain.Told(err)
	}
	plays(t, p, b, want...)
	return api.OK
}

// TestAnyBytesPlayedAsTheLayersTell has frames of which one bit is another, and bytes without a rule.
func TestAnyBytesPlayedAsTheLayersTell(t *testing.T) {
	told := map[api.Errno]int{}
	for turn, f := range allFrames(t) {
		p := player(t, f.sizes, f.bits)
		b := []byte(f.b)
		for i := turn % 5; i < 8*len(b); i += 5 {
			b[i/8] ^= 1 << (i % 8)
			told[playsAsLayers(t, p, string(b), f.sizes, f.bits)]++
			b[i/8] ^= 1 << (i % 8)
		}
		for i, n := range some(0, 255, len(b), uint32(turn)) {
			b[i] = byte(n)
		}
		told[playsAsLayers(t, p, string(b), f.sizes, f.bits)]++
	}
	for _, e := range []api.Errno{api.OK, api.ErrSyntax, api.ErrRange} {
		if told[e] < 100 {
			t.Errorf("%v was told %d times only", e, told[e])
		}
	}
}

func TestWhatIsNoFrame(t *testing.T) {
	for turn, f := range allFrames(t) {
		if turn%3 != 0 {
			continue
		}
		p := player(t, f.sizes, f.bits)
		playsNone(t, p, "", api.ErrSyntax)
		playsNone(t, p, f.b+"\x00", api.ErrSyntax)
		playsNone(t, p, f.b+"\xff", api.ErrSyntax)
		playsNone(t, p, f.b[:len(f.b)-1], api.ErrSyntax)
		playsNone(t, p, f.b+f.b, api.ErrSyntax)
		playsNone(t, p, strings.Repeat("\xff", len(f.b)), api.ErrSyntax)
	}
	p := player(t, []int{2}, 5)
	playsNone(t, p, strings.Repeat("\x00", 5000), api.ErrSyntax)
	playsNone(t, p, strings.Repeat("\x00", 1<<24), api.ErrSyntax)
	playsNone(t, p, "\x5b\x01", api.ErrSyntax)
}

func TestAGainOfWhichThereIsNoValue(t *testing.T) {
	p := player(t, []int{2}, 0)
	for g := range 64 {
		b := string([]byte{byte(g << 2)})
		if g < len(values) && values[g] >= 0 {
			plays(t, p, b, 0, 0)
		} else {
			playsNone(t, p, b, api.ErrSyntax)
		}
	}
}

// TestUnpackAheadOfDecode has frames that are too loud, and no frames besides.
func TestUnpackAheadOfDecode(t *testing.T) {
	f := tooLoud(t)
	p := player(t, f.sizes, f.bits)
	playsNone(t, p, f.b, api.ErrRange)
	playsNone(t, p, f.b+"\x00", api.ErrSyntax)
	playsNone(t, p, f.b[:len(f.b)-1], api.ErrSyntax)
	last := []byte(f.b)
	last[len(last)-1] |= 1
	playsNone(t, p, string(last), api.ErrSyntax)
	playsNone(t, p, f.b, api.ErrRange)
}

// TestHowLoudMayBe has each Gain, as one number: 3840 goes, and 4608 does not.
func TestHowLoudMayBe(t *testing.T) {
	for _, g := range rightGains()[1:] {
		for _, sign := range []int{1, -1} {
			f := packed(t, parts(part(g, sign, 0)), []int{2}, 2)
			p := player(t, f.sizes, f.bits)
			if g > 48 {
				playsNone(t, p, f.b, api.ErrRange)
			} else {
				plays(t, p, f.b, sign*values[g], sign*values[g])
			}
		}
	}
	// In several numbers a louder one goes, too.
	f := packed(t, parts(part(52, 4, 4)), []int{2}, 5)
	plays(t, player(t, f.sizes, f.bits), f.b, 1920, 5760)
}

// TestARefusedOneIsNotPlayed has refused ones behind one that was played, and behind lost ones.
func TestARefusedOneIsNotPlayed(t *testing.T) {
	refused := func(p *hide.Player) {
		playsNone(t, p, "", api.ErrSyntax)
		playsNone(t, p, tooLoud(t).b, api.ErrRange)
		playsNone(t, p, "\xff\xff", api.ErrSyntax)
		playsNone(t, p, "\x5b\x00\x00", api.ErrSyntax)
	}
	p := player(t, []int{2}, 5)
	refused(p)
	lost(t, p, 0)
	loses(t, p, 0, 0)
	refused(p)
	lost(t, p, 1)
	loses(t, p, 0, 0)
	plays(t, p, "\x5b\x00", 11, 33)
	refused(p)
	lost(t, p, 0)
	loses(t, p, 5, 16)
	refused(p)
	lost(t, p, 1)
	loses(t, p, 2, 7)
	refused(p)
	lost(t, p, 2)
	plays(t, p, "\x5b\x00", 11, 33)
	loses(t, p, 5, 16)
}

// TestEachRefusedOneIsNotPlayed has each frame that is too loud, and what is none, between a frame and its loss.
func TestEachRefusedOneIsNotPlayed(t *testing.T) {
	found := 0
	for _, f := range allFrames(t) {
		if _, ok := heard(f.l); ok {
			continue
		}
		found++
		p := player(t, f.sizes, f.bits)
		playsNone(t, p, f.b, api.ErrRange)
		loses(t, p, repeat(0, total(f.sizes))...)
		good := byHand(t, repeat(30, len(f.sizes)), f.sizes, f.bits, 2)
		want, _ := heard(good.l)
		plays(t, p, good.b, want...)
		playsNone(t, p, f.b, api.ErrRange)
		playsNone(t, p, good.b+"\x00", api.ErrSyntax)
		l := losesLike(t, p, good.l, 2)
		playsNone(t, p, f.b, api.ErrRange)
		losesLike(t, p, l, 2)
	}
	if found < 30 {
		t.Errorf("only %d were too loud", found)
	}
}

// TestTextsAreBytes has what would be one sign of two bytes, and what is no sign at all.
func TestTextsAreBytes(t *testing.T) {
	f := packed(t, parts(part(48, 7, -1)), []int{2}, 5)
	if f.b != "\xc3\xa0" {
		t.Fatalf("%v is another text", []byte(f.b))
	}
	want, _ := heard(f.l)
	plays(t, player(t, f.sizes, f.bits), "à", want...)
}

func TestFramesByOtherSizesAndBits(t *testing.T) {
	told := map[api.Errno]int{}
	all := handFrames(t)
	for turn, f := range all {
		other := all[(turn*37+5)%len(all)]
		told[playsAsLayers(t, player(t, other.sizes, other.bits), f.b, other.sizes, other.bits)]++
	}
	if told[api.ErrSyntax] < 100 {
		t.Errorf("only %d were none", told[api.ErrSyntax])
	}
}
