package scale_test

import (
	"math"
	"slices"
	"testing"

	"pulsehorn/api"
	"pulsehorn/plain"
	"pulsehorn/scale"
)

// repeat makes a list of one number, so many times.
func repeat(n, many int) []int {
	return slices.Repeat([]int{n}, many)
}

// place puts a number into a list of others.
func place(other, many, at, n int) []int {
	l := repeat(other, many)
	l[at] = n
	return l
}

// behind puts numbers behind each other, in memory of their own.
func behind(l []int, more ...int) []int {
	return slices.Concat(l, more)
}

// added is how many there are in all.
func added(l []int) int {
	total := 0
	for _, n := range l {
		total += n
	}
	return total
}

// each goes over all lists of so many numbers, of those that are named.
func each(many int, of []int, do func([]int)) {
	if many == 0 {
		do(nil)
		return
	}
	each(many-1, of, func(l []int) {
		for _, n := range of {
			do(behind(l, n))
		}
	})
}

// shared checks the shares of counts.
func shared(t *testing.T, counts, want []int) {
	t.Helper()
	if got, err := scale.Of(counts); !slices.Equal(got, want) || err != nil {
		t.Errorf("Of %v: %v %v, want %v", counts, got, err, want)
	}
}

// started checks where shares start.
func started(t *testing.T, f, want []int) {
	t.Helper()
	if got, err := scale.Starts(f); !slices.Equal(got, want) || err != nil {
		t.Errorf("Starts of %v: %v %v, want %v", f, got, err, want)
	}
}

// found checks which sign has a place.
func found(t *testing.T, f []int, at, want int) {
	t.Helper()
	if got, err := scale.Find(f, at); got != want || err != nil {
		t.Errorf("Find of %v, %d: %d %v, want %d", f, at, got, err, want)
	}
}

// notShared checks that Of tells an error, and answers nothing else.
func notShared(t *testing.T, counts []int, want api.Errno) {
	t.Helper()
	if got, err := scale.Of(counts); len(got) != 0 || plain.Told(err) != want {
		t.Errorf("Of %v: %v %v, want %v", counts, got, err, want)
	}
}

// notStarted checks that Starts tells ErrShape, and answers nothing else.
func notStarted(t *testing.T, f []int) {
	t.Helper()
	if got, err := scale.Starts(f); len(got) != 0 || plain.Told(err) != api.ErrShape {
		t.Errorf("Starts of %v: %v %v, want ErrShape", f, got, err)
	}
}

// notFound checks that Find tells an error, and answers nothing else.
func notFound(t *testing.T, f []int, at int, want api.Errno) {
	t.Helper()
	if got, err := scale.Find(f, at); got != 0 || plain.Told(err) != want {
		t.Errorf("Find of %v, %d: %d %v, want %v", f, at, got, err, want)
	}
}

// known has counts, and their shares as they were worked out by hand.
func known() map[string]struct{ counts, shares []int } {
	type row = struct{ counts, shares []int }
	return map[string]row{
		"one sign":                         {[]int{1}, []int{256}},
		"one sign, counted often":          {[]int{7}, []int{256}},
		"one sign, MaxCount":               {[]int{1_000_000}, []int{256}},
		"two alike":                        {[]int{5, 5}, []int{128, 128}},
		"just Total":                       {[]int{128, 128}, []int{128, 128}},
		"just Total, uneven":               {[]int{1, 255}, []int{1, 255}},
		"powers of two":                    {[]int{1, 1, 2, 4}, []int{32, 32, 64, 128}},
		"one counted, the first":           {[]int{3, 0, 0}, []int{256, 0, 0}},
		"one counted, the last":            {[]int{0, 0, 3}, []int{0, 0, 256}},
		"one counted, in the middle":       {[]int{0, 3, 0}, []int{0, 256, 0}},
		"fewer, the first of three":        {[]int{1, 1, 1}, []int{86, 85, 85}},
		"fewer, the first that has some":   {[]int{0, 1, 1, 1, 0}, []int{0, 86, 85, 85, 0}},
		"fewer, the greatest is last":      {[]int{1, 2}, []int{85, 171}},
		"fewer, the greatest is first":     {[]int{2, 1}, []int{171, 85}},
		"fewer, two are greatest":          {[]int{1, 2, 2}, []int{51, 103, 102}},
		"fewer by two, both to one":        {[]int{1, 3, 3, 2}, []int{28, 87, 85, 56}},
		"fewer by four, all to one":        {repeat(1, 7), []int{40, 36, 36, 36, 36, 36, 36}},
		"fewer by four, the first of some": {[]int{1, 2, 2, 1, 1, 2}, []int{28, 60, 56, 28, 28, 56}},
		"MaxSign alike":                    {repeat(1, 40), place(6, 40, 0, 22)},
		"MaxSign of MaxCount":              {repeat(1_000_000, 40), place(6, 40, 0, 22)},
		"MaxSign, the last alone":          {place(0, 40, 39, 1), place(0, 40, 39, 256)},
		"1 at least, and just Total":       {[]int{1, 1_000_000}, []int{1, 255}},
		"1 at least, and yet fewer":        {behind([]int{1}, repeat(1_000_000, 39)...), behind([]int{1, 27}, repeat(6, 38)...)},
		"more by one":                      {[]int{1, 1, 1_000_000}, []int{1, 1, 254}},
		"more by one, the greatest first":  {[]int{1_000_000, 1, 1}, []int{254, 1, 1}},
		"more by one, 0 stays 0":           {[]int{0, 1, 0, 1_000_000, 1, 0}, []int{0, 1, 0, 254, 1, 0}},
		"more by one, two are greatest":    {[]int{1_000_000, 1_000_000, 1, 1, 1}, []int{126, 127, 1, 1, 1}},
		"more by two, one each":            {[]int{1_000_000, 1_000_000, 1, 1, 1, 1}, []int{126, 126, 1, 1, 1, 1}},
		"more by 35, in turn":              {behind([]int{1_000_000, 1_000_000, 0}, repeat(1, 37)...), behind([]int{109, 110, 0}, repeat(1, 37)...)},
		"more by 37, then in turn":         {behind([]int{1_000_000, 990_000}, repeat(1, 38)...), behind([]int{109, 109}, repeat(1, 38)...)},
		"more by 36, the second is ahead":  {behind([]int{990_000, 1_000_000}, repeat(1, 37)...), behind([]int{109, 110}, repeat(1, 37)...)},
		"one MaxCount, first":              {place(1, 40, 0, 1_000_000), place(1, 40, 0, 217)},
		"one MaxCount, in the middle":      {place(1, 40, 20, 1_000_000), place(1, 40, 20, 217)},
		"one MaxCount, last":               {place(1, 40, 39, 1_000_000), place(1, 40, 39, 217)},
	}
}

// rounded are shares ahead of their levelling, each counted up one by one rather than divided.
func rounded(counts []int) []int {
	f := make([]int, len(counts))
	for i, n := range counts {
		for (f[i]+1)*added(counts) <= n*256 {
			f[i]++
		}
		if n > 0 && f[i] == 0 {
			f[i] = 1
		}
	}
	return f
}

// levelled brings shares to 256, by going over all of them for each step.
func levelled(f []int) []int {
	f = slices.Clone(f)
	for added(f) != 256 {
		greatest := 0
		for i := range f {
			if f[i] > f[greatest] {
				greatest = i
			}
		}
		if added(f) > 256 {
			f[greatest]--
		} else {
			f[greatest]++
		}
	}
	return f
}

// uneven has long lists of counts, without a rule that shares could follow, some of them 0 and some great.
func uneven() [][]int {
	var all [][]int
	for many := 1; many <= 40; many++ {
		for seed := range 30 {
			counts := make([]int, many)
			for i := range counts {
				n := (seed*7919 + i*i*613 + seed*i*271 + many*31) % 1009
				switch seed % 5 {
				case 1:
					n = max(0, n-700)
				case 2:
					n = n % 2
				case 3:
					n = min(n*n, 1_000_000)
				case 4:
					n = 1 + n/1000*900_000
				}
				counts[i] = n
			}
			if added(counts) > 0 {
				all = append(all, counts)
			}
		}
	}
	return all
}

// rightShares has shares with which nothing is wrong.
func rightShares() map[string][]int {
	return map[string][]int{
		"one":                       {256},
		"two":                       {77, 179},
		"two, of which one has one": {255, 1},
		"the first has all":         {256, 0},
		"the last has all":          {0, 256},
		"some":                      {86, 85, 85},
		"none at first":             {0, 0, 0, 42, 214},
		"none at last":              {86, 85, 85, 0, 0},
		"none at both ends":         {0, 100, 156, 0},
		"none between":              {64, 64, 64, 0, 32, 0, 0, 32},
		"the first has one":         {1, 0, 0, 255},
		"MaxSign":                   place(6, 40, 0, 22),
		"MaxSign, the last has all": place(0, 40, 39, 256),
		"MaxSign, the first":        place(0, 40, 0, 256),
		"MaxSign, the middle":       place(0, 40, 20, 256),
		"MaxSign, of ones":          place(1, 40, 39, 217),
		"MaxSign, every other":      slices.Repeat([]int{0, 20, 0, 0, 24, 0, 0, 20, 0, 0}, 4),
	}
}

// wrongShares has shares with which something is wrong.
func wrongShares() map[string][]int {
	return map[string][]int{
		"nil":                                 nil,
		"none":                                {},
		"one more than MaxSign":               place(6, 41, 0, 16),
		"one more than MaxSign, of nothing":   behind(place(6, 40, 0, 22), 0),
		"one more than MaxSign, one has all":  place(0, 41, 0, 256),
		"Total of ones":                       repeat(1, 256),
		"far too many":                        place(0, 5000, 7, 256),
		"one of 0":                            {0},
		"MaxSign of 0":                        repeat(0, 40),
		"one is one fewer":                    {255},
		"one is one more":                     {257},
		"one fewer in all":                    {86, 85, 84},
		"one more in all":                     {86, 85, 86},
		"one fewer in all, MaxSign":           place(6, 40, 0, 21),
		"one more in all, MaxSign":            place(6, 40, 0, 23),
		"twice Total":                         {256, 256},
		"below 0":                             {-1},
		"less Total":                          {-256},
		"the first is below 0, Total in all":  {-1, 257},
		"the last is below 0, Total in all":   {257, -1},
		"one is below 0, none above Total":    {200, -1, 57},
		"the last of MaxSign is below 0":      behind(place(6, 39, 0, 29), -1),
		"the least":                           {math.MinInt},
		"the greatest":                        {math.MaxInt},
		"greatest and least, Total in all":    {math.MaxInt, math.MinInt, 257},
		"least, twice, and Total":             {math.MinInt, math.MinInt, 256},
		"greatest, twice, run over to Total":  {math.MaxInt, math.MaxInt, 258},
		"2^62, four times, run over to Total": {1 << 62, 1 << 62, 1 << 62, 1 << 62, 256},
		"2^63 by two, run over to Total":      {1 << 62, 1 << 62, math.MaxInt, 257},
		"2^60, sixteen times, run over":       behind(repeat(1<<60, 16), 255, 1),
		"MaxSign, run over to Total":          behind(repeat(1<<59, 32), behind(repeat(0, 7), 256)...),
		"2^32, which few bits would not tell": {1 << 32, 256},
		"2^32 and Total":                      {1<<32 + 256},
		"2^62, which few bits would not tell": {1 << 62, 1 << 62, 256},
	}
}

func TestOfKnownCounts(t *testing.T) {
	for name, c := range known() {
		t.Run(name, func(t *testing.T) {
			shared(t, c.counts, c.shares)
		})
	}
}

func TestOfEveryFewCounts(t *testing.T) {
	held := func(counts []int) {
		if added(counts) > 0 {
			shared(t, counts, levelled(rounded(counts)))
		}
	}
	for many := 1; many <= 4; many++ {
		each(many, []int{0, 1, 2, 3, 7, 255, 256, 257, 999_999, 1_000_000}, held)
	}
	each(6, []int{0, 1, 2, 1_000_000}, held)
	each(9, []int{0, 1, 3}, held)
}

func TestOfLongLists(t *testing.T) {
	more, fewer := 0, 0
	for _, counts := range uneven() {
		f := rounded(counts)
		switch {
		case added(f) > 256:
			more++
		case added(f) < 256:
			fewer++
		}
		shared(t, counts, levelled(f))
	}
	// Else nothing would be told of one of both.
	if more < 20 || fewer < 20 {
		t.Errorf("%d lists have more than Total, %d fewer", more, fewer)
	}
}

// TestAsManySigns has MaxCount, 1 and 0 at every place of lists of every length.
func TestAsManySigns(t *testing.T) {
	for many := 1; many <= 40; many++ {
		shared(t, repeat(1_000_000, many), levelled(repeat(256/many, many)))
		for at := range many {
			shared(t, place(0, many, at, 1), place(0, many, at, 256))
			shared(t, place(0, many, at, 1_000_000), place(0, many, at, 256))
			shared(t, place(1, many, at, 1_000_000), place(1, many, at, 256-many+1))
		}
	}
}

// TestSharesAreRight looks at what must hold of all shares, however they are worked out.
func TestSharesAreRight(t *testing.T) {
	lists := uneven()
	for _, c := range known() {
		lists = append(lists, c.counts)
	}
	for _, counts := range lists {
		f, err := scale.Of(counts)
		if err != nil || len(f) != len(counts) || added(f) != 256 {
			t.Fatalf("Of %v: %v %v, %d in all", counts, f, err, added(f))
		}
		for i, n := range counts {
			if n > 0 && f[i] < 1 || n == 0 && f[i] != 0 {
				t.Errorf("Of %v: %v, at %d", counts, f, i)
			}
		}
		if _, err := scale.Starts(f); err != nil {
			t.Errorf("Starts of %v: %v", f, err)
		}
	}
}

func TestOfNoCounts(t *testing.T) {
	notShared(t, nil, api.ErrNone)
	notShared(t, []int{}, api.ErrNone)
	notShared(t, []int{5, 6}[:0], api.ErrNone)
}

func TestOfTooManyCounts(t *testing.T) {
	shared(t, repeat(1, 40), place(6, 40, 0, 22))
	notShared(t, repeat(1, 41), api.ErrFull)
	notShared(t, place(0, 41, 40, 1), api.ErrFull)
	notShared(t, repeat(1, 256), api.ErrFull)
	notShared(t, repeat(1, 5000), api.ErrFull)
}

func TestOfCountsThatMayNotBe(t *testing.T) {
	shared(t, []int{0, 1_000_000}, []int{0, 256})
	for _, n := range []int{-1, 1_000_001, -2, 1_000_002, -1_000_000, 1 << 32, 1<<32 + 1, -1 << 32, 1 << 56, 1 << 62, math.MinInt, math.MinInt + 1, math.MaxInt, math.MaxInt - 1} {
		for _, other := range []int{0, 1, 1_000_000} {
			for _, many := range []int{1, 2, 3, 40} {
				notShared(t, place(other, many, 0, n), api.ErrRange)
				notShared(t, place(other, many, many-1, n), api.ErrRange)
				notShared(t, place(other, many, many/2, n), api.ErrRange)
			}
		}
		notShared(t, []int{n, n}, api.ErrRange)
	}
}

func TestOfCountsThatRunOver(t *testing.T) {
	notShared(t, []int{math.MaxInt, math.MaxInt, 3}, api.ErrRange)
	notShared(t, []int{math.MaxInt, math.MinInt, 2}, api.ErrRange)
	notShared(t, []int{5, -5}, api.ErrRange)
	notShared(t, []int{-5, 6}, api.ErrRange)
	notShared(t, []int{math.MinInt, math.MinInt}, api.ErrRange)
}

func TestOfCountsThatAreAll0(t *testing.T) {
	for many := 1; many <= 40; many++ {
		notShared(t, repeat(0, many), api.ErrNone)
	}
}

func TestTheFirstNamedIsToldByOf(t *testing.T) {
	// Too many, ahead of one that may not be, and of none that was counted.
	notShared(t, repeat(-1, 41), api.ErrFull)
	notShared(t, place(0, 41, 0, math.MinInt), api.ErrFull)
	notShared(t, place(1, 41, 40, math.MaxInt), api.ErrFull)
	notShared(t, repeat(0, 41), api.ErrFull)
	// One that may not be, ahead of none that was counted.
	notShared(t, []int{0, -1}, api.ErrRange)
	notShared(t, []int{-1, 0}, api.ErrRange)
	notShared(t, []int{-1, 1}, api.ErrRange)
	notShared(t, place(0, 40, 39, -1), api.ErrRange)
}

func TestSomeStarts(t *testing.T) {
	for _, c := range []struct{ f, want []int }{
		{[]int{256}, []int{0}},
		{[]int{77, 179}, []int{0, 77}},
		{[]int{255, 1}, []int{0, 255}},
		{[]int{0, 256}, []int{0, 0}},
		{[]int{256, 0}, []int{0, 256}},
		{[]int{86, 85, 85, 0}, []int{0, 86, 171, 256}},
		{[]int{64, 64, 64, 0, 32, 0, 32}, []int{0, 64, 128, 192, 192, 224, 224}},
		{[]int{0, 0, 0, 42, 0, 88, 42, 42, 42}, []int{0, 0, 0, 0, 42, 42, 130, 172, 214}},
		{place(0, 40, 0, 256), place(256, 40, 0, 0)},
		{place(0, 40, 39, 256), repeat(0, 40)},
	} {
		started(t, c.f, c.want)
	}
}

func TestStartsAreWhatIsAhead(t *testing.T) {
	for name, f := range rightShares() {
		t.Run(name, func(t *testing.T) {
			want := make([]int, len(f))
			for i := range f {
				want[i] = added(f[:i])
			}
			started(t, f, want)
		})
	}
}

func TestSomePlaces(t *testing.T) {
	for _, c := range []struct {
		f        []int
		at, want int
	}{
		{[]int{256}, 0, 0}, {[]int{256}, 255, 0},
		{[]int{77, 179}, 76, 0}, {[]int{77, 179}, 77, 1}, {[]int{77, 179}, 78, 1},
		{[]int{255, 1}, 254, 0}, {[]int{255, 1}, 255, 1}, {[]int{1, 255}, 0, 0}, {[]int{1, 255}, 1, 1},
		// Signs without a share start with one that has some, ahead of it and behind it.
		{[]int{0, 256}, 0, 1}, {[]int{256, 0}, 255, 0}, {[]int{256, 0}, 0, 0}, {[]int{0, 256, 0}, 0, 1}, {[]int{0, 256, 0}, 255, 1},
		{[]int{64, 0, 0, 192}, 63, 0}, {[]int{64, 0, 0, 192}, 64, 3},
		{[]int{64, 64, 64, 0, 32, 0, 32}, 191, 2}, {[]int{64, 64, 64, 0, 32, 0, 32}, 192, 4}, {[]int{64, 64, 64, 0, 32, 0, 32}, 223, 4}, {[]int{64, 64, 64, 0, 32, 0, 32}, 224, 6},
		{place(0, 40, 39, 256), 0, 39}, {place(0, 40, 0, 256), 255, 0}, {place(6, 40, 0, 22), 249, 38}, {place(6, 40, 0, 22), 250, 39},
	} {
		found(t, c.f, c.at, c.want)
	}
}

// TestEveryPlace lays each sign down as often as its share says: so there is one at each place.
func TestEveryPlace(t *testing.T) {
	for name, f := range rightShares() {
		t.Run(name, func(t *testing.T) {
			var signs []int
			for sign, n := range f {
				signs = append(signs, repeat(sign, n)...)
			}
			if len(signs) != 256 {
				t.Fatalf("%v has %d places", f, len(signs))
			}
			for at, sign := range signs {
				found(t, f, at, sign)
			}
		})
	}
}

func TestEveryPlaceOfSharesThatWereMade(t *testing.T) {
	for _, counts := range uneven() {
		f, _ := scale.Of(counts)
		starts, err := scale.Starts(f)
		if err != nil {
			t.Fatalf("Starts of %v: %v", f, err)
		}
		for sign, n := range f {
			if n > 0 {
				found(t, f, starts[sign], sign)
				found(t, f, starts[sign]+n-1, sign)
			}
		}
	}
}

func TestWrongSharesAreTold(t *testing.T) {
	for name, f := range wrongShares() {
		t.Run(name, func(t *testing.T) {
			notStarted(t, f)
			// Also at places that are none: what is wrong with shares is told first.
			for _, at := range []int{0, 1, 255, -1, 256, math.MinInt, math.MaxInt} {
				notFound(t, f, at, api.ErrShape)
			}
		})
	}
}

func TestOneMoreAndOneFewerAtEachSign(t *testing.T) {
	for name, right := range rightShares() {
		t.Run(name, func(t *testing.T) {
			for i := range right {
				for _, by := range []int{-257, -256, -1, 1, 256, 257, 1 << 32, 1 << 62} {
					f := slices.Clone(right)
					f[i] += by
					notStarted(t, f)
					notFound(t, f, 0, api.ErrShape)
				}
			}
		})
	}
}

func TestEveryFewShares(t *testing.T) {
	for many := range 5 {
		each(many, []int{-256, -1, 0, 1, 127, 128, 129, 254, 255, 256, 257, 512}, func(f []int) {
			_, err := scale.Starts(f)
			_, ill := scale.Find(f, 128)
			want := api.ErrShape
			if len(f) > 0 && slices.Min(f) >= 0 && added(f) == 256 {
				want = api.OK
			}
			if plain.Told(err) != want || plain.Told(ill) != want {
				t.Errorf("shares %v: Starts %v, Find %v, want %v", f, err, ill, want)
			}
		})
	}
}

func TestPlacesThatAreNone(t *testing.T) {
	for name, f := range rightShares() {
		t.Run(name, func(t *testing.T) {
			for _, at := range []int{-1, 256, -2, 257, -256, 512, 1 << 32, -1 << 32, 1<<32 + 1, math.MinInt, math.MinInt + 1, math.MaxInt, math.MaxInt - 1} {
				notFound(t, f, at, api.ErrRange)
			}
		})
	}
}

// TestListsAreLeftAlone looks at lists, and at what stands behind their lengths, after each call.
func TestListsAreLeftAlone(t *testing.T) {
	var lists [][]int
	for _, c := range known() {
		lists = append(lists, c.counts, c.shares)
	}
	for _, f := range rightShares() {
		lists = append(lists, f)
	}
	for _, f := range wrongShares() {
		lists = append(lists, f)
	}
	for _, l := range lists {
		whole := behind(l, 77, -77, 78)
		kept := slices.Clone(whole)
		given := whole[:len(l)]
		scale.Of(given)
		scale.Starts(given)
		for _, at := range []int{-1, 0, 100, 255, 256} {
			scale.Find(given, at)
		}
		if !slices.Equal(whole, kept) {
			t.Errorf("%v became %v", kept, whole)
		}
	}
}

func TestWhatStandsBehindIsNotRead(t *testing.T) {
	l := []int{1, 255, -1, math.MaxInt, 256}
	shared(t, l[:2], []int{1, 255})
	started(t, l[:2], []int{0, 1})
	found(t, l[:2], 1, 1)
	found(t, l[:2], 255, 1)
	notShared(t, l[:0], api.ErrNone)
	notStarted(t, l[:0])
	notStarted(t, l[:1])
	notFound(t, l[:0], 0, api.ErrShape)
	long := behind(repeat(1, 40), -1, math.MinInt)
	shared(t, long[:40], place(6, 40, 0, 22))
	shares := behind(place(6, 40, 0, 22), 6, 256)
	started(t, shares[:40], behind([]int{0}, upBy(22, 6, 39)...))
	found(t, shares[:40], 255, 39)
}

// upBy has so many numbers, each greater than the one ahead by one step.
func upBy(first, step, many int) []int {
	l := make([]int, many)
	for i := range l {
		l[i] = first + i*step
	}
	return l
}

// spoil writes over a list, and over what stands behind it.
func spoil(l []int) {
	l = l[:cap(l)]
	for i := range l {
		l[i] = 99
	}
}

// fresh checks that what a call answers shares no memory with what it is given, nor with what it answers next.
func fresh(t *testing.T, l []int, call func([]int) ([]int, error)) {
	t.Helper()
	whole := behind(l, 77, 78, 79)
	kept := slices.Clone(whole)
	given := whole[:len(l)]
	first, err := call(given)
	if err != nil {
		t.Fatalf("%v: %v", l, err)
	}
	want := slices.Clone(first)
	second, _ := call(given)
	_ = append(first, 55, 56)
	spoil(first)
	if !slices.Equal(whole, kept) {
		t.Errorf("%v became %v with what came out", kept, whole)
	}
	spoil(whole)
	if !slices.Equal(second, want) {
		t.Errorf("%v: %v became %v", l, want, second)
	}
	if third, err := call(slices.Clone(l)); !slices.Equal(third, want) || err != nil {
		t.Errorf("%v: %v %v, at first %v", l, third, err, want)
	}
}

func TestSharesAreFreshEachTime(t *testing.T) {
	for _, c := range known() {
		fresh(t, c.counts, scale.Of)
		// Of shares as counts come just the same, so that it would be easy to hand these out again.
		shared(t, c.shares, c.shares)
		fresh(t, c.shares, scale.Of)
	}
}

func TestStartsAreFreshEachTime(t *testing.T) {
	for _, f := range rightShares() {
		fresh(t, f, scale.Starts)
	}
}

func TestCallsAheadChangeNothing(t *testing.T) {
	f := []int{86, 85, 85}
	for range 2 {
		shared(t, []int{1, 1, 1}, f)
		notShared(t, []int{0}, api.ErrNone)
		notShared(t, []int{-1}, api.ErrRange)
		started(t, f, []int{0, 86, 171})
		notStarted(t, []int{255})
		found(t, f, 171, 2)
		notFound(t, f, 256, api.ErrRange)
		notFound(t, []int{255}, 0, api.ErrShape)
		found(t, f, 85, 0)
	}
}
