package band_test

import (
	"math"
	"reflect"
	"slices"
	"testing"

	"pulsehorn/api"
	"pulsehorn/band"
	"pulsehorn/plain"
)

// repeat makes a list of one number, so many times.
func repeat(n, many int) []int {
	return slices.Repeat([]int{n}, many)
}

// upward has the numbers from 1 to so many.
func upward(many int) []int {
	l := make([]int, many)
	for i := range l {
		l[i] = i + 1
	}
	return l
}

// place puts a number into a list of ones.
func place(many, at, n int) []int {
	l := repeat(1, many)
	l[at] = n
	return l
}

// copied has bands in memory of their own.
func copied(l [][]int) [][]int {
	out := slices.Clone(l)
	for i := range out {
		out[i] = slices.Clone(out[i])
	}
	return out
}

// shaped makes bands of the lengths that are named, whatever these are.
func shaped(lengths ...int) [][]int {
	var l [][]int
	for i, n := range lengths {
		l = append(l, repeat(i+1, n))
	}
	return l
}

// good has the sizes that no call refuses, and how many numbers they have.
func good() map[string]struct {
	sizes []int
	total int
} {
	type row = struct {
		sizes []int
		total int
	}
	return map[string]row{
		"one of one":              {[]int{1}, 1},
		"one of some":             {[]int{4}, 4},
		"one of most":             {[]int{6}, 6},
		"two":                     {[]int{1, 6}, 7},
		"two, turned":             {[]int{6, 1}, 7},
		"some":                    {[]int{2, 1, 5}, 8},
		"each size":               {[]int{1, 2, 3, 4, 5, 6}, 21},
		"most bands of one":       {[]int{1, 1, 1, 1, 1, 1, 1, 1}, 8},
		"most bands, most in all": {[]int{4, 4, 4, 4, 4, 4, 4, 4}, 32},
		"most bands, uneven":      {[]int{6, 1, 6, 2, 6, 3, 6, 2}, 32},
		"one short of most":       {[]int{6, 6, 6, 6, 6, 1}, 31},
		"few bands, most in all":  {[]int{6, 6, 6, 6, 6, 2}, 32},
		"five of most":            {[]int{6, 6, 6, 6, 6}, 30},
		"last is the greatest":    {[]int{5, 5, 5, 5, 6, 6}, 32},
	}
}

// faulty has sizes that every call refuses, and which error it tells of them.
func faulty() map[string]struct {
	sizes []int
	want  api.Errno
} {
	type row = struct {
		sizes []int
		want  api.Errno
	}
	return map[string]row{
		"nil":                                 {nil, api.ErrNone},
		"empty":                               {[]int{}, api.ErrNone},
		"one band too many":                   {repeat(1, 9), api.ErrFull},
		"far too many bands":                  {repeat(1, 5000), api.ErrFull},
		"too many, of which one is 0":         {place(9, 3, 0), api.ErrFull},
		"too many, all wrong":                 {repeat(math.MinInt, 9), api.ErrFull},
		"too many, which come to few":         {repeat(0, 9), api.ErrFull},
		"of 0":                                {[]int{0}, api.ErrRange},
		"one above":                           {[]int{7}, api.ErrRange},
		"below 0":                             {[]int{-1}, api.ErrRange},
		"the least":                           {[]int{math.MinInt}, api.ErrRange},
		"the greatest":                        {[]int{math.MaxInt}, api.ErrRange},
		"the first is 0":                      {[]int{0, 1, 1}, api.ErrRange},
		"the last is 0":                       {[]int{1, 1, 0}, api.ErrRange},
		"the first is above":                  {[]int{7, 1, 1}, api.ErrRange},
		"the last is above":                   {[]int{1, 1, 7}, api.ErrRange},
		"the last of most is 0":               {place(8, 7, 0), api.ErrRange},
		"the last of most is above":           {place(8, 7, 7), api.ErrRange},
		"below 0, which come to one":          {[]int{6, -5}, api.ErrRange},
		"greatest and least, which come to 1": {[]int{math.MaxInt, math.MinInt, 2}, api.ErrRange},
		"two greatest and 3, which come to 1": {[]int{math.MaxInt, math.MaxInt, 3}, api.ErrRange},
		"above, and more than may be in all":  {[]int{6, 6, 6, 6, 6, 6, 7}, api.ErrRange},
		"more than may be in all, then 0":     {[]int{6, 6, 6, 6, 6, 6, 0}, api.ErrRange},
		"one that has all":                    {[]int{32}, api.ErrRange},
		"one that has more than all":          {[]int{33}, api.ErrRange},
		"one number too many":                 {[]int{6, 6, 6, 6, 6, 3}, api.ErrFull},
		"one number too many, most bands":     {[]int{4, 4, 4, 4, 4, 4, 4, 5}, api.ErrFull},
		"one number too many, by the first":   {[]int{5, 4, 4, 4, 4, 4, 4, 4}, api.ErrFull},
		"most bands of most":                  {repeat(6, 8), api.ErrFull},
	}
}

// checked checks how many numbers there are.
func checked(t *testing.T, sizes []int, want int) {
	t.Helper()
	if n, err := band.Check(sizes); n != want || err != nil {
		t.Errorf("Check of %v: %d %v, want %d", sizes, n, err, want)
	}
}

// split checks the bands of numbers.
func split(t *testing.T, l, sizes []int, want [][]int) {
	t.Helper()
	if got, err := band.Split(l, sizes); !reflect.DeepEqual(got, want) || err != nil {
		t.Errorf("Split of %v, %v: %v %v, want %v", l, sizes, got, err, want)
	}
}

// joined checks the numbers of bands.
func joined(t *testing.T, l [][]int, sizes, want []int) {
	t.Helper()
	if got, err := band.Join(l, sizes); !slices.Equal(got, want) || err != nil {
		t.Errorf("Join of %v, %v: %v %v, want %v", l, sizes, got, err, want)
	}
}

// notChecked checks that Check tells an error, and answers nothing else.
func notChecked(t *testing.T, sizes []int, want api.Errno) {
	t.Helper()
	if n, err := band.Check(sizes); n != 0 || plain.Told(err) != want {
		t.Errorf("Check of %v: %d %v, want %v", sizes, n, err, want)
	}
}

// notSplit checks that Split tells an error, and answers nothing else.
func notSplit(t *testing.T, l, sizes []int, want api.Errno) {
	t.Helper()
	if got, err := band.Split(l, sizes); got != nil || plain.Told(err) != want {
		t.Errorf("Split of %v, %v: %v %v, want %v", l, sizes, got, err, want)
	}
}

// notJoined checks that Join tells an error, and answers nothing else.
func notJoined(t *testing.T, l [][]int, sizes []int, want api.Errno) {
	t.Helper()
	if got, err := band.Join(l, sizes); got != nil || plain.Told(err) != want {
		t.Errorf("Join of %v, %v: %v %v, want %v", l, sizes, got, err, want)
	}
}

func TestSomeNumbers(t *testing.T) {
	for _, c := range []struct {
		l, sizes []int
		bands    [][]int
	}{
		{[]int{-1}, []int{1}, [][]int{{-1}}},
		{[]int{50, 50, 37, 37}, []int{4}, [][]int{{50, 50, 37, 37}}},
		{[]int{1, 2, 3, 4, 5, 6}, []int{6}, [][]int{{1, 2, 3, 4, 5, 6}}},
		{[]int{7, 8}, []int{1, 1}, [][]int{{7}, {8}}},
		{[]int{3, 4, 5, -3, -4, -5, 0, 9}, []int{2, 1, 5}, [][]int{{3, 4}, {5}, {-3, -4, -5, 0, 9}}},
		{[]int{0, 0, 0}, []int{2, 1}, [][]int{{0, 0}, {0}}},
		{[]int{1, 2, 3, 4, 5, 6, 7, 8}, repeat(1, 8), [][]int{{1}, {2}, {3}, {4}, {5}, {6}, {7}, {8}}},
		{upward(32), repeat(4, 8), [][]int{{1, 2, 3, 4}, {5, 6, 7, 8}, {9, 10, 11, 12}, {13, 14, 15, 16}, {17, 18, 19, 20}, {21, 22, 23, 24}, {25, 26, 27, 28}, {29, 30, 31, 32}}},
		{upward(32), []int{6, 6, 6, 6, 6, 2}, [][]int{{1, 2, 3, 4, 5, 6}, {7, 8, 9, 10, 11, 12}, {13, 14, 15, 16, 17, 18}, {19, 20, 21, 22, 23, 24}, {25, 26, 27, 28, 29, 30}, {31, 32}}},
	} {
		checked(t, c.sizes, len(c.l))
		split(t, c.l, c.sizes, c.bands)
		joined(t, c.bands, c.sizes, c.l)
	}
}

func TestNumbersHaveNoBounds(t *testing.T) {
	l := []int{math.MinInt, math.MaxInt, 1001, -1001, 8001}
	bands := [][]int{{math.MinInt}, {math.MaxInt, 1001, -1001, 8001}}
	split(t, l, []int{1, 4}, bands)
	joined(t, bands, []int{1, 4}, l)
}

func TestGoodSizesPass(t *testing.T) {
	for name, c := range good() {
		t.Run(name, func(t *testing.T) {
			checked(t, c.sizes, c.total)
			l := upward(c.total)
			bands, err := band.Split(l, c.sizes)
			if err != nil || len(bands) != len(c.sizes) {
				t.Fatalf("Split: %v %v", bands, err)
			}
			next := 1
			for i, b := range bands {
				if len(b) != c.sizes[i] {
					t.Errorf("band %d: %v", i, b)
				}
				for _, n := range b {
					if n != next {
						t.Errorf("band %d: %v, want %d where %d stands", i, b, next, n)
					}
					next++
				}
			}
			joined(t, bands, c.sizes, l)
		})
	}
}

func TestFaultySizesAreTold(t *testing.T) {
	for name, c := range faulty() {
		t.Run(name, func(t *testing.T) {
			notChecked(t, c.sizes, c.want)
			// Ahead of whatever is handed in, be it of the right shape or not.
			for _, l := range [][]int{nil, {}, {1}, upward(6), upward(32), upward(33), upward(len(c.sizes))} {
				notSplit(t, l, c.sizes, c.want)
			}
			for _, l := range [][][]int{nil, {}, {nil}, {{1}}, shaped(repeat(1, len(c.sizes))...), shaped(repeat(6, len(c.sizes)+1)...)} {
				notJoined(t, l, c.sizes, c.want)
			}
		})
	}
}

func TestMoreThanMayBeInAllIsToldAheadOfShape(t *testing.T) {
	sizes := []int{6, 6, 6, 6, 6, 3}
	notSplit(t, upward(33), sizes, api.ErrFull)
	notSplit(t, upward(32), sizes, api.ErrFull)
	notJoined(t, shaped(6, 6, 6, 6, 6, 3), sizes, api.ErrFull)
	notJoined(t, shaped(6, 6, 6, 6, 6, 2), sizes, api.ErrFull)
}

// wanted of sizes, by adding one by one.
func wanted(sizes []int) (int, api.Errno) {
	switch {
	case len(sizes) == 0:
		return 0, api.ErrNone
	case len(sizes) > 8:
		return 0, api.ErrFull
	}
	total := 0
	for _, n := range sizes {
		if n < 1 || n > 6 {
			return 0, api.ErrRange
		}
		total += n
	}
	if total > 32 {
		return 0, api.ErrFull
	}
	return total, api.OK
}

// each goes over all lists of so many sizes, of those that are named.
func each(many int, of []int, do func([]int)) {
	if many == 0 {
		do(nil)
		return
	}
	each(many-1, of, func(l []int) {
		for _, n := range of {
			do(append(slices.Clone(l), n))
		}
	})
}

func TestEverySizeIsHeldAgainstTheBounds(t *testing.T) {
	held := func(sizes []int) {
		total, want := wanted(sizes)
		if n, err := band.Check(sizes); n != total || plain.Told(err) != want {
			t.Errorf("Check of %v: %d %v, want %d %v", sizes, n, err, total, want)
		}
	}
	for many := range 5 {
		each(many, []int{-1, 0, 1, 2, 3, 4, 5, 6, 7}, held)
	}
	for many := 5; many <= 9; many++ {
		each(many, []int{1, 3, 5, 6}, held)
	}
	for n := -300; n <= 300; n++ {
		held([]int{n})
		held([]int{1, n, 6})
		held([]int{n, n})
	}
}

func TestThereAndBack(t *testing.T) {
	back := func(sizes []int) {
		total, want := wanted(sizes)
		if want != api.OK {
			return
		}
		l := upward(total)
		bands, err := band.Split(l, sizes)
		if err != nil {
			t.Fatalf("Split of %v, %v: %v", l, sizes, err)
		}
		joined(t, bands, sizes, l)
		split(t, l, sizes, bands)
	}
	for many := 1; many <= 3; many++ {
		each(many, []int{1, 2, 3, 4, 5, 6}, back)
	}
	for many := 4; many <= 8; many++ {
		each(many, []int{1, 3, 6}, back)
	}
}

func TestNotAsManyNumbers(t *testing.T) {
	for _, c := range good() {
		for many := range 2 * api.MaxSound {
			if many != c.total {
				notSplit(t, upward(many), c.sizes, api.ErrShape)
			}
		}
		notSplit(t, nil, c.sizes, api.ErrShape)
		notSplit(t, []int{}, c.sizes, api.ErrShape)
		notSplit(t, upward(5000), c.sizes, api.ErrShape)
	}
	notSplit(t, upward(3), []int{2, 2}, api.ErrShape)
	notSplit(t, upward(5), []int{2, 2}, api.ErrShape)
	notSplit(t, upward(31), repeat(4, 8), api.ErrShape)
	notSplit(t, upward(33), repeat(4, 8), api.ErrShape)
}

func TestNotAsManyBands(t *testing.T) {
	for _, c := range good() {
		notJoined(t, nil, c.sizes, api.ErrShape)
		notJoined(t, [][]int{}, c.sizes, api.ErrShape)
		notJoined(t, shaped(c.sizes[1:]...), c.sizes, api.ErrShape)
		notJoined(t, shaped(c.sizes[:len(c.sizes)-1]...), c.sizes, api.ErrShape)
		for _, more := range []int{0, 1, 6} {
			notJoined(t, append(shaped(c.sizes...), repeat(1, more)), c.sizes, api.ErrShape)
			notJoined(t, append([][]int{repeat(1, more)}, shaped(c.sizes...)...), c.sizes, api.ErrShape)
		}
		notJoined(t, make([][]int, 5000), c.sizes, api.ErrShape)
	}
	// As many numbers in all, in fewer bands and in more.
	notJoined(t, shaped(4), []int{2, 2}, api.ErrShape)
	notJoined(t, shaped(2, 1, 1), []int{2, 2}, api.ErrShape)
	notJoined(t, shaped(2, 2, 0), []int{2, 2}, api.ErrShape)
}

func TestABandIsNotOfItsSize(t *testing.T) {
	for _, c := range good() {
		for i, n := range c.sizes {
			for _, wrong := range []int{0, n - 1, n + 1, n + 100} {
				lengths := slices.Clone(c.sizes)
				lengths[i] = wrong
				notJoined(t, shaped(lengths...), c.sizes, api.ErrShape)
			}
			l := shaped(c.sizes...)
			l[i] = nil
			notJoined(t, l, c.sizes, api.ErrShape)
		}
	}
	// As many numbers in all: the first has one more, and the last one fewer.
	notJoined(t, shaped(3, 2, 1), []int{2, 2, 2}, api.ErrShape)
	notJoined(t, shaped(1, 2, 3), []int{2, 2, 2}, api.ErrShape)
	notJoined(t, shaped(1, 6), []int{6, 1}, api.ErrShape)
	notJoined(t, shaped(5, 4, 4, 4, 4, 4, 4, 3), repeat(4, 8), api.ErrShape)
}

// spoil writes over a list, and over what stands behind it.
func spoil(l []int) {
	l = l[:cap(l)]
	for i := range l {
		l[i] = 99
	}
}

func TestSplitLeavesListsAlone(t *testing.T) {
	whole, wholeSizes := []int{1, 2, 3, 4, 5, 77, 78}, []int{2, 1, 2, 6, 9}
	kept, keptSizes := slices.Clone(whole), slices.Clone(wholeSizes)
	l, sizes := whole[:5], wholeSizes[:3]
	want := [][]int{{1, 2}, {3}, {4, 5}}
	for at := range want {
		bands, err := band.Split(l, sizes)
		if !reflect.DeepEqual(bands, want) || err != nil {
			t.Fatalf("Split: %v %v, want %v", bands, err, want)
		}
		others := copied(bands)
		_ = append(bands[at], 55, 56)
		if !reflect.DeepEqual(bands, others) {
			t.Errorf("appended to band %d: %v, want %v", at, bands, others)
		}
		spoil(bands[at])
		for i := range bands {
			if i != at && !slices.Equal(bands[i], others[i]) {
				t.Errorf("band %d, where band %d is written into: %v, want %v", i, at, bands[i], others[i])
			}
		}
		if !slices.Equal(whole, kept) || !slices.Equal(wholeSizes, keptSizes) {
			t.Fatalf("written into: %v %v", whole, wholeSizes)
		}
	}
}

func TestSplitOfOneBandLeavesListsAlone(t *testing.T) {
	l := append(make([]int, 0, 16), 1, 2, 3)
	bands, _ := band.Split(l, []int{3})
	_ = append(bands[0], 55)
	spoil(bands[0])
	if whole := l[:16]; !slices.Equal(whole, append([]int{1, 2, 3}, make([]int, 13)...)) {
		t.Errorf("written into: %v", whole)
	}
}

func TestSplitKeepsNothing(t *testing.T) {
	l, sizes := []int{1, 2, 3}, []int{1, 2}
	first, _ := band.Split(l, sizes)
	second, _ := band.Split(l, sizes)
	spoil(first[0])
	spoil(first[1])
	first[0], first[1] = nil, nil
	spoil(l)
	spoil(sizes)
	if want := [][]int{{1}, {2, 3}}; !reflect.DeepEqual(second, want) {
		t.Errorf("second Split: %v, want %v", second, want)
	}
}

func TestJoinLeavesListsAlone(t *testing.T) {
	for name, lengths := range map[string][]int{"one band": {3}, "some": {2, 1, 2}, "most": repeat(4, 8)} {
		total := 0
		var whole [][]int
		for _, n := range lengths {
			// Room behind each band, so that an append into it would be seen.
			whole = append(whole, append(repeat(total+1, n), 77, 78, 79))
			total += n
		}
		whole = append(whole, []int{80})
		l := slices.Clone(whole)
		for i, n := range lengths {
			l[i] = l[i][:n]
		}
		l = l[:len(lengths)]
		sizes := append(slices.Clone(lengths), 9)
		kept := copied(whole)
		got, err := band.Join(l, sizes[:len(lengths)])
		if err != nil || len(got) != total {
			t.Fatalf("%s: Join: %v %v", name, got, err)
		}
		_ = append(got, 55)
		spoil(got)
		if !reflect.DeepEqual(whole, kept) || !slices.Equal(sizes, append(slices.Clone(lengths), 9)) {
			t.Errorf("%s: written into: %v %v", name, whole, sizes)
		}
		for i, n := range lengths {
			if !slices.Equal(l[i], kept[i][:n]) {
				t.Errorf("%s: band %d: %v, want %v", name, i, l[i], kept[i][:n])
			}
		}
	}
}

func TestJoinKeepsNothing(t *testing.T) {
	l, sizes := [][]int{{1}, {2, 3}}, []int{1, 2}
	first, _ := band.Join(l, sizes)
	second, _ := band.Join(l, sizes)
	spoil(first)
	spoil(l[0])
	spoil(l[1])
	l[0], l[1] = nil, nil
	spoil(sizes)
	if want := []int{1, 2, 3}; !slices.Equal(second, want) {
		t.Errorf("second Join: %v, want %v", second, want)
	}
}

func TestOneListTwice(t *testing.T) {
	// The same memory as both bands, and the sizes as the numbers.
	same := []int{1, 2}
	joined(t, [][]int{same, same}, []int{2, 2}, []int{1, 2, 1, 2})
	split(t, same, []int{1, 1}, [][]int{{1}, {2}})
	sizes := []int{1, 1}
	bands, _ := band.Split(sizes, sizes)
	spoil(bands[0])
	if !slices.Equal(sizes, []int{1, 1}) {
		t.Errorf("written into: %v", sizes)
	}
	got, _ := band.Join([][]int{sizes[:1], sizes[1:]}, sizes)
	spoil(got)
	if !slices.Equal(sizes, []int{1, 1}) {
		t.Errorf("written into: %v", sizes)
	}
}

func TestRefusedListsAreLeftAlone(t *testing.T) {
	l, sizes, bands := []int{1, 2, 3}, []int{1, 1}, [][]int{{1}, {2, 3}}
	notSplit(t, l, sizes, api.ErrShape)
	notJoined(t, bands, sizes, api.ErrShape)
	if !slices.Equal(l, []int{1, 2, 3}) || !slices.Equal(sizes, []int{1, 1}) || !reflect.DeepEqual(bands, [][]int{{1}, {2, 3}}) {
		t.Errorf("written into: %v %v %v", l, sizes, bands)
	}
}

func TestCallsAheadChangeNothing(t *testing.T) {
	for range 2 {
		checked(t, []int{1, 2}, 3)
		notChecked(t, []int{0}, api.ErrRange)
		split(t, []int{1, 2, 3}, []int{1, 2}, [][]int{{1}, {2, 3}})
		notSplit(t, []int{1, 2}, []int{1, 2}, api.ErrShape)
		joined(t, [][]int{{1}, {2, 3}}, []int{1, 2}, []int{1, 2, 3})
		notJoined(t, [][]int{{1}}, []int{1, 2}, api.ErrShape)
	}
}
