package learn_test

import (
	"math"
	"slices"
	"testing"

	"pulsehorn/api"
	"pulsehorn/horn"
	"pulsehorn/learn"
	"pulsehorn/plain"
	"pulsehorn/scale"
)

// repeat makes a list of one number, so many times.
func repeat(n, many int) []int {
	return slices.Repeat([]int{n}, many)
}

// place puts a number into a list of others.
func place(other, many, at, n int) []int {
	l := repeat(other, many)
	l[at] = n
	return l
}

// behind puts numbers behind each other, in memory of their own.
func behind(l []int, more ...int) []int {
	return slices.Concat(l, more)
}

// rowsOf makes so many rows that are alike, each in memory of its own.
func rowsOf(row []int, many int) [][]int {
	l := make([][]int, many)
	for i := range l {
		l[i] = slices.Clone(row)
	}
	return l
}

// copied makes rows that share no memory with those handed in.
func copied(l [][]int) [][]int {
	out := make([][]int, len(l))
	for i, row := range l {
		out[i] = slices.Clone(row)
	}
	return out
}

// same tells whether rows are.
func same(a, b [][]int) bool {
	return slices.EqualFunc(a, b, slices.Equal[[]int])
}

// added is how many there are in all.
func added(l []int) int {
	total := 0
	for _, n := range l {
		total += n
	}
	return total
}

// some makes a row of signs below many, the same ones for the same seed.
func some(many, long int, seed uint32) []int {
	l := make([]int, long)
	for i := range l {
		seed = seed*1664525 + 1013904223
		l[i] = int(seed>>8) % many
	}
	return l
}

// having makes a row of signs that have a share, the same ones for the same seed.
func having(f []int, long int, seed uint32) []int {
	var signs []int
	for sign, share := range f {
		if share > 0 {
			signs = append(signs, sign)
		}
	}
	l := some(len(signs), long, seed)
	for i, at := range l {
		l[i] = signs[at]
	}
	return l
}

// toldCount is what the chapter tells of rows, each sign looked for in all of them.
func toldCount(l [][]int, many int) []int {
	var counts []int
	all := slices.Concat(l...)
	for sign := range many {
		n := 1
		for _, other := range all {
			if other == sign {
				n++
			}
		}
		counts = append(counts, n)
	}
	return counts
}

// toldCost is what the chapter tells of a row, of each sign the least b looked for from 0 on.
func toldCost(f, l []int) int {
	cost := 0
	for _, sign := range l {
		b := 0
		for f[sign]*int(math.Pow(2, float64(b))) < 256 {
			b++
		}
		cost += b
	}
	return cost
}

// counted checks how often signs are in rows.
func counted(t *testing.T, l [][]int, many int, want []int) {
	t.Helper()
	if got, err := learn.Count(l, many); !slices.Equal(got, want) || err != nil {
		t.Errorf("Count of %v, %d: %v %v, want %v", l, many, got, err, want)
	}
}

// shared checks what rows teach.
func shared(t *testing.T, l [][]int, many int, want []int) {
	t.Helper()
	if got, err := learn.Shares(l, many); !slices.Equal(got, want) || err != nil {
		t.Errorf("Shares of %v, %d: %v %v, want %v", l, many, got, err, want)
	}
}

// learnt checks counts of rows, and that their shares are those that chapter 10 makes of them.
func learnt(t *testing.T, l [][]int, many int, counts []int) {
	t.Helper()
	counted(t, l, many, counts)
	f, err := scale.Of(counts)
	if err != nil {
		t.Errorf("Of %v: %v", counts, err)
	}
	shared(t, l, many, f)
}

// costs checks how many bits a row needs.
func costs(t *testing.T, f, l []int, want int) {
	t.Helper()
	if got, err := learn.Cost(f, l); got != want || err != nil {
		t.Errorf("Cost of %v, %v: %d %v, want %d", f, l, got, err, want)
	}
}

// notLearnt checks that Count and Shares tell an error, and answer nothing else.
func notLearnt(t *testing.T, l [][]int, many int, want api.Errno) {
	t.Helper()
	if got, err := learn.Count(l, many); len(got) != 0 || plain.Told(err) != want {
		t.Errorf("Count of %v, %d: %v %v, want %v", l, many, got, err, want)
	}
	if got, err := learn.Shares(l, many); len(got) != 0 || plain.Told(err) != want {
		t.Errorf("Shares of %v, %d: %v %v, want %v", l, many, got, err, want)
	}
}

// noCost checks that Cost tells an error, the same as Encode, and answers nothing else.
func noCost(t *testing.T, f, l []int, want api.Errno) {
	t.Helper()
	if got, err := learn.Cost(f, l); got != 0 || plain.Told(err) != want {
		t.Errorf("Cost of %v, %v: %d %v, want %v", f, l, got, err, want)
	}
	if _, err := horn.Encode(f, l); plain.Told(err) != want {
		t.Errorf("Encode of %v, %v: %v, want %v", f, l, err, want)
	}
}

// manies are numbers of signs that may be.
func manies() []int {
	return []int{1, 2, 3, 5, 7, 16, 39, 40}
}

// eachRows goes over rows with which nothing is wrong: of many lengths, and many of them.
func eachRows(do func(l [][]int, many int)) {
	for _, many := range manies() {
		for _, rows := range []int{0, 1, 2, 5, 59, 60} {
			for _, long := range []int{0, 1, 2, 9, 59, 60} {
				l := make([][]int, rows)
				for i := range l {
					l[i] = some(many, long, uint32(many*7+i))
				}
				do(l, many)
			}
			l := make([][]int, rows)
			for i := range l {
				l[i] = some(many, i*i%61, uint32(i))
			}
			do(l, many)
		}
	}
}

// rightShares has shares with which nothing is wrong.
func rightShares() map[string][]int {
	return map[string][]int{
		"one":                       {256},
		"two alike":                 {128, 128},
		"two":                       {77, 179},
		"the first has one":         {1, 255},
		"the last has one":          {255, 1},
		"the first has all":         {256, 0},
		"the last has all":          {0, 256},
		"some":                      {86, 85, 85},
		"each power of two":         {1, 1, 2, 4, 8, 16, 32, 64, 128},
		"beside powers of two":      {3, 5, 7, 9, 15, 17, 31, 33, 63, 65, 8},
		"none at first":             {0, 0, 0, 42, 214},
		"none at last":              {86, 85, 85, 0, 0},
		"none between":              {64, 64, 64, 0, 32, 0, 0, 32},
		"MaxSign":                   place(6, 40, 0, 22),
		"MaxSign, of ones":          place(1, 40, 39, 217),
		"MaxSign, the last has all": place(0, 40, 39, 256),
		"MaxSign, every other":      slices.Repeat([]int{0, 20, 0, 0, 24, 0, 0, 20, 0, 0}, 4),
	}
}

// wrongShares has shares with which something is wrong.
func wrongShares() map[string][]int {
	return map[string][]int{
		"nil":                                nil,
		"none":                               {},
		"one more than MaxSign":              place(6, 41, 0, 16),
		"one more than MaxSign, of nothing":  behind(place(6, 40, 0, 22), 0),
		"one more than MaxSign, one has all": place(0, 41, 0, 256),
		"far too many":                       place(0, 5000, 0, 256),
		"one of 0":                           {0},
		"all of 0":                           repeat(0, 40),
		"one is one fewer":                   {255},
		"one is one more":                    {257},
		"one fewer in all":                   {86, 85, 84},
		"one more in all":                    {86, 85, 86},
		"twice Total":                        {256, 256},
		"below 0":                            {-1},
		"the first is below 0, Total in all": {-1, 257},
		"the last is below 0, Total in all":  {257, -1},
		"one is below 0, none above Total":   {200, -1, 57},
		"the least":                          {math.MinInt},
		"the greatest":                       {math.MaxInt},
		"greatest, twice, run over to Total": {math.MaxInt, math.MaxInt, 258},
		"least, twice, and Total":            {math.MinInt, math.MinInt, 256},
		"2^32 and Total":                     {1<<32 + 256},
	}
}

func TestRowsByHand(t *testing.T) {
	for _, c := range []struct {
		l              [][]int
		many           int
		counts, shares []int
	}{
		{[][]int{{0}}, 1, []int{2}, []int{256}},
		{[][]int{{0}}, 2, []int{2, 1}, []int{171, 85}},
		{[][]int{{1}}, 2, []int{1, 2}, []int{85, 171}},
		{[][]int{{0, 1}}, 2, []int{2, 2}, []int{128, 128}},
		{[][]int{{0}, {1}}, 2, []int{2, 2}, []int{128, 128}},
		{[][]int{{2, 2, 2, 1}}, 3, []int{1, 2, 4}, []int{36, 73, 147}},
		{[][]int{{3, 3}, {3, 2}}, 4, []int{1, 1, 2, 4}, []int{32, 32, 64, 128}},
		{[][]int{{3, 3}, nil, {}, {3, 2}}, 4, []int{1, 1, 2, 4}, []int{32, 32, 64, 128}},
		{[][]int{{0, 1, 2, 3, 4, 5, 6}}, 7, repeat(2, 7), []int{40, 36, 36, 36, 36, 36, 36}},
		{[][]int{{2, 4, 4}, {0, 2, 1, 5, 5, 5, 3, 0, 0, 0, 2}}, 6, []int{5, 2, 4, 2, 3, 4}, []int{66, 25, 51, 25, 38, 51}},
		{[][]int{repeat(0, 60)}, 2, []int{61, 1}, []int{252, 4}},
		{rowsOf(repeat(0, 60), 60), 1, []int{3601}, []int{256}},
		{rowsOf(repeat(1, 60), 60), 2, []int{1, 3601}, []int{1, 255}},
		{rowsOf(repeat(2, 60), 60), 4, []int{1, 1, 3601, 1}, []int{1, 1, 253, 1}},
		{rowsOf(repeat(39, 60), 60), 40, place(1, 40, 39, 3601), place(1, 40, 39, 217)},
		{rowsOf(repeat(0, 60), 60), 40, place(1, 40, 0, 3601), place(1, 40, 0, 217)},
	} {
		counted(t, c.l, c.many, c.counts)
		shared(t, c.l, c.many, c.shares)
	}
}

func TestEveryRows(t *testing.T) {
	eachRows(func(l [][]int, many int) {
		learnt(t, l, many, toldCount(l, many))
	})
}

// TestNoRow has rows that teach nothing: all signs count 1.
func TestNoRow(t *testing.T) {
	for many := 1; many <= 40; many++ {
		for _, l := range [][][]int{nil, {}, {nil}, {{}}, rowsOf(nil, 60), rowsOf([]int{}, 60), {nil, {}, nil}} {
			learnt(t, l, many, repeat(1, many))
		}
	}
	shared(t, nil, 1, []int{256})
	shared(t, nil, 2, []int{128, 128})
	shared(t, nil, 3, []int{86, 85, 85})
	shared(t, nil, 40, place(6, 40, 0, 22))
}

func TestOneRow(t *testing.T) {
	for many := 1; many <= 40; many++ {
		for long := range 61 {
			l := [][]int{some(many, long, uint32(many))}
			learnt(t, l, many, toldCount(l, many))
		}
	}
}

// TestEachSignAlone has rows of one sign, which counts as often as it is there and once more; all others count 1.
func TestEachSignAlone(t *testing.T) {
	for many := 1; many <= 40; many++ {
		for sign := range many {
			for _, rows := range []int{1, 2, 60} {
				for _, long := range []int{1, 2, 60} {
					learnt(t, rowsOf(repeat(sign, long), rows), many, place(1, many, sign, rows*long+1))
				}
			}
		}
	}
}

// TestAsOftenAsItIs has sign 1 at every number of times that rows can have it.
func TestAsOftenAsItIs(t *testing.T) {
	for times := range 3601 {
		l := rowsOf(repeat(1, 60), times/60)
		if times < 3600 {
			l = append(l, repeat(1, times%60))
		}
		counted(t, l, 3, []int{1, times + 1, 1})
	}
}

// TestSharesAreRight looks at what must hold of all that is learnt, however it is worked out.
func TestSharesAreRight(t *testing.T) {
	eachRows(func(l [][]int, many int) {
		f, err := learn.Shares(l, many)
		if err != nil || len(f) != many || added(f) != 256 || slices.Min(f) < 1 {
			t.Errorf("Shares of %v, %d: %v %v", l, many, f, err)
		}
	})
}

func TestCountsAreAllSigns(t *testing.T) {
	eachRows(func(l [][]int, many int) {
		counts, err := learn.Count(l, many)
		signs := len(slices.Concat(l...))
		if err != nil || len(counts) != many || added(counts) != signs+many {
			t.Errorf("Count of %v, %d: %v %v, of %d signs", l, many, counts, err, signs)
		}
	})
}

// TestOrderTeachesNothing has the same rows in other orders, the same signs in others, and other cuts of them.
func TestOrderTeachesNothing(t *testing.T) {
	eachRows(func(l [][]int, many int) {
		counts := toldCount(l, many)
		turned := copied(l)
		slices.Reverse(turned)
		learnt(t, turned, many, counts)
		if len(l) > 2 {
			learnt(t, slices.Concat(l[2:], l[:2]), many, counts)
		}
		slices.SortFunc(turned, slices.Compare[[]int])
		learnt(t, turned, many, counts)
		for _, row := range turned {
			slices.Sort(row)
		}
		learnt(t, turned, many, counts)
		learnt(t, slices.Collect(slices.Chunk(slices.Concat(l...), 60)), many, counts)
	})
}

// TestEveryOrderOfSome goes over all orders of four rows.
func TestEveryOrderOfSome(t *testing.T) {
	l := [][]int{{0, 3, 3}, {}, {1, 0, 4, 4, 4, 0}, {4}}
	for a := range 4 {
		for b := range 4 {
			for c := range 4 {
				d := 6 - a - b - c
				if a == b || a == c || b == c || d < 0 {
					continue
				}
				learnt(t, [][]int{l[a], l[b], l[c], l[d]}, 5, []int{4, 2, 1, 3, 5})
			}
		}
	}
}

// TestOneRowMore counts it once to what the others have.
func TestOneRowMore(t *testing.T) {
	eachRows(func(l [][]int, many int) {
		if len(l) == 0 {
			return
		}
		want, err := learn.Count(l[:len(l)-1], many)
		if err != nil {
			t.Fatalf("Count of %v, %d: %v", l[:len(l)-1], many, err)
		}
		for _, sign := range l[len(l)-1] {
			want[sign]++
		}
		counted(t, l, many, want)
	})
}

// TestTheSameRowTwice has rows that share their memory: each of them counts.
func TestTheSameRowTwice(t *testing.T) {
	row := []int{2, 0, 2, 1}
	learnt(t, [][]int{row, row}, 4, []int{3, 3, 5, 1})
	learnt(t, [][]int{row, row[:1], row[1:3], row}, 4, []int{4, 3, 7, 1})
	learnt(t, slices.Repeat([][]int{row}, 60), 4, []int{61, 61, 121, 1})
}

// TestWhatIsLearntEncodes has rows of signs, also of those that are in none that taught.
func TestWhatIsLearntEncodes(t *testing.T) {
	eachRows(func(l [][]int, many int) {
		f, err := learn.Shares(l, many)
		if err != nil {
			t.Fatalf("Shares of %v, %d: %v", l, many, err)
		}
		rows := [][]int{nil, some(many, 60, 5), some(many, 13, 6), repeat(0, 60), repeat(many-1, 60)}
		for sign := range many {
			rows = append(rows, []int{sign})
		}
		for _, row := range append(rows, l...) {
			thereAndBack(t, f, row)
		}
	})
}

// thereAndBack checks that shares tell a row, in no more bytes than its cost asks for.
func thereAndBack(t *testing.T, f, row []int) {
	t.Helper()
	b, err := horn.Encode(f, row)
	if err != nil {
		t.Errorf("Encode of %v, %v: %v", f, row, err)
	}
	again, err := horn.Decode(f, b, len(row))
	if !slices.Equal(again, row) || err != nil {
		t.Errorf("Decode of %v, %v, %d: %v %v, want %v", f, []byte(b), len(row), again, err, row)
	}
	costs(t, f, row, toldCost(f, row))
	if cost, _ := learn.Cost(f, row); len(b) > 4+cost/8 {
		t.Errorf("Encode of %v, %v: %v, which are more bytes than %d bits ask for", f, row, []byte(b), cost)
	}
}

func TestCostsByHand(t *testing.T) {
	for _, c := range []struct {
		f, l []int
		want int
	}{
		{[]int{256}, nil, 0},
		{[]int{256}, []int{0}, 0},
		{[]int{256}, repeat(0, 60), 0},
		{[]int{0, 0, 256}, []int{2, 2, 2}, 0},
		{[]int{128, 128}, []int{0}, 1},
		{[]int{128, 128}, []int{1, 0, 1}, 3},
		{[]int{129, 127}, []int{0}, 1},
		{[]int{129, 127}, []int{1}, 2},
		{[]int{255, 1}, []int{0}, 1},
		{[]int{255, 1}, []int{1}, 8},
		{[]int{255, 1}, []int{0, 1, 0}, 10},
		{[]int{255, 1}, repeat(1, 60), 480},
		{[]int{255, 1}, repeat(0, 60), 60},
		{[]int{86, 85, 85}, []int{0, 1, 2}, 6},
		{[]int{1, 1, 2, 4, 8, 16, 32, 64, 128}, []int{0}, 8},
		{[]int{1, 1, 2, 4, 8, 16, 32, 64, 128}, []int{2}, 7},
		{[]int{1, 1, 2, 4, 8, 16, 32, 64, 128}, []int{0, 1, 2, 3, 4, 5, 6, 7, 8}, 44},
		{[]int{3, 5, 7, 9, 15, 17, 31, 33, 63, 65, 8}, []int{0, 1, 2, 3, 4, 5, 6, 7, 8, 9, 10}, 50},
		{[]int{0, 0, 0, 51, 103, 102}, []int{3, 5}, 5},
		{[]int{33, 41, 24, 45, 80, 33}, []int{5}, 3},
		{[]int{204, 16, 36}, []int{1, 1, 0}, 9},
	} {
		costs(t, c.f, c.l, c.want)
	}
}

// TestCostOfEachShare has every share there may be, and what it needs by a rule of its own.
func TestCostOfEachShare(t *testing.T) {
	for share := 1; share <= 256; share++ {
		bits := 8
		for _, edge := range []int{2, 4, 8, 16, 32, 64, 128, 256} {
			if share >= edge {
				bits--
			}
		}
		for long := range 61 {
			costs(t, []int{share, 256 - share}, repeat(0, long), bits*long)
			costs(t, []int{256 - share, 0, share}, repeat(2, long), bits*long)
		}
	}
}

func TestCostOfEveryRow(t *testing.T) {
	for name, f := range rightShares() {
		t.Run(name, func(t *testing.T) {
			costs(t, f, []int{}, 0)
			for long := range 61 {
				for seed := range uint32(6) {
					l := having(f, long, seed)
					costs(t, f, l, toldCost(f, l))
				}
			}
		})
	}
}

// TestOneRowBehindTheOther has rows cut at every place: together they cost as much as both.
func TestOneRowBehindTheOther(t *testing.T) {
	for name, f := range rightShares() {
		t.Run(name, func(t *testing.T) {
			for _, long := range []int{0, 1, 2, 31, 60} {
				l := having(f, long, 17)
				for at := range long + 1 {
					head, _ := learn.Cost(f, l[:at])
					tail, _ := learn.Cost(f, l[at:])
					costs(t, f, l, head+tail)
					costs(t, f, slices.Concat(l[at:], l[:at]), head+tail)
				}
			}
		})
	}
}

// TestCostIsMostsBits holds Cost against chapter 11's Most, which rounds it to bytes.
func TestCostIsMostsBits(t *testing.T) {
	for _, f := range rightShares() {
		for long := range 61 {
			l := having(f, long, 23)
			cost, err := learn.Cost(f, l)
			most, ill := horn.Most(f, l)
			if err != nil || ill != nil || most != 3+cost/8+1 {
				t.Errorf("Cost of %v, %v: %d %v, but Most: %d %v", f, l, cost, err, most, ill)
			}
		}
	}
}

func TestHowManySignsThereMayBe(t *testing.T) {
	learnt(t, [][]int{{0}}, 1, []int{2})
	learnt(t, [][]int{{39}}, 40, place(1, 40, 39, 2))
	wrong := [][][]int{nil, {}, {{0}}, {{-1}}, {{40}}, {repeat(0, 61)}, {repeat(-1, 61)}, rowsOf(nil, 60), rowsOf(nil, 61), rowsOf(repeat(-1, 61), 61)}
	for _, many := range []int{-1, 0, 41, 42, -2, -40, 256, 1 << 32, 1<<32 + 1, -1 << 32, math.MinInt, math.MinInt + 1, math.MaxInt, math.MaxInt - 1} {
		// Also with other faults: how many signs there are is told first.
		for _, l := range wrong {
			notLearnt(t, l, many, api.ErrRange)
		}
	}
}

func TestMoreThanMaxRowRows(t *testing.T) {
	for _, many := range manies() {
		row := some(many, 60, 3)
		l := rowsOf(row, 61)
		learnt(t, l[:60], many, toldCount(l[:60], many))
		notLearnt(t, l, many, api.ErrFull)
		notLearnt(t, rowsOf(nil, 61), many, api.ErrFull)
		notLearnt(t, rowsOf([]int{0}, 5000), many, api.ErrFull)
		// More than may be, ahead of signs that are none.
		notLearnt(t, rowsOf([]int{-1}, 61), many, api.ErrFull)
		notLearnt(t, append(rowsOf(row, 60), []int{many}), many, api.ErrFull)
		notLearnt(t, append([][]int{{math.MinInt}}, rowsOf(row, 60)...), many, api.ErrFull)
	}
}

func TestMoreThanMaxRowSigns(t *testing.T) {
	for _, many := range manies() {
		for _, rows := range []int{1, 2, 7, 60} {
			for _, at := range []int{0, rows / 2, rows - 1} {
				l := rowsOf([]int{0}, rows)
				l[at] = some(many, 60, 8)
				learnt(t, l, many, toldCount(l, many))
				l[at] = some(many, 61, 8)
				notLearnt(t, l, many, api.ErrFull)
				l[at] = some(many, 5000, 8)
				notLearnt(t, l, many, api.ErrFull)
			}
		}
	}
}

// TestSignsAtTheirEdges has a sign at the first, a middle and the last place of the first, a middle and the last row.
func TestSignsAtTheirEdges(t *testing.T) {
	for _, many := range manies() {
		for _, rows := range []int{1, 3, 60} {
			for _, long := range []int{1, 3, 60} {
				for _, row := range []int{0, rows / 2, rows - 1} {
					for _, at := range []int{0, long / 2, long - 1} {
						l := rowsOf(repeat(0, long), rows)
						for _, sign := range []int{0, many - 1} {
							l[row][at] = sign
							learnt(t, l, many, toldCount(l, many))
						}
						for _, sign := range []int{-1, many, -2, many + 1, -many, 1 << 32, -1 << 32, math.MinInt, math.MinInt + 1, math.MaxInt, math.MaxInt - 1} {
							l[row][at] = sign
							notLearnt(t, l, many, api.ErrRange)
						}
					}
				}
			}
		}
	}
}

// TestEachSignBesideTheLast has every number about those that are signs.
func TestEachSignBesideTheLast(t *testing.T) {
	for many := 1; many <= 40; many++ {
		for sign := -2; sign < 45; sign++ {
			if sign < 0 || sign >= many {
				notLearnt(t, [][]int{{sign}}, many, api.ErrRange)
			} else {
				learnt(t, [][]int{{sign}}, many, place(1, many, sign, 2))
			}
		}
	}
}

// TestTheFirstRowsFaultIsTold has several rows of which more than one has a fault.
func TestTheFirstRowsFaultIsTold(t *testing.T) {
	long, none := repeat(0, 61), []int{0, 5}
	both := behind([]int{-1}, long...)
	for _, c := range []struct {
		l    [][]int
		want api.Errno
	}{
		{[][]int{long, none}, api.ErrFull},
		{[][]int{none, long}, api.ErrRange},
		{[][]int{{0}, none, {1}, long}, api.ErrRange},
		{[][]int{{0}, long, {1}, none}, api.ErrFull},
		{[][]int{none, none, long, long}, api.ErrRange},
		{[][]int{long, long, none, none}, api.ErrFull},
		{[][]int{none, both}, api.ErrRange},
		{[][]int{both, none}, api.ErrFull},
		{[][]int{{0, -1}, long}, api.ErrRange},
		{[][]int{{math.MaxInt}, long}, api.ErrRange},
		{[][]int{{math.MinInt}, long}, api.ErrRange},
		{append(rowsOf([]int{0}, 58), none, long), api.ErrRange},
		{append(rowsOf([]int{0}, 58), long, none), api.ErrFull},
		{append([][]int{none}, rowsOf(long, 59)...), api.ErrRange},
		{append([][]int{long}, rowsOf(none, 59)...), api.ErrFull},
	} {
		notLearnt(t, c.l, 5, c.want)
	}
}

// TestTooLongAheadOfNoSuchSign has one row with both faults.
func TestTooLongAheadOfNoSuchSign(t *testing.T) {
	for _, many := range manies() {
		for _, sign := range []int{-1, many, math.MinInt, math.MaxInt} {
			for _, at := range []int{0, 30, 59, 60} {
				row := place(0, 61, at, sign)
				notLearnt(t, [][]int{row}, many, api.ErrFull)
				notLearnt(t, [][]int{{0}, row, nil}, many, api.ErrFull)
				notLearnt(t, append(rowsOf(nil, 59), row), many, api.ErrFull)
			}
			notLearnt(t, [][]int{repeat(sign, 61)}, many, api.ErrFull)
			notLearnt(t, [][]int{repeat(sign, 60)}, many, api.ErrRange)
		}
	}
}

func TestCostByWrongShares(t *testing.T) {
	for name, f := range wrongShares() {
		t.Run(name, func(t *testing.T) {
			// Also with other faults: what is wrong with shares is told first.
			for _, l := range [][]int{nil, {0}, {-1}, {1}, {math.MaxInt}, {math.MinInt}, repeat(0, 60), repeat(0, 61), repeat(-1, 61)} {
				noCost(t, f, l, api.ErrShape)
			}
		})
	}
}

func TestCostByOneMoreAndOneFewer(t *testing.T) {
	for name, right := range rightShares() {
		t.Run(name, func(t *testing.T) {
			for i := range right {
				for _, by := range []int{-257, -256, -1, 1, 256, 1 << 32, 1 << 62} {
					f := slices.Clone(right)
					f[i] += by
					noCost(t, f, nil, api.ErrShape)
					noCost(t, f, []int{i}, api.ErrShape)
				}
			}
		})
	}
}

func TestCostOfMoreThanMaxRow(t *testing.T) {
	for _, f := range rightShares() {
		l := having(f, 61, 9)
		costs(t, f, l[:60], toldCost(f, l[:60]))
		noCost(t, f, l, api.ErrFull)
		noCost(t, f, having(f, 5000, 9), api.ErrFull)
		// More than may be, ahead of signs that are none, and of those that have no share.
		noCost(t, f, repeat(-1, 61), api.ErrFull)
		noCost(t, f, repeat(len(f), 61), api.ErrFull)
		noCost(t, f, behind(l[:60], math.MaxInt), api.ErrFull)
		noCost(t, f, behind([]int{math.MinInt}, l[:60]...), api.ErrFull)
		for sign, share := range f {
			if share == 0 {
				noCost(t, f, repeat(sign, 61), api.ErrFull)
			}
		}
	}
}

func TestCostOfSignsAtTheirEdges(t *testing.T) {
	for name, f := range rightShares() {
		t.Run(name, func(t *testing.T) {
			for _, long := range []int{1, 2, 7, 60} {
				for _, at := range []int{0, long / 2, long - 1} {
					l := having(f, long, 2)
					for _, sign := range []int{-1, len(f), -2, len(f) + 1, 40, 41, 256, 1 << 32, -1 << 32, math.MaxInt, math.MinInt} {
						if sign < 0 || sign >= len(f) {
							l[at] = sign
							noCost(t, f, l, api.ErrRange)
						}
					}
					for sign, share := range f {
						l[at] = sign
						if share == 0 {
							noCost(t, f, l, api.ErrNone)
						} else {
							costs(t, f, l, toldCost(f, l))
						}
					}
				}
			}
		})
	}
}

func TestCostTellsTheFirstSignsFault(t *testing.T) {
	f := []int{100, 0, 156, 0}
	for _, c := range []struct {
		l    []int
		want api.Errno
	}{
		{[]int{1, -1}, api.ErrNone}, {[]int{-1, 1}, api.ErrRange}, {[]int{3, 4}, api.ErrNone}, {[]int{4, 3}, api.ErrRange},
		{[]int{0, 2, 1, 0, 4}, api.ErrNone}, {[]int{0, 2, 4, 0, 1}, api.ErrRange},
		{[]int{1, math.MaxInt, math.MinInt}, api.ErrNone}, {[]int{math.MinInt, 1, 1}, api.ErrRange}, {[]int{math.MaxInt, 1, 1}, api.ErrRange},
		{behind(repeat(0, 58), 1, -1), api.ErrNone}, {behind(repeat(0, 58), -1, 1), api.ErrRange},
		{behind([]int{1}, repeat(-1, 59)...), api.ErrNone}, {behind([]int{-1}, repeat(1, 59)...), api.ErrRange},
	} {
		noCost(t, f, c.l, c.want)
	}
}

// hemmed puts numbers behind each row, and rows behind the last, and answers all of it and what is to be handed in.
func hemmed(l [][]int) (whole, given [][]int) {
	for _, row := range l {
		whole = append(whole, behind(row, 71, -79, 1))
	}
	whole = append(whole, []int{0, -1}, nil, []int{77})
	given = slices.Clone(whole)
	for i, row := range l {
		given[i] = whole[i][:len(row)]
	}
	return whole, given
}

// TestRowsAreLeftAlone looks at rows, and at what stands behind their lengths, after each call.
func TestRowsAreLeftAlone(t *testing.T) {
	check := func(l [][]int, many int) {
		whole, given := hemmed(l)
		kept, keptGiven := copied(whole), copied(given)
		learn.Count(given[:len(l)], many)
		learn.Shares(given[:len(l)], many)
		if !same(whole, kept) || !same(given, keptGiven) {
			t.Errorf("%v, %d: %v became %v", l, many, kept, whole)
		}
	}
	eachRows(check)
	for _, l := range [][][]int{{{1, 0, -1}, {0}}, {{2, 1, 0}, repeat(1, 61)}, {repeat(3, 61)}, rowsOf([]int{1, 0}, 61)} {
		for _, many := range []int{-1, 0, 1, 2, 3, 40, 41} {
			check(l, many)
		}
	}
}

func TestSharesAndRowAreLeftAlone(t *testing.T) {
	shares := rightShares()
	for name, f := range wrongShares() {
		shares["wrong: "+name] = f
	}
	for name, f := range shares {
		t.Run(name, func(t *testing.T) {
			for _, l := range [][]int{nil, {0}, {0, 1}, {1, 0, 0, 1}, {-1, 0}, repeat(0, 60), repeat(0, 61)} {
				wholeShares, wholeRow := behind(f, 77, -77, 78), behind(l, 71, -79, 1)
				keptShares, keptRow := slices.Clone(wholeShares), slices.Clone(wholeRow)
				learn.Cost(wholeShares[:len(f)], wholeRow[:len(l)])
				if !slices.Equal(wholeShares, keptShares) || !slices.Equal(wholeRow, keptRow) {
					t.Errorf("%v and %v became %v and %v", keptShares, keptRow, wholeShares, wholeRow)
				}
			}
		})
	}
}

func TestWhatStandsBehindIsNotRead(t *testing.T) {
	row := []int{0, 1, 2, -1, math.MinInt}
	l := [][]int{row[:2], row[:0], row[1:3], {-1}, {math.MaxInt}}
	learnt(t, l[:3], 3, []int{2, 3, 2})
	learnt(t, l[:2], 2, []int{2, 2})
	learnt(t, l[:0], 2, []int{1, 1})
	notLearnt(t, l[:4], 3, api.ErrRange)
	notLearnt(t, l[:3], 2, api.ErrRange)
	long := behind(repeat(0, 60), -1, 0)
	learnt(t, [][]int{long[:60]}, 1, []int{61})
	notLearnt(t, [][]int{long[:61]}, 1, api.ErrFull)
	many := append(rowsOf([]int{0}, 60), []int{-1})
	learnt(t, many[:60], 1, []int{61})
	notLearnt(t, many, 1, api.ErrFull)
	f := []int{1, 255, 256, -1}
	costs(t, f[:2], row[:2], 9)
	costs(t, f[:2], row[:0], 0)
	costs(t, f[:2], long[:60], 480)
	noCost(t, f[:1], row[:1], api.ErrShape)
	noCost(t, f[:0], row[:0], api.ErrShape)
	noCost(t, f[:2], row[:3], api.ErrRange)
}

// spoil writes over a list, and over what stands behind it.
func spoil(l []int) {
	l = l[:cap(l)]
	for i := range l {
		l[i] = 99
	}
}

// fresh checks that what a call answers shares no memory with rows, nor with what it answers another time.
func fresh(t *testing.T, call func([][]int, int) ([]int, error), l [][]int, many int) {
	t.Helper()
	given := copied(l)
	want, _ := call(l, many)
	want = slices.Clone(want)
	first, _ := call(given, many)
	second, _ := call(given, many)
	_ = append(first, 55, 56)
	spoil(first)
	if !same(given, l) {
		t.Errorf("%v became %v with what came out", l, given)
	}
	for _, row := range given {
		spoil(row)
	}
	if !slices.Equal(second, want) {
		t.Errorf("of %v, %d: %v became %v", l, many, want, second)
	}
	if again, err := call(l, many); !slices.Equal(again, want) || err != nil {
		t.Errorf("of %v, %d: %v, and then %v %v", l, many, want, again, err)
	}
}

func TestListsAreFreshEachTime(t *testing.T) {
	eachRows(func(l [][]int, many int) {
		fresh(t, learn.Count, l, many)
		fresh(t, learn.Shares, l, many)
	})
}

func TestCallsAheadChangeNothing(t *testing.T) {
	l, f := [][]int{{2, 2}, {0}}, []int{255, 0, 1}
	for range 3 {
		counted(t, l, 4, []int{2, 1, 3, 1})
		shared(t, l, 4, []int{73, 36, 111, 36})
		notLearnt(t, l, 2, api.ErrRange)
		notLearnt(t, l, 41, api.ErrRange)
		notLearnt(t, [][]int{{1}, repeat(0, 61)}, 4, api.ErrFull)
		notLearnt(t, rowsOf([]int{1}, 61), 4, api.ErrFull)
		notLearnt(t, [][]int{{1, 1, 1, 4}}, 4, api.ErrRange)
		costs(t, f, []int{0, 2}, 9)
		noCost(t, f, []int{2, 1}, api.ErrNone)
		noCost(t, f, []int{2, 3}, api.ErrRange)
		noCost(t, f, repeat(0, 61), api.ErrFull)
		noCost(t, f[:2], []int{0}, api.ErrShape)
	}
}
