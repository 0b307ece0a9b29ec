package lens

import (
	"math"
	"math/big"
	"slices"
	"testing"

	"varve/api"
)

// The tests hold lens against the chapter's words, done with things that count their symbols, and against the least cost, found by trying all lengths, and by filling codes from their shortest words on.

// wantThing is a leaf or a package, with all by which it is ordered.
type wantThing struct {
	weight *big.Int
	parcel bool
	place  int
	has    []int
}

// ahead tells whether a thing stands ahead of another one in a row.
func (a *wantThing) ahead(b *wantThing) bool {
	if c := a.weight.Cmp(b.weight); c != 0 {
		return c < 0
	}
	if a.parcel != b.parcel {
		return !a.parcel
	}
	return a.place < b.place
}

// laid tells things as a row: each is put where it belongs among those ahead of it.
func laid(things []*wantThing) []*wantThing {
	var l []*wantThing
	for _, x := range things {
		at := len(l)
		for at > 0 && x.ahead(l[at-1]) {
			at--
		}
		l = slices.Insert(l, at, x)
	}
	return l
}

// wantBest is the best lengths, word by word.
func wantBest(counts []int, most int) []int {
	var first []*wantThing
	for symbol, count := range counts {
		if count > 0 {
			leaf := &wantThing{weight: big.NewInt(int64(count)), place: symbol, has: make([]int, len(counts))}
			leaf.has[symbol] = 1
			first = append(first, leaf)
		}
	}
	lens := make([]int, len(counts))
	m := len(first)
	if m == 1 {
		lens[first[0].place] = 1
	}
	if m < 2 {
		return lens
	}
	first = laid(first)
	row := first
	for n := 1; n < most; n++ {
		next := slices.Clone(first)
		for place := 0; 2*place+1 < len(row); place++ {
			a, b := row[2*place], row[2*place+1]
			both := &wantThing{weight: new(big.Int).Add(a.weight, b.weight), parcel: true, place: place, has: make([]int, len(counts))}
			for symbol := range both.has {
				both.has[symbol] = a.has[symbol] + b.has[symbol]
			}
			next = append(next, both)
		}
		row = laid(next)
	}
	for _, x := range row[:2*m-2] {
		for symbol := range lens {
			lens[symbol] += x.has[symbol]
		}
	}
	return lens
}

// share is the sum of 2 to the power of less each used length.
func share(lens []int) *big.Rat {
	sum := new(big.Rat)
	for _, n := range lens {
		if n > 0 {
			sum.Add(sum, new(big.Rat).SetFrac(big.NewInt(1), new(big.Int).Lsh(big.NewInt(1), uint(n))))
		}
	}
	return sum
}

// wantCheck is what Check answers, word by word.
func wantCheck(lens []int) api.Errno {
	if len(lens) > 257 {
		return api.ErrBig
	}
	var used []int
	for _, n := range lens {
		if n < 0 || n > 15 {
			return api.ErrLens
		}
		if n > 0 {
			used = append(used, n)
		}
	}
	if len(used) == 0 || len(used) == 1 && used[0] == 1 || share(lens).Cmp(big.NewRat(1, 1)) == 0 {
		return api.OK
	}
	return api.ErrLens
}

// leastOfAll is the least cost of lengths up to a limit, of which each symbol that comes has one, found by trying all of them.
func leastOfAll(counts []int, most int) int {
	comes := slices.DeleteFunc(slices.Clone(counts), func(n int) bool { return n == 0 })
	least := math.MaxInt
	one := 1 << most
	var try func(at, cost, taken int)
	try = func(at, cost, taken int) {
		if taken > one {
			return
		}
		if at == len(comes) {
			least = min(least, cost)
			return
		}
		for n := 1; n <= most; n++ {
			try(at+1, cost+comes[at]*n, taken+one>>n)
		}
	}
	try(0, 0, 0)
	return least
}

// leastByWords is the least cost too, also of many symbols, by each limit from 0 to 15: those that come oftenest have the shortest words, so only how many words of each length there are is tried.
func leastByWords(counts []int) [16]int {
	comes := slices.DeleteFunc(slices.Clone(counts), func(n int) bool { return n == 0 })
	slices.Sort(comes)
	slices.Reverse(comes)
	m := len(comes)
	sums := make([]int, m+1)
	for i, n := range comes {
		sums[i+1] = sums[i] + n
	}
	const none = math.MaxInt / 2
	// costs[placed][free] is the least that the symbols behind the placed ones cost below a length, if so many words of that length are free, and so many lengths more may be had; more free ones than symbols are as good as that many.
	costs := make([][]int, m+1)
	for placed := range costs {
		costs[placed] = slices.Repeat([]int{none}, m+2)
	}
	for free := range costs[m] {
		costs[m][free] = 0
	}
	var least [16]int
	least[0] = costs[0][1]
	for most := 1; most <= 15; most++ {
		above := make([][]int, m+1)
		for placed := range above {
			above[placed] = make([]int, m+2)
			for free := range above[placed] {
				// Each free word is two that are a bit longer, and each symbol that has no word yet has that bit too; then some of them have one.
				words, rest := min(2*free, m+1), none
				for more := 0; more <= min(words, m-placed); more++ {
					rest = min(rest, costs[placed+more][words-more])
				}
				above[placed][free] = min(rest+sums[m]-sums[placed], none)
			}
		}
		costs = above
		least[most] = costs[0][1]
	}
	return least
}

// listsOf tells all lists of up to so many of some numbers.
func listsOf(numbers []int, most int) [][]int {
	all := [][]int{nil}
	for from := 0; len(all[from]) < most; from++ {
		for _, n := range numbers {
			all = append(all, append(slices.Clone(all[from]), n))
		}
	}
	return all
}

// mixed tells n numbers from 0 to top without a rule, the same ones each time.
func mixed(n, top int) []int {
	seed := uint32(n + top)
	l := make([]int, n)
	for i := range l {
		seed = seed*1664525 + 1013904223
		l[i] = int(uint64(seed) * uint64(top+1) >> 32)
	}
	return l
}

// growing tells n numbers of which each is the sum of the two ahead, up to 1000000: counts whose best words are long.
func growing(n int) []int {
	l := make([]int, n)
	for i := range l {
		if l[i] = 1; i > 1 {
			l[i] = min(l[i-1]+l[i-2], 1000000)
		}
	}
	return l
}

// doubled tells n numbers of which each is twice the one ahead, up to 1000000.
func doubled(n int) []int {
	l := make([]int, n)
	for i := range l {
		l[i] = min(1<<min(i, 20), 1000000)
	}
	return l
}

// backward tells a list from its end on.
func backward(l []int) []int {
	l = slices.Clone(l)
	slices.Reverse(l)
	return l
}

// fewCounts tells counts of few symbols, among them all lists of up to five small ones.
func fewCounts() [][]int {
	return append(listsOf([]int{0, 1, 2, 3, 1000000}, 5), []int{}, []int{1, 2, 3, 5, 8, 13}, []int{13, 1, 8, 2, 5, 3}, []int{1, 1, 1, 1, 1, 1}, []int{2, 2, 1, 1, 3, 3}, []int{4, 2, 2, 4, 1, 3}, []int{1000000, 1, 999999, 1, 1000000, 2})
}

// manyCounts tells counts of many symbols.
func manyCounts() [][]int {
	var all [][]int
	for _, n := range []int{7, 8, 9, 15, 16, 17, 31, 32, 33, 64, 65, 100, 129, 256, 257} {
		one := make([]int, n)
		one[n/2] = 3
		all = append(all, one, make([]int, n), slices.Repeat([]int{1}, n), slices.Repeat([]int{1000000}, n), mixed(n, 1), mixed(n, 5), mixed(n, 100), mixed(n, 1000000), growing(n), backward(growing(n)), doubled(n), backward(doubled(n)))
	}
	return append(all, slices.Repeat([]int{0, 7}, 128), append(make([]int, 250), 1, 9, 9, 2, 4, 1, 1))
}

// short tells so much of a list as can be read.
func short(l []int) []int { return l[:min(len(l), 20)] }

// come tells how many counts are above 0.
func come(counts []int) int {
	m := 0
	for _, n := range counts {
		if n > 0 {
			m++
		}
	}
	return m
}

// limits tells the limits by which counts have lengths.
func limits(counts []int) []int {
	var l []int
	for most := 1; most <= 15; most++ {
		if come(counts) <= 1<<most {
			l = append(l, most)
		}
	}
	return l
}

// wrong tells numbers that are neither counts nor lengths nor limits.
func wrong() []int {
	return []int{math.MinInt, math.MinInt + 1, math.MinInt32, -1000001, -1000000, -257, -64, -63, -15, -2, -1, 1000001, 1 << 31, 1 << 32, 1<<32 + 1, 1 << 62, math.MaxInt - 1, math.MaxInt}
}

// wrongLimits tells numbers that are no limits.
func wrongLimits() []int { return append(wrong(), 0, 16, 17, 31, 32, 63, 64, 65, 255, 1000000) }

// spoilt tells lists like one, each with a number more, at its beginning, in it, or at its end.
func spoilt(l []int, n int) [][]int {
	return [][]int{slices.Insert(slices.Clone(l), 0, n), slices.Insert(slices.Clone(l), len(l)/2, n), append(slices.Clone(l), n)}
}

// P8.1
func TestCheck(t *testing.T) {
	lists := append(listsOf([]int{0, 1, 2, 3, 15}, 6), listsOf([]int{-1, 0, 1, 2, 14, 15, 16}, 4)...)
	for _, n := range []int{255, 256, 257} {
		for length := range 17 {
			lists = append(lists, slices.Repeat([]int{length}, n))
		}
		one := make([]int, n)
		one[n-1] = 1
		lists = append(lists, one, make([]int, n), append(slices.Repeat([]int{8}, n-2), 9, 9), append([]int{9, 9}, slices.Repeat([]int{8}, n-2)...))
	}
	for _, l := range lists {
		if got, want := Check(l), wantCheck(l); got != want {
			t.Errorf("Check of %d lengths, %v, = %d, want %d", len(l), short(l), int(got), int(want))
		}
	}
}

// P8.1
func TestLengthsOfACode(t *testing.T) {
	// One word of each length, and the longest one twice: the only way in which so many symbols have these.
	ladder := []int{1, 2, 3, 4, 5, 6, 7, 8, 9, 10, 11, 12, 13, 14, 15, 15}
	for _, x := range []struct {
		name string
		lens []int
		want api.Errno
	}{
		{"no symbols", nil, api.OK},
		{"none used", make([]int, 257), api.OK},
		{"one alone", []int{1}, api.OK},
		{"one alone among others", []int{0, 0, 1, 0}, api.OK},
		{"one alone of length 2", []int{2}, api.ErrLens},
		{"one alone of length 15", []int{0, 15, 0}, api.ErrLens},
		{"one alone of length 16", []int{16}, api.ErrLens},
		{"two halves", []int{1, 0, 1}, api.OK},
		{"two quarters", []int{2, 2}, api.ErrLens},
		{"a half and a quarter", []int{1, 2}, api.ErrLens},
		{"three halves", []int{1, 1, 1}, api.ErrLens},
		{"four quarters", []int{2, 2, 2, 2}, api.OK},
		{"five quarters", []int{2, 2, 2, 2, 2}, api.ErrLens},
		{"a ladder", ladder, api.OK},
		{"a ladder backward", backward(ladder), api.OK},
		{"a ladder without a step", ladder[:15], api.ErrLens},
		{"a ladder with a step more", append(slices.Clone(ladder), 15), api.ErrLens},
		{"a ladder up to 16", append(slices.Clone(ladder[:15]), 16, 16), api.ErrLens},
		{"256 of length 8", append(slices.Repeat([]int{8}, 256), 0), api.OK},
		{"257 of length 8", slices.Repeat([]int{8}, 257), api.ErrLens},
		{"257 that fill a code", append(slices.Repeat([]int{8}, 255), 9, 9), api.OK},
		{"a length below 0", []int{1, 1, -1}, api.ErrLens},
		{"two of which one is below 0", []int{1, -1}, api.ErrLens},
		{"a length above 15", []int{1, 1, 16}, api.ErrLens},
		{"258 symbols", make([]int, 258), api.ErrBig},
		{"258 symbols, one below 0", append(make([]int, 257), -1), api.ErrBig},
		{"258 symbols that a code would have", append(slices.Repeat([]int{8}, 254), 9, 9, 9, 9), api.ErrBig},
		{"100000 symbols", slices.Repeat([]int{3}, 100000), api.ErrBig},
	} {
		if got := Check(x.lens); got != x.want {
			t.Errorf("Check of %s = %d, want %d", x.name, int(got), int(x.want))
		}
	}
}

// P8.1
func TestNoLengths(t *testing.T) {
	for _, l := range [][]int{nil, {1}, {1, 1}, {0, 2, 2, 1}, {0, 0}, slices.Repeat([]int{8}, 256)} {
		for _, n := range append(wrong(), 16, 17, 31, 32, 63, 64, 65, 127, 128) {
			for _, bad := range spoilt(l, n) {
				if got := Check(bad); got != api.ErrLens {
					t.Errorf("Check of %d lengths, %v, = %d", len(bad), short(bad), int(got))
				}
			}
		}
	}
}

// P8.1
func TestUsed(t *testing.T) {
	for _, l := range slices.Concat(listsOf([]int{math.MinInt, -1, 0, 1, 15, 16, math.MaxInt}, 4), manyCounts(), [][]int{wrong(), make([]int, 300), slices.Repeat([]int{1}, 258), slices.Repeat([]int{0, 3}, 50000)}) {
		if got, want := Used(l), come(l); got != want {
			t.Errorf("Used of %d lengths, %v, = %d, want %d", len(l), short(l), got, want)
		}
	}
	if got := Used([]int{0, 3, -1, 1, 0, 20}); got != 3 {
		t.Errorf("Used of three above 0 is %d", got)
	}
}

// P8.2
func TestBest(t *testing.T) {
	for _, counts := range append(fewCounts(), manyCounts()...) {
		for _, most := range limits(counts) {
			if got, e := Best(counts, most); !slices.Equal(got, wantBest(counts, most)) || e != api.OK {
				t.Errorf("Best of %d counts, %v, by %d = %v, %d, want %v", len(counts), short(counts), most, short(got), int(e), short(wantBest(counts, most)))
			}
		}
	}
}

// P8.2: worked by hand, row by row.
func TestSomeLengths(t *testing.T) {
	for _, x := range []struct {
		counts []int
		most   int
		want   []int
	}{
		{nil, 1, nil},
		{[]int{0, 0, 0}, 1, []int{0, 0, 0}},
		{[]int{0, 0, 5, 0}, 1, []int{0, 0, 1, 0}},
		{[]int{0, 0, 5, 0}, 15, []int{0, 0, 1, 0}},
		{[]int{1000000}, 9, []int{1}},
		{[]int{1, 1000000}, 15, []int{1, 1}},
		{[]int{7, 0, 7}, 1, []int{1, 0, 1}},
		{[]int{1, 1, 1}, 2, []int{2, 2, 1}},
		{[]int{1, 1, 1}, 15, []int{2, 2, 1}},
		{[]int{2, 1, 1}, 2, []int{1, 2, 2}},
		{[]int{1, 1, 1, 1}, 2, []int{2, 2, 2, 2}},
		{[]int{1, 1, 1, 1}, 3, []int{2, 2, 2, 2}},
		{[]int{1, 1, 2, 2}, 15, []int{2, 2, 2, 2}},
		{[]int{1, 1, 2, 3}, 3, []int{3, 3, 2, 1}},
		{[]int{1, 1, 2, 3}, 2, []int{2, 2, 2, 2}},
		{[]int{3, 2, 1, 1}, 3, []int{1, 2, 3, 3}},
		{[]int{1, 1, 1, 1, 1}, 3, []int{3, 3, 2, 2, 2}},
		{[]int{1, 1, 1, 1, 1, 1}, 3, []int{3, 3, 3, 3, 2, 2}},
	} {
		if got, e := Best(x.counts, x.most); !slices.Equal(got, x.want) || e != api.OK {
			t.Errorf("Best(%v, %d) = %v, %d, want %v", x.counts, x.most, got, int(e), x.want)
		}
	}
}

// P8.2
func TestLimitsOfCounts(t *testing.T) {
	for _, x := range []struct {
		name   string
		counts []int
		most   int
		want   api.Errno
	}{
		{"257 counts", make([]int, 257), 1, api.OK},
		{"258 counts", make([]int, 258), 1, api.ErrBig},
		{"258 counts that come", slices.Repeat([]int{1}, 258), 15, api.ErrBig},
		{"258 counts, one below 0", append(make([]int, 257), -1), 1, api.ErrBig},
		{"258 counts, one too great", append([]int{1000001}, make([]int, 257)...), 1, api.ErrBig},
		{"258 counts, and no limit", make([]int, 258), 0, api.ErrBig},
		{"100000 counts", make([]int, 100000), 15, api.ErrBig},
		{"a count of 1000000", []int{1000000}, 1, api.OK},
		{"a count of 1000001", []int{1000001}, 1, api.ErrArg},
		{"a count of -1", []int{-1}, 1, api.ErrArg},
		{"the limit 0", nil, 0, api.ErrArg},
		{"the limit 1", nil, 1, api.OK},
		{"the limit 15", nil, 15, api.OK},
		{"the limit 16", nil, 16, api.ErrArg},
		{"2 symbols by 1", []int{1, 0, 1}, 1, api.OK},
		{"3 symbols by 1", []int{1, 0, 1, 0, 1}, 1, api.ErrBig},
		{"3 symbols by 1, one count too great", []int{1, 1, 1, 1000001}, 1, api.ErrArg},
		{"3 symbols by 1, one count below 0", []int{1, 1, 1, -1}, 1, api.ErrArg},
		{"3 symbols by 0", []int{1, 1, 1}, 0, api.ErrArg},
		{"256 symbols by 8", append(slices.Repeat([]int{1}, 256), 0), 8, api.OK},
		{"257 symbols by 8", slices.Repeat([]int{1}, 257), 8, api.ErrBig},
		{"257 symbols by 9", slices.Repeat([]int{1}, 257), 9, api.OK},
		{"257 symbols by 15", slices.Repeat([]int{1000000}, 257), 15, api.OK},
	} {
		got, e := Best(x.counts, x.most)
		if e != x.want {
			t.Errorf("Best of %s tells %d, want %d", x.name, int(e), int(x.want))
		}
		if e != api.OK && len(got) != 0 {
			t.Errorf("Best of %s tells %v with an error", x.name, got)
		}
	}
}

// P8.2
func TestNoBest(t *testing.T) {
	for _, counts := range slices.Concat(listsOf([]int{0, 1, 9}, 3), [][]int{slices.Repeat([]int{1}, 256)}) {
		for _, n := range wrong() {
			for _, bad := range spoilt(counts, n) {
				for most := -1; most <= 17; most++ {
					if got, e := Best(bad, most); len(got) != 0 || e != api.ErrArg {
						t.Errorf("Best of %d counts, %v, by %d = %v, %d", len(bad), short(bad), most, short(got), int(e))
					}
				}
			}
		}
		for _, most := range wrongLimits() {
			if got, e := Best(counts, most); len(got) != 0 || e != api.ErrArg {
				t.Errorf("Best of %d counts, %v, by %d = %v, %d", len(counts), short(counts), most, short(got), int(e))
			}
		}
	}
}

// P8.2
func TestMoreSymbolsThanWords(t *testing.T) {
	for _, counts := range append(fewCounts(), manyCounts()...) {
		for most := 1; most <= 15 && come(counts) > 1<<most; most++ {
			if got, e := Best(counts, most); len(got) != 0 || e != api.ErrBig {
				t.Errorf("Best of %d counts, %v, by %d = %v, %d", len(counts), short(counts), most, short(got), int(e))
			}
		}
	}
}

// P8.3
func TestCost(t *testing.T) {
	many := slices.Repeat([]int{1}, 257)
	for _, x := range []struct {
		name         string
		counts, lens []int
		want         int
	}{
		{"nothing", nil, nil, 0},
		{"no lengths", []int{1, 2}, nil, 0},
		{"no counts", nil, []int{1, 2}, 0},
		{"one symbol", []int{7}, []int{3}, 21},
		{"some symbols", []int{1, 1, 2, 4}, []int{3, 3, 2, 1}, 14},
		{"more counts", []int{3, 4, 5, 6}, []int{1, 2}, 11},
		{"more lengths", []int{3, 4}, []int{1, 2, 9, 9}, 11},
		{"noughts", []int{0, 4, 5}, []int{7, 0, 2}, 10},
		{"a count of -1", []int{-1, 2}, []int{5, 1}, 2},
		{"a count of 1000000", []int{1000000, 2}, []int{5, 1}, 5000002},
		{"a count of 1000001", []int{1000001, 2}, []int{5, 1}, 2},
		{"a length of -1", []int{9, 2}, []int{-1, 1}, 2},
		{"a length of 15", []int{9, 2}, []int{15, 1}, 137},
		{"a length of 16", []int{9, 2}, []int{16, 1}, 2},
		{"a count and a length below 0", []int{-3, 2}, []int{-5, 1}, 2},
		{"a count and a length too great", []int{1000001, 2}, []int{16, 1}, 2},
		{"lengths that no code has", []int{5, 5, 5}, []int{1, 1, 1}, 15},
		{"257 symbols", many, many, 257},
		{"258 symbols", append(slices.Clone(many), 100), append(slices.Clone(many), 10), 257},
		{"257 counts and 258 lengths", many, append(slices.Clone(many), 10), 257},
		{"258 counts and 257 lengths", append(slices.Clone(many), 100), many, 257},
		{"100000 symbols", slices.Repeat([]int{1}, 100000), slices.Repeat([]int{2}, 100000), 514},
		{"the greatest", slices.Repeat([]int{1000000}, 257), slices.Repeat([]int{15}, 257), 3855000000},
	} {
		if got := Cost(x.counts, x.lens); got != x.want {
			t.Errorf("Cost of %s = %d, want %d", x.name, got, x.want)
		}
	}
}

// P8.3
func TestCostOfWrongNumbers(t *testing.T) {
	for _, n := range wrong() {
		for _, m := range []int{0, 1, 15, -1, 16, math.MinInt, math.MaxInt} {
			if got := Cost([]int{2, n, 3}, []int{1, m, 2}); got != 8 {
				t.Errorf("Cost with a count of %d and the length %d is %d", n, m, got)
			}
		}
		for _, count := range []int{0, 1, 1000000, -1, 1000001, math.MinInt, math.MaxInt} {
			if got := Cost([]int{2, count, 3}, []int{1, n, 2}); got != 8 {
				t.Errorf("Cost with a count of %d and the length %d is %d", count, n, got)
			}
		}
	}
}

// P8.3
func TestCostOfMany(t *testing.T) {
	for _, counts := range manyCounts() {
		lens := mixed(len(counts), 15)
		want := 0
		for i := range counts {
			want += counts[i] * lens[i]
		}
		if got := Cost(counts, lens); got != want {
			t.Errorf("Cost of %d counts, %v, and %v = %d, want %d", len(counts), short(counts), short(lens), got, want)
		}
	}
}

// P8.4
func TestNoneOfAllCostLess(t *testing.T) {
	for _, counts := range fewCounts() {
		byWords := leastByWords(counts)
		for _, most := range limits(counts) {
			// Of few symbols no word need be longer than there are symbols: longer ones only cost more.
			least := leastOfAll(counts, min(most, max(1, come(counts))))
			got, _ := Best(counts, most)
			if cost := Cost(counts, got); cost != least {
				t.Errorf("Best(%v, %d) = %v, which cost %d, not %d", counts, most, got, cost, least)
			}
			if byWords[most] != least {
				t.Errorf("%v by %d cost %d by words, %d of all", counts, most, byWords[most], least)
			}
		}
	}
}

// P8.4
func TestNoneOfManyCostLess(t *testing.T) {
	for _, counts := range manyCounts() {
		least := leastByWords(counts)
		for _, most := range limits(counts) {
			got, _ := Best(counts, most)
			if cost := Cost(counts, got); cost != least[most] {
				t.Errorf("Best of %d counts, %v, by %d = %v, which cost %d, not %d", len(counts), short(counts), most, short(got), cost, least[most])
			}
		}
	}
}

// P8.5
func TestBestAreOfACode(t *testing.T) {
	for _, counts := range append(fewCounts(), manyCounts()...) {
		for _, most := range limits(counts) {
			got, _ := Best(counts, most)
			if len(got) != len(counts) || Check(got) != api.OK || Used(got) != come(counts) {
				t.Fatalf("no code has Best of %d counts, %v, by %d = %v", len(counts), short(counts), most, short(got))
			}
			byCount := map[int][2]int{}
			for i, n := range got {
				if n > most || (n > 0) != (counts[i] > 0) {
					t.Fatalf("Best of %d counts, %v, by %d = %v: the length %d of a count of %d", len(counts), short(counts), most, short(got), n, counts[i])
				}
				ends, ok := byCount[counts[i]]
				if !ok {
					ends = [2]int{n, n}
				}
				byCount[counts[i]] = [2]int{min(ends[0], n), max(ends[1], n)}
			}
			for a, x := range byCount {
				for b, y := range byCount {
					if 0 < a && a < b && y[1] > x[0] {
						t.Fatalf("Best of %d counts, %v, by %d = %v: %d has a length of %d, %d one of %d", len(counts), short(counts), most, short(got), b, y[1], a, x[0])
					}
				}
			}
		}
	}
}

// P8.1 to P8.3
func TestListsAreNotChanged(t *testing.T) {
	for _, l := range slices.Concat(fewCounts(), manyCounts(), [][]int{wrong(), {2, 1, 2}, {-1, 1}, make([]int, 258)}) {
		room := append(slices.Clone(l), 7, 0, 9)
		before := slices.Clone(room)
		Best(room[:len(l)], 9)
		Check(room[:len(l)])
		Used(room[:len(l)])
		Cost(room[:len(l)], room[:len(l)])
		if !slices.Equal(room, before) {
			t.Errorf("%v was changed to %v", short(before), short(room))
		}
	}
}

// P8.2
func TestCallsAreApart(t *testing.T) {
	in := []int{1, 0, 1, 2, 4}
	first, _ := Best(in, 15)
	for i := range in {
		in[i] = 9
	}
	if !slices.Equal(first, []int{3, 0, 3, 2, 1}) {
		t.Errorf("Best changed with its counts: %v", first)
	}
	for i := range first {
		first[i] = 300
	}
	if got, e := Best([]int{1, 0, 1, 2, 4}, 15); !slices.Equal(got, []int{3, 0, 3, 2, 1}) || e != api.OK {
		t.Errorf("Best again: %v, %d", got, int(e))
	}
}

// The chapter's example.
func TestExample(t *testing.T) {
	counts := []int{1, 1, 2, 4}
	if got, e := Best(counts, 15); !slices.Equal(got, []int{3, 3, 2, 1}) || e != api.OK {
		t.Errorf("Best(%v, 15) = %v, %d", counts, got, int(e))
	}
	if got, e := Best(counts, 2); !slices.Equal(got, []int{2, 2, 2, 2}) || e != api.OK {
		t.Errorf("Best(%v, 2) = %v, %d", counts, got, int(e))
	}
}
