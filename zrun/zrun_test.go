package zrun

import (
	"math"
	"math/big"
	"math/bits"
	"slices"
	"sync"
	"testing"

	"varve/api"
)

// The tests hold zrun against the chapter's words, with numbers that have no end, and with rows of digits that are found by trying all of them.

// worth is the number of a row of digits: their sum, each times 2 to the power of its place.
func worth(digits []int) *big.Int {
	sum := new(big.Int)
	for place, digit := range digits {
		sum.Add(sum, new(big.Int).Lsh(big.NewInt(int64(digit)), uint(place)))
	}
	return sum
}

// rows tells the rows of digits of the numbers from 0 on, up to where 17 digits would be needed: all rows of digits 1 and 2, each at its number.
var rows = sync.OnceValue(func() [][]int {
	all := [][]int{nil}
	for from := 0; len(all[from]) < 16; from++ {
		all = append(all, append(slices.Clone(all[from]), 1), append(slices.Clone(all[from]), 2))
	}
	at := make([][]int, len(all))
	for _, row := range all {
		at[worth(row).Int64()] = row
	}
	return at
})

// runTo tells where the run of numbers from 0 to top that begins at a place ends.
func runTo(l []int, at, top int) int {
	for at < len(l) && l[at] >= 0 && l[at] <= top {
		at++
	}
	return at
}

// wantPack is the symbols of ranks, word by word.
func wantPack(ranks []int) []int {
	var symbols []int
	for at := 0; at < len(ranks); {
		if ranks[at] != 0 {
			symbols = append(symbols, ranks[at]+1)
			at++
			continue
		}
		to := runTo(ranks, at, 0)
		for _, digit := range rows()[to-at] {
			symbols = append(symbols, digit-1)
		}
		at = to
	}
	return symbols
}

// digitsOf tells the digits that a run of symbols has.
func digitsOf(run []int) []int {
	digits := slices.Clone(run)
	for i := range digits {
		digits[i]++
	}
	return digits
}

// wantCount is how many ranks symbols have, word by word.
func wantCount(symbols []int) int {
	sum := new(big.Int)
	for at := 0; at < len(symbols); {
		to := runTo(symbols, at, 1)
		if to == at {
			if symbols[at] >= 2 && symbols[at] <= 256 {
				sum.Add(sum, big.NewInt(1))
			}
			at++
			continue
		}
		sum.Add(sum, worth(digitsOf(symbols[at:to])))
		at = to
	}
	if sum.Cmp(big.NewInt(100001)) > 0 {
		return 100001
	}
	return int(sum.Int64())
}

// wantUnpack is the ranks of symbols, word by word; there must be few enough.
func wantUnpack(symbols []int) []int {
	var ranks []int
	for at := 0; at < len(symbols); {
		to := runTo(symbols, at, 1)
		if to == at {
			ranks = append(ranks, symbols[at]-1)
			at++
			continue
		}
		for range worth(digitsOf(symbols[at:to])).Int64() {
			ranks = append(ranks, 0)
		}
		at = to
	}
	return ranks
}

// listsOf tells all lists of up to so many of some numbers.
func listsOf(numbers []int, most int) [][]int {
	all := [][]int{nil}
	for from := 0; len(all[from]) < most; from++ {
		for _, n := range numbers {
			all = append(all, append(slices.Clone(all[from]), n))
		}
	}
	return all
}

// mixed tells a list of n numbers without a rule, the same ones each time: about three in four are below low, the others from 0 to top.
func mixed(n, low, top int) []int {
	seed := uint32(n + top)
	next := func(below int) int {
		seed = seed*1664525 + 1013904223
		return int(seed>>16) % below
	}
	l := make([]int, n)
	for i := range l {
		if l[i] = next(low); next(4) == 0 {
			l[i] = next(top + 1)
		}
	}
	return l
}

// upTo tells the numbers from 0 to top, in order.
func upTo(top int) []int {
	l := make([]int, top+1)
	for i := range l {
		l[i] = i
	}
	return l
}

// ranks tells lists of ranks: all of up to five of some at the edges, runs of many lengths, and longer ones.
func ranks() [][]int {
	all := append(listsOf([]int{0, 1, 2, 255}, 5), []int{}, upTo(255), slices.Repeat([]int{255}, 300), slices.Repeat([]int{1}, 300), slices.Repeat([]int{0, 1}, 300))
	for n := range 70 {
		run := make([]int, n)
		all = append(all, run, append(slices.Clone(run), 255), slices.Concat([]int{255}, run, []int{1}, run))
	}
	for _, n := range []int{1000, 1023, 1024, 4095, 20000, 65534, 65535, 65536, 99999, 100000} {
		all = append(all, make([]int, n), append(make([]int, n-1), 255), append([]int{7}, make([]int, n-1)...))
	}
	return append(all, mixed(3000, 1, 255), mixed(20000, 1, 255), mixed(20000, 3, 255), mixed(100000, 2, 255))
}

// symbols tells lists of symbols that have at most 100000 ranks: all of up to five of some at the edges, and longer ones.
func symbols() [][]int {
	all := append(listsOf([]int{0, 1, 2, 3, 256}, 5), []int{}, upTo(256), slices.Repeat([]int{256}, 100000), slices.Repeat([]int{2}, 100000), slices.Repeat([]int{0, 2, 1, 256}, 20000))
	for n := range 16 {
		all = append(all, slices.Repeat([]int{0}, n), slices.Repeat([]int{1}, n), append(slices.Repeat([]int{0}, n), 255, 1))
	}
	return append(all, mixed(300, 3, 256), mixed(1000, 4, 256), mixed(3000, 9, 256), symbolsOf(100000), append(symbolsOf(99999), 2))
}

// symbolsOf tells the symbols of one run of so many noughts.
func symbolsOf(n int) []int {
	l := slices.Clone(rows()[n])
	for i := range l {
		l[i]--
	}
	return l
}

// wrong tells numbers that are neither ranks nor symbols.
func wrong() []int {
	return []int{math.MinInt, math.MinInt + 1, math.MinInt32, -257, -256, -255, -2, -1, 257, 258, 511, 512, 1 << 16, 1 << 32, 1<<32 + 1, math.MaxInt - 1, math.MaxInt}
}

// spoilt tells lists like one, each with a number more, at its beginning, in it, or at its end.
func spoilt(l []int, n int) [][]int {
	l = l[:min(len(l), 300)]
	return [][]int{slices.Insert(slices.Clone(l), 0, n), slices.Insert(slices.Clone(l), len(l)/2, n), append(slices.Clone(l), n)}
}

// short tells so much of a list as can be read.
func short(l []int) []int { return l[:min(len(l), 20)] }

// P7.1
func TestDigits(t *testing.T) {
	for n, want := range rows() {
		if got := Digits(n); !slices.Equal(got, want) {
			t.Errorf("Digits(%d) = %v, want %v", n, got, want)
		}
	}
}

// P7.1
func TestDigitsOfGreatNumbers(t *testing.T) {
	numbers := []int{math.MaxInt, math.MaxInt - 1, math.MaxInt - 2}
	for k := 1; k < 63; k++ {
		numbers = append(numbers, 1<<k-2, 1<<k-1, 1<<k, 1<<k+1)
	}
	for _, n := range numbers {
		got := Digits(n)
		if slices.ContainsFunc(got, func(digit int) bool { return digit != 1 && digit != 2 }) {
			t.Errorf("Digits(%d) = %v", n, got)
		}
		if worth(got).Cmp(big.NewInt(int64(n))) != 0 {
			t.Errorf("Digits(%d) = %v, which is %v", n, got, worth(got))
		}
	}
	if got := Digits(math.MaxInt); !slices.Equal(got, slices.Repeat([]int{1}, 63)) {
		t.Errorf("the digits of the greatest number are %v", got)
	}
}

// P7.1
func TestNoDigits(t *testing.T) {
	for _, n := range []int{math.MinInt, math.MinInt + 1, math.MinInt32, -256, -3, -2, -1, 0} {
		if got := Digits(n); len(got) != 0 {
			t.Errorf("Digits(%d) = %v", n, got)
		}
	}
}

// P7.1
func TestCount(t *testing.T) {
	for _, l := range symbols() {
		if got, want := Count(l), wantCount(l); got != want {
			t.Errorf("Count of %d symbols, %v, = %d, want %d", len(l), short(l), got, want)
		}
	}
}

// P7.1
func TestSomeCounts(t *testing.T) {
	for _, x := range []struct {
		symbols []int
		want    int
	}{
		{[]int{0}, 1},
		{[]int{1}, 2},
		{[]int{0, 1}, 5},
		{[]int{1, 0}, 4},
		{[]int{1, 1, 1}, 14},
		{[]int{0, 2, 0}, 3},
		{[]int{1, 256, 2, 0, 0}, 7},
		{[]int{0, -1, 0}, 2},
		{[]int{1, 257, 1}, 4},
		{[]int{-1, 257, math.MinInt, math.MaxInt}, 0},
		{[]int{2, -1, 256, 257}, 2},
	} {
		if got := Count(x.symbols); got != x.want {
			t.Errorf("Count(%v) = %d, want %d", x.symbols, got, x.want)
		}
	}
}

// P7.1
func TestWrongSymbolsCountNothing(t *testing.T) {
	for _, l := range listsOf([]int{math.MinInt, -1, 0, 1, 2, 256, 257, math.MaxInt}, 4) {
		if got, want := Count(l), wantCount(l); got != want {
			t.Errorf("Count(%v) = %d, want %d", l, got, want)
		}
	}
	for _, n := range wrong() {
		for _, l := range [][]int{nil, {0, 1}, {2, 256}, {1, 7, 1, 1}} {
			for _, bad := range spoilt(l, n) {
				if got, want := Count(bad), wantCount(bad); got != want {
					t.Errorf("Count(%v) = %d, want %d", bad, got, want)
				}
			}
		}
	}
}

// P7.1
func TestCountIsAtMost100001(t *testing.T) {
	near := symbolsOf(99999)
	for _, x := range []struct {
		name    string
		symbols []int
		want    int
	}{
		{"a run of 100000", symbolsOf(100000), 100000},
		{"a run of 100001", symbolsOf(100001), 100001},
		{"a run of 100002", symbolsOf(100002), 100001},
		{"a run of 131070", symbolsOf(131070), 100001},
		{"17 symbols 0", make([]int, 17), 100001},
		{"64 symbols 0", make([]int, 64), 100001},
		{"64 symbols 1", slices.Repeat([]int{1}, 64), 100001},
		{"3000 symbols 0", make([]int, 3000), 100001},
		{"100000 symbols 0", make([]int, 100000), 100001},
		{"60000 symbols 0 and 1", slices.Repeat([]int{0, 1}, 30000), 100001},
		{"100000 symbols 5", slices.Repeat([]int{5}, 100000), 100000},
		{"100001 symbols 5", slices.Repeat([]int{5}, 100001), 100001},
		{"100002 symbols 5", slices.Repeat([]int{5}, 100002), 100001},
		{"a run of 99999 and another symbol", append(slices.Clone(near), 9), 100000},
		{"a run of 99999 and two other symbols", append(slices.Clone(near), 9, 9), 100001},
		{"a run of 99999 and three other symbols", append(slices.Clone(near), 9, 9, 9), 100001},
		{"a run of 99999, and one of 1 behind a wrong symbol", slices.Concat(near, []int{-1, 0}), 100000},
		{"a run of 99999, and one of 2 behind a wrong symbol", slices.Concat(near, []int{257, 1}), 100001},
		{"two great runs", slices.Concat(make([]int, 200), []int{2}, make([]int, 200)), 100001},
		{"many great runs", slices.Repeat(slices.Concat(make([]int, 63), []int{2}), 300), 100001},
	} {
		if got := Count(x.symbols); got != x.want {
			t.Errorf("Count of %s = %d, want %d", x.name, got, x.want)
		}
	}
}

// P7.2
func TestPack(t *testing.T) {
	for _, l := range ranks() {
		if got, e := Pack(l); !slices.Equal(got, wantPack(l)) || e != api.OK {
			t.Errorf("Pack of %d ranks, %v, = %v, %d, want %v", len(l), short(l), short(got), int(e), short(wantPack(l)))
		}
	}
}

// P7.2
func TestSomeSymbols(t *testing.T) {
	for _, x := range []struct{ ranks, symbols []int }{
		{[]int{0}, []int{0}},
		{[]int{0, 0}, []int{1}},
		{[]int{0, 0, 0}, []int{0, 0}},
		{[]int{0, 0, 0, 0}, []int{1, 0}},
		{make([]int, 5), []int{0, 1}},
		{make([]int, 6), []int{1, 1}},
		{make([]int, 7), []int{0, 0, 0}},
		{[]int{1}, []int{2}},
		{[]int{255}, []int{256}},
		{[]int{1, 0, 1}, []int{2, 0, 2}},
		{[]int{0, 0, 255, 0}, []int{1, 256, 0}},
	} {
		if got, e := Pack(x.ranks); !slices.Equal(got, x.symbols) || e != api.OK {
			t.Errorf("Pack(%v) = %v, %d, want %v", x.ranks, got, int(e), x.symbols)
		}
		if got, e := Unpack(x.symbols, len(x.ranks)); !slices.Equal(got, x.ranks) || e != api.OK {
			t.Errorf("Unpack(%v) = %v, %d, want %v", x.symbols, got, int(e), x.ranks)
		}
	}
}

// P7.2
func TestNoRank(t *testing.T) {
	for _, l := range ranks() {
		for _, n := range append(wrong(), 256) {
			for _, bad := range spoilt(l, n) {
				if got, e := Pack(bad); len(got) != 0 || e != api.ErrRank {
					t.Fatalf("Pack(%v) = %v, %d", bad, got, int(e))
				}
			}
		}
	}
}

// P7.3
func TestUnpack(t *testing.T) {
	for _, l := range symbols() {
		want := wantUnpack(l)
		for _, most := range []int{len(want), len(want) + 1, 100000, 100001, math.MaxInt} {
			if got, e := Unpack(l, most); !slices.Equal(got, want) || e != api.OK {
				t.Errorf("Unpack of %d symbols, %v, up to %d = %v, %d, want %v", len(l), short(l), most, short(got), int(e), short(want))
			}
		}
	}
}

// P7.3
func TestMoreRanksThanMost(t *testing.T) {
	for _, l := range symbols() {
		for _, most := range []int{math.MinInt, math.MinInt + 1, -100000, -2, -1, len(wantUnpack(l)) - 2, len(wantUnpack(l)) - 1} {
			if got, e := Unpack(l, most); len(got) != 0 || e != api.ErrBig {
				t.Errorf("Unpack of %d symbols, %v, up to %d = %v, %d", len(l), short(l), most, short(got), int(e))
			}
		}
	}
}

// P7.3
func TestMoreRanksThan100000(t *testing.T) {
	for _, l := range [][]int{
		symbolsOf(100001),
		symbolsOf(131070),
		make([]int, 17),
		make([]int, 64),
		slices.Repeat([]int{1}, 3000),
		make([]int, 100000),
		slices.Repeat([]int{5}, 100001),
		slices.Concat(symbolsOf(100000), []int{2}),
		slices.Concat([]int{256}, symbolsOf(100000)),
		slices.Repeat(slices.Concat(make([]int, 63), []int{2}), 300),
	} {
		for _, most := range []int{-1, 0, 9, 100000, 100001, 100002, 131070, 1 << 40, math.MaxInt} {
			if got, e := Unpack(l, most); len(got) != 0 || e != api.ErrBig {
				t.Errorf("Unpack of %d symbols, %v, up to %d = %d ranks, %d", len(l), short(l), most, len(got), int(e))
			}
		}
	}
}

// P7.3: a symbol that is wrong is told ahead of too many ranks.
func TestNoSymbol(t *testing.T) {
	for _, l := range append(ranks(), make([]int, 100), slices.Repeat([]int{1}, 300)) {
		for _, n := range wrong() {
			for _, bad := range spoilt(l, n) {
				for _, most := range []int{math.MinInt, -1, 0, 300, math.MaxInt} {
					if got, e := Unpack(bad, most); len(got) != 0 || e != api.ErrSymbol {
						t.Fatalf("Unpack(%v, %d) = %v, %d", bad, most, got, int(e))
					}
				}
			}
		}
	}
}

// P7.1 to P7.3
func TestListsAreNotChanged(t *testing.T) {
	for _, l := range slices.Concat(ranks(), symbols(), [][]int{wrong(), {0, 256, 1}, {0, 257, 1}, make([]int, 100)}) {
		room := append(slices.Clone(l), 7, 0, 9)
		before := slices.Clone(room)
		Pack(room[:len(l)])
		Unpack(room[:len(l)], 100000)
		Count(room[:len(l)])
		if !slices.Equal(room, before) {
			t.Errorf("%v was changed to %v", short(before), short(room))
		}
	}
}

// P7.1 to P7.3
func TestCallsAreApart(t *testing.T) {
	in := []int{3, 0, 0, 255, 0}
	packed, _ := Pack(in)
	unpacked, _ := Unpack(packed, 5)
	digits := Digits(9)
	for _, l := range [][]int{in, packed, unpacked, digits} {
		for i := range l {
			l[i] = 300
		}
	}
	if got, e := Pack([]int{3, 0, 0, 255, 0}); !slices.Equal(got, []int{4, 1, 256, 0}) || e != api.OK {
		t.Errorf("Pack again: %v, %d", got, int(e))
	}
	if got, e := Unpack([]int{4, 1, 256, 0}, 5); !slices.Equal(got, []int{3, 0, 0, 255, 0}) || e != api.OK {
		t.Errorf("Unpack again: %v, %d", got, int(e))
	}
	if got := Digits(9); !slices.Equal(got, []int{1, 2, 1}) {
		t.Errorf("Digits again: %v", got)
	}
}

// P7.4
func TestUnpackOfPack(t *testing.T) {
	for _, l := range ranks() {
		packed, _ := Pack(l)
		if got, e := Unpack(packed, len(l)); !slices.Equal(got, l) || e != api.OK {
			t.Errorf("Unpack of Pack of %d ranks, %v, is %v, %d", len(l), short(l), short(got), int(e))
		}
		if got := Count(packed); got != len(l) {
			t.Errorf("Count of Pack of %d ranks is %d", len(l), got)
		}
	}
}

// P7.4
func TestPackOfUnpack(t *testing.T) {
	for _, l := range symbols() {
		unpacked, _ := Unpack(l, 100000)
		if got, e := Pack(unpacked); !slices.Equal(got, l) || e != api.OK {
			t.Errorf("Pack of Unpack of %d symbols, %v, is %v, %d", len(l), short(l), short(got), int(e))
		}
	}
}

// P7.5
func TestHowManySymbolsARunHas(t *testing.T) {
	check := func(n int) {
		packed, _ := Pack(make([]int, n))
		if want := bits.Len(uint(n+1)) - 1; len(packed) != want {
			t.Errorf("a run of %d noughts has %d symbols, want %d", n, len(packed), want)
		}
	}
	for n := range 3000 {
		check(n)
	}
	// Runs have no end but the bound of the whole: they may be longer than those that are unpacked.
	for _, n := range []int{16382, 16383, 65534, 65535, 100000, 100001, 131070, 131071, 1<<20 - 1, 1 << 20} {
		check(n)
	}
}

// P7.5
func TestNeverMoreSymbolsThanRanks(t *testing.T) {
	for _, l := range ranks() {
		if packed, _ := Pack(l); len(packed) > len(l) {
			t.Errorf("%d ranks, %v, have %d symbols", len(l), short(l), len(packed))
		}
	}
}

// The chapter's example.
func TestExample(t *testing.T) {
	if got, e := Pack([]int{0, 0, 0, 5}); !slices.Equal(got, []int{0, 0, 6}) || e != api.OK {
		t.Errorf("Pack(0, 0, 0, 5) = %v, %d", got, int(e))
	}
	if got := Digits(4); !slices.Equal(got, []int{2, 1}) {
		t.Errorf("Digits(4) = %v", got)
	}
}
