package suffix

import (
	"math"
	"slices"
	"strconv"
	"strings"
	"testing"

	"varve/api"
)

// The tests hold suffix against the chapter's words: ends are cut from the text and ordered as Go orders strings, what two have in common is counted byte by byte, and what is found is looked for at each place.

// textsOf tells all texts of up to so many bytes out of some.
func textsOf(some string, most int) []string {
	all := []string{""}
	for from := 0; len(all[from]) < most; from++ {
		for i := range len(some) {
			all = append(all, all[from]+some[i:i+1])
		}
	}
	return all
}

// listsOf tells all lists of up to so many of some numbers.
func listsOf(numbers []int, most int) [][]int {
	all := [][]int{nil}
	for from := 0; len(all[from]) < most; from++ {
		for _, n := range numbers {
			all = append(all, append(slices.Clone(all[from]), n))
		}
	}
	return all
}

// mixed tells n numbers from 0 to most without a rule, the same ones each time.
func mixed(n, most int) []int {
	seed := uint32(n + most)
	l := make([]int, n)
	for i := range l {
		seed = seed*1664525 + 1013904223
		l[i] = int(uint64(seed) * uint64(most+1) >> 32)
	}
	return l
}

// mixedText tells a text of n bytes out of some, without a rule, the same one each time.
func mixedText(n int, some string) string {
	var s []byte
	for _, i := range mixed(n, len(some)-1) {
		s = append(s, some[i])
	}
	return string(s)
}

// growing tells a text that is made of the two ahead of it again and again, cut to n bytes.
func growing(n int) string {
	a, b := "a", "ab"
	for len(b) < n {
		a, b = b, b+a
	}
	return b[:n]
}

// eachByte tells all bytes, rising.
func eachByte() string {
	var s []byte
	for n := range 256 {
		s = append(s, byte(n))
	}
	return string(s)
}

// falling tells all bytes, from the greatest one on.
func falling() string {
	s := []byte(eachByte())
	slices.Reverse(s)
	return string(s)
}

// backward tells a list from its end on.
func backward(l []int) []int {
	l = slices.Clone(l)
	slices.Reverse(l)
	return l
}

// rows tells all orders of n places.
func rows(n int) [][]int {
	if n == 0 {
		return [][]int{nil}
	}
	var all [][]int
	for _, l := range rows(n - 1) {
		for at := range n {
			all = append(all, slices.Insert(slices.Clone(l), at, n-1))
		}
	}
	return all
}

// shuffled tells an order of n places without a rule, the same one each time.
func shuffled(n int) []int {
	l := counted(n)
	for i, at := range mixed(n, n-1) {
		l[i], l[at] = l[at], l[i]
	}
	return l
}

// counted tells the places from 0 on, n of them.
func counted(n int) []int {
	l := make([]int, n)
	for i := range l {
		l[i] = i
	}
	return l
}

// shortTexts tells all short texts of a few bytes, the least and the greatest one among them.
func shortTexts() []string {
	return slices.Concat(textsOf("ab", 10), textsOf("\x00\x7f\x80\xff", 5), textsOf("abc", 6))
}

// longTexts tells texts of many kinds, up to as long as they may be.
func longTexts() []string {
	each := eachByte()
	all := []string{each, strings.Repeat(each, 2), falling(), "abracadabra", "\u00e4\u00f6\u00fc\u4e16\u754c", "\xff\xfe\xff\xff\xfe"}
	for _, n := range []int{15, 16, 17, 31, 32, 33, 63, 64, 65, 127, 128, 129, 1000, 4096, 4097} {
		all = append(all, strings.Repeat("a", n), strings.Repeat("\x00", n), strings.Repeat("ab", n), strings.Repeat("a", n)+"b", "b"+strings.Repeat("a", n), growing(n))
		for _, some := range []string{"ab", "\x00\xff", "abcdefgh", each} {
			s := mixedText(n, some)
			all = append(all, s, s+s)
		}
	}
	for _, n := range []int{19999, 20000} {
		all = append(all, strings.Repeat("\xff", n), strings.Repeat("abc", n)[:n], growing(n), mixedText(n, "ab"), mixedText(n, each), strings.Repeat(mixedText(997, "abcd"), 21)[:n])
	}
	return all
}

// texts tells all of these.
func texts() []string { return slices.Concat(shortTexts(), longTexts()) }

// short tells so much of a list as can be read.
func short(l []int) []int { return l[:min(len(l), 20)] }

// shortText tells so much of a text as can be read.
func shortText(s string) string { return strconv.Quote(s[:min(len(s), 20)]) }

// wantArray is the array of a text.
func wantArray(s string) []int {
	l := counted(len(s) + 1)
	slices.SortFunc(l, func(a, b int) int { return strings.Compare(s[a:], s[b:]) })
	return l
}

// arrayOf is what Array tells of a text that has an array.
func arrayOf(t *testing.T, s string) []int {
	t.Helper()
	l, e := Array(s)
	if e != api.OK || len(l) != len(s)+1 {
		t.Fatalf("Array(%s) = %v, %d", shortText(s), short(l), int(e))
	}
	return l
}

// isOrder tells whether a row has each place from 0 on once.
func isOrder(row []int) bool {
	for place := range len(row) {
		if !slices.Contains(row, place) {
			return false
		}
	}
	return true
}

// shared is how many bytes two texts have in common at their beginning.
func shared(a, b string) int {
	n := 0
	for n < len(a) && n < len(b) && a[n] == b[n] {
		n++
	}
	return n
}

// wantCommon is what each end of a row has in common with the one ahead of it.
func wantCommon(s string, row []int) []int {
	l := make([]int, len(row))
	for i := 1; i < len(row); i++ {
		l[i] = shared(s[row[i-1]:], s[row[i]:])
	}
	return l
}

// wantFind is the range of the numbers whose ends begin with what.
func wantFind(s string, row []int, what string) api.Range {
	found := api.Range{Lo: 1, Hi: 0}
	for i, place := range row {
		if strings.HasPrefix(s[place:], what) {
			if found.Hi < found.Lo {
				found.Lo = i
			}
			found.Hi = i
		}
	}
	return found
}

// P12.1
func TestArray(t *testing.T) {
	for _, s := range texts() {
		if got, e := Array(s); !slices.Equal(got, wantArray(s)) || e != api.OK {
			t.Errorf("Array of %d bytes, %s = %v, %d, want %v", len(s), shortText(s), short(got), int(e), short(wantArray(s)))
		}
	}
}

// P12.1: worked by hand.
func TestSomeArrays(t *testing.T) {
	for _, x := range []struct {
		s    string
		want []int
	}{
		{"", []int{0}},
		{"a", []int{1, 0}},
		{"\x00", []int{1, 0}},
		{"aa", []int{2, 1, 0}},
		{"ab", []int{2, 0, 1}},
		{"ba", []int{2, 1, 0}},
		{"\x80\x7f", []int{2, 1, 0}},
		{"\x00\x00\xff\x00", []int{4, 3, 0, 1, 2}},
		{"abab", []int{4, 2, 0, 3, 1}},
		{"banana", []int{6, 5, 3, 1, 0, 4, 2}},
	} {
		if got, e := Array(x.s); !slices.Equal(got, x.want) || e != api.OK {
			t.Errorf("Array(%q) = %v, %d, want %v", x.s, got, int(e), x.want)
		}
	}
}

// P12.1
func TestTextsThatAreTooLong(t *testing.T) {
	for _, s := range []string{strings.Repeat("a", 20001), mixedText(20001, eachByte()), growing(20002), strings.Repeat("ab", 50000)} {
		if got, e := Array(s); len(got) != 0 || e != api.ErrBig {
			t.Errorf("Array of %d bytes = %v, %d", len(s), short(got), int(e))
		}
	}
}

// P12.5
func TestEachEndIsLessThanTheNext(t *testing.T) {
	for _, s := range texts() {
		row := arrayOf(t, s)
		seen := make([]int, len(row))
		for i, place := range row {
			if seen[place]++; seen[place] > 1 {
				t.Fatalf("Array(%s) has %d twice", shortText(s), place)
			}
			if i > 0 && s[row[i-1]:] >= s[place:] {
				t.Fatalf("Array(%s): the end %d is not ahead of the end %d", shortText(s), row[i-1], place)
			}
		}
	}
}

// wantSort is the places of keys: each goes behind all that are no greater.
func wantSort(keys []int) []int {
	l := counted(len(keys))
	slices.SortStableFunc(l, func(a, b int) int { return keys[a] - keys[b] })
	return l
}

// P12.1
func TestSort(t *testing.T) {
	lists := append(listsOf([]int{0, 1, 2, 3}, 6), make([]int, 1000), counted(1000), backward(counted(1000)), []int{1000000}, []int{1000000, 0, 999999, 1000000, 0, 1})
	for _, most := range []int{0, 1, 9, 255, 256, 257, 65535, 65536, 1000000} {
		lists = append(lists, mixed(3000, most))
	}
	for _, keys := range lists {
		greatest := slices.Max(append([]int{0}, keys...))
		for _, most := range []int{greatest, min(greatest+1, 1000000), 1000000} {
			if got, e := Sort(keys, most); !slices.Equal(got, wantSort(keys)) || e != api.OK {
				t.Fatalf("Sort(%v, %d) = %v, %d, want %v", short(keys), most, short(got), int(e), short(wantSort(keys)))
			}
		}
	}
}

// P12.1: worked by hand.
func TestSomeSorts(t *testing.T) {
	for _, x := range []struct {
		keys []int
		most int
		want []int
	}{
		{nil, 0, nil},
		{nil, 1000000, nil},
		{[]int{}, 7, nil},
		{[]int{0}, 0, []int{0}},
		{[]int{0, 0, 0}, 0, []int{0, 1, 2}},
		{[]int{2, 1, 0}, 2, []int{2, 1, 0}},
		{[]int{1, 0, 1, 0}, 1, []int{1, 3, 0, 2}},
		{[]int{5, 1, 5, 0, 1}, 5, []int{3, 1, 4, 0, 2}},
		{[]int{1000000, 999999, 1000000}, 1000000, []int{1, 0, 2}},
	} {
		if got, e := Sort(x.keys, x.most); !slices.Equal(got, x.want) || e != api.OK {
			t.Errorf("Sort(%v, %d) = %v, %d, want %v", x.keys, x.most, got, int(e), x.want)
		}
	}
}

// P12.1
func TestKeysThatMayNotBe(t *testing.T) {
	for _, most := range []int{math.MinInt, math.MinInt32, -1000000, -2, -1, 1000001, 1000002, math.MaxInt32, 1 << 32, math.MaxInt - 1, math.MaxInt} {
		for _, keys := range [][]int{nil, {0}, {most}, {-1}, {1000001}, {0, 1, 2}} {
			if got, e := Sort(keys, most); len(got) != 0 || e != api.ErrArg {
				t.Errorf("Sort(%v, %d) = %v, %d", keys, most, got, int(e))
			}
		}
	}
	for _, most := range []int{0, 1, 255, 256, 999999, 1000000} {
		for _, key := range []int{math.MinInt, math.MinInt + 1, math.MinInt32, -256, -2, -1, most + 1, most + 2, most + 256, most + 1<<32, math.MaxInt - 1, math.MaxInt} {
			for _, keys := range [][]int{{key}, {key, 0}, {0, key}, {most, 0, key}, {-1, key, math.MaxInt}, append(make([]int, 1000), key)} {
				if got, e := Sort(keys, most); len(got) != 0 || e != api.ErrArg {
					t.Errorf("Sort(%v, %d) = %v, %d", short(keys), most, got, int(e))
				}
			}
		}
	}
}

// P12.2: all short rows.
func TestRanks(t *testing.T) {
	orders := 0
	for _, row := range listsOf([]int{-1, 0, 1, 2, 3, 4, 5}, 5) {
		var want []int
		e := api.ErrArg
		if isOrder(row) {
			orders++
			e = api.OK
			for place := range len(row) {
				want = append(want, slices.Index(row, place))
			}
		}
		if got, f := Ranks(row); !slices.Equal(got, want) || f != e {
			t.Errorf("Ranks(%v) = %v, %d, want %v, %d", row, got, int(f), want, int(e))
		}
	}
	if orders != 1+1+2+6+24+120 {
		t.Errorf("%d orders", orders)
	}
}

// P12.2: the ranks of ranks are the row.
func TestRanksOfLongRows(t *testing.T) {
	for _, n := range []int{100, 20001, 20002, 300000} {
		for _, row := range [][]int{counted(n), backward(counted(n)), shuffled(n)} {
			ranks, e := Ranks(row)
			if e != api.OK || len(ranks) != n {
				t.Fatalf("Ranks of %d places = %v, %d", n, short(ranks), int(e))
			}
			for number, place := range row {
				if ranks[place] != number {
					t.Fatalf("of %d places %d has rank %d, want %d", n, place, ranks[place], number)
				}
			}
		}
	}
}

// outOf tells rows that are no orders, each made of an order by one number.
func outOf(row []int) [][]int {
	var all [][]int
	for _, n := range []int{math.MinInt, math.MinInt + 1, math.MinInt32, -2, -1, len(row), len(row) + 1, 1 << 32, math.MaxInt - 1, math.MaxInt} {
		for _, at := range []int{0, len(row) / 2, len(row) - 1} {
			other := slices.Clone(row)
			other[at] = n
			all = append(all, other)
		}
	}
	if len(row) > 1 {
		twice, again := slices.Clone(row), slices.Clone(row)
		twice[0], again[len(row)-1] = row[len(row)-1], row[0]
		all = append(all, twice, again)
	}
	return all
}

// P12.2
func TestRowsThatAreNoOrders(t *testing.T) {
	for _, n := range []int{1, 2, 3, 100, 20001} {
		for _, row := range slices.Concat(outOf(counted(n)), outOf(backward(counted(n))), outOf(shuffled(n))) {
			if got, e := Ranks(row); len(got) != 0 || e != api.ErrArg {
				t.Errorf("Ranks of %d places, %v = %v, %d", n, short(row), short(got), int(e))
			}
		}
	}
}

// P12.3: by all orders of short texts.
func TestCommonOfAllOrders(t *testing.T) {
	for _, s := range slices.Concat(textsOf("ab", 5), textsOf("\x00a\xff", 4), []string{"aaaaaa", "banana", "ababab"}) {
		for _, row := range rows(len(s) + 1) {
			if got, e := Common(s, row); !slices.Equal(got, wantCommon(s, row)) || e != api.OK {
				t.Fatalf("Common(%q, %v) = %v, %d, want %v", s, row, got, int(e), wantCommon(s, row))
			}
		}
	}
}

// P12.3, P12.6
func TestCommonOfArrays(t *testing.T) {
	for _, s := range texts() {
		row := arrayOf(t, s)
		common, e := Common(s, row)
		if e != api.OK || len(common) != len(row) || common[0] != 0 {
			t.Fatalf("Common(%s) = %v, %d", shortText(s), short(common), int(e))
		}
		for i := 1; i < len(row); i++ {
			a, b, n := s[row[i-1]:], s[row[i]:], common[i]
			if n < 0 || n > len(a) || n > len(b) || a[:n] != b[:n] {
				t.Fatalf("Common(%s): number %d has not %d bytes in common", shortText(s), i, n)
			}
			if n < len(a) && n < len(b) && a[n] == b[n] {
				t.Fatalf("Common(%s): number %d has more than %d bytes in common", shortText(s), i, n)
			}
		}
	}
}

// P12.3: other orders of longer texts.
func TestCommonOfOtherOrders(t *testing.T) {
	for _, s := range longTexts() {
		if len(s) > 5000 {
			continue
		}
		for _, row := range [][]int{counted(len(s) + 1), backward(counted(len(s) + 1)), shuffled(len(s) + 1)} {
			if got, e := Common(s, row); !slices.Equal(got, wantCommon(s, row)) || e != api.OK {
				t.Fatalf("Common(%s, %v) = %v, %d", shortText(s), short(row), short(got), int(e))
			}
		}
	}
}

// P12.3: there is no limit to a text; one that is gone through end by end would take very long here.
func TestCommonOfVeryLongTexts(t *testing.T) {
	n := 200000
	s := strings.Repeat("a", n)
	for _, row := range [][]int{backward(counted(n + 1)), counted(n + 1), shuffled(n + 1)} {
		want := make([]int, n+1)
		for i := 1; i <= n; i++ {
			want[i] = n - max(row[i-1], row[i])
		}
		if got, e := Common(s, row); !slices.Equal(got, want) || e != api.OK {
			t.Errorf("Common of %d bytes by %v = %v, %d", n, short(row), short(got), int(e))
		}
	}
}

// notOf tells rows that are no orders of as many places as a text has bytes, and one more.
func notOf(s string) [][]int {
	n := len(s) + 1
	all := append(outOf(counted(n)), outOf(backward(counted(n)))...)
	all = append(all, outOf(wantArray(s))...)
	for _, m := range []int{0, 1, n - 2, n - 1, n + 1, n + 2, 2 * n} {
		if m >= 0 && m != n {
			all = append(all, counted(m))
		}
	}
	return append(all, append(wantArray(s), 0), append(wantArray(s), n-1), wantArray(s)[1:], wantArray(s)[:n-1], nil)
}

// P12.3, P12.4
func TestRowsOfOtherTexts(t *testing.T) {
	for _, s := range []string{"", "a", "ab", "banana", strings.Repeat("ab", 50), strings.Repeat("a", 20000), mixedText(20001, "abc")} {
		for _, row := range notOf(s) {
			if got, e := Common(s, row); len(got) != 0 || e != api.ErrArg {
				t.Errorf("Common(%s, %v) = %v, %d", shortText(s), short(row), short(got), int(e))
			}
			for _, what := range []string{"", "a", "x"} {
				if got, e := Find(s, row, what); got != (api.Range{}) || e != api.ErrArg {
					t.Errorf("Find(%s, %v, %q) = %v, %d", shortText(s), short(row), what, got, int(e))
				}
			}
		}
	}
}

// P12.4: all short texts, and all that could stand in them.
func TestFind(t *testing.T) {
	for some, most := range map[string]int{"ab": 7, "\x00a\xff": 4} {
		looked := textsOf(some, most+1)
		for _, s := range textsOf(some, most) {
			row := arrayOf(t, s)
			for _, what := range append(looked, s+s, "b", "\x01", "\xfe", "a\x00", "b\xff") {
				if got, e := Find(s, row, what); got != wantFind(s, row, what) || e != api.OK {
					t.Fatalf("Find(%q, %q) = %v, %d, want %v", s, what, got, int(e), wantFind(s, row, what))
				}
			}
		}
	}
}

// P12.4: pieces of longer texts, such as stand there and such as nearly do.
func TestFindInLongTexts(t *testing.T) {
	for _, s := range longTexts() {
		row := arrayOf(t, s)
		for i, at := range mixed(12, len(s)) {
			end := min(at+i*i, len(s))
			piece := s[at:end]
			for _, what := range []string{piece, piece + "a", piece + "\x00", piece + "\xff", "c" + piece, s[end:]} {
				if got, e := Find(s, row, what); got != wantFind(s, row, what) || e != api.OK {
					t.Fatalf("Find(%s, %s) = %v, %d, want %v", shortText(s), shortText(what), got, int(e), wantFind(s, row, what))
				}
			}
		}
	}
}

// P12.4: worked by hand.
func TestSomeFinds(t *testing.T) {
	none := api.Range{Lo: 1, Hi: 0}
	for _, x := range []struct {
		s, what string
		want    api.Range
	}{
		{"", "", api.Range{Lo: 0, Hi: 0}},
		{"", "a", none},
		{"", "\x00", none},
		{"a", "", api.Range{Lo: 0, Hi: 1}},
		{"a", "a", api.Range{Lo: 1, Hi: 1}},
		{"a", "aa", none},
		{"banana", "", api.Range{Lo: 0, Hi: 6}},
		{"banana", "a", api.Range{Lo: 1, Hi: 3}},
		{"banana", "an", api.Range{Lo: 2, Hi: 3}},
		{"banana", "ana", api.Range{Lo: 2, Hi: 3}},
		{"banana", "anan", api.Range{Lo: 3, Hi: 3}},
		{"banana", "ban", api.Range{Lo: 4, Hi: 4}},
		{"banana", "banana", api.Range{Lo: 4, Hi: 4}},
		{"banana", "na", api.Range{Lo: 5, Hi: 6}},
		{"banana", "bananas", none},
		{"banana", "`", none},
		{"banana", "aa", none},
		{"banana", "c", none},
		{"banana", "nb", none},
		{"banana", "z", none},
		{"\xff\xff\xff", "\xff\xff", api.Range{Lo: 2, Hi: 3}},
		{"\x00\x00", "\x00", api.Range{Lo: 1, Hi: 2}},
	} {
		if got, e := Find(x.s, wantArray(x.s), x.what); got != x.want || e != api.OK {
			t.Errorf("Find(%q, %q) = %v, %d, want %v", x.s, x.what, got, int(e), x.want)
		}
	}
}

// P12.7
func TestHowOftenItStandsThere(t *testing.T) {
	for _, s := range []string{"", "a", "banana", "mississippi", growing(300), strings.Repeat("ab", 40), strings.Repeat("a", 99), mixedText(500, "abc")} {
		row := arrayOf(t, s)
		for _, what := range textsOf("abimnps", 3) {
			often := 0
			for at := range len(s) + 1 {
				if strings.HasPrefix(s[at:], what) {
					often++
				}
			}
			if got, e := Find(s, row, what); got.Hi-got.Lo+1 != often || e != api.OK {
				t.Errorf("Find(%s, %q) = %v, %d, but it stands there %d times", shortText(s), what, got, int(e), often)
			}
		}
	}
}

// P12.4: of all orders just the text's own array is taken.
func TestOrdersThatAreNoArrays(t *testing.T) {
	for _, s := range slices.Concat(textsOf("ab", 5), textsOf("\x00a\xff", 4), []string{"aaaaaa", "banana", "ababab"}) {
		for _, row := range rows(len(s) + 1) {
			want, e := wantFind(s, row, "a"), api.OK
			if !slices.Equal(row, wantArray(s)) {
				want, e = api.Range{}, api.ErrArg
			}
			if got, f := Find(s, row, "a"); got != want || f != e {
				t.Fatalf("Find(%q, %v, a) = %v, %d, want %v, %d", s, row, got, int(f), want, int(e))
			}
		}
	}
}

// P12.4: two ends of a long array stand for each other.
func TestArraysThatWereChanged(t *testing.T) {
	for _, s := range longTexts() {
		row := wantArray(s)
		for i, at := range mixed(20, len(row)-2) {
			for _, to := range []int{at + 1, len(row) - 1, 0} {
				if to == at || i > 2 && len(s) > 5000 {
					continue
				}
				row[at], row[to] = row[to], row[at]
				if got, e := Find(s, row, "a"); got != (api.Range{}) || e != api.ErrArg {
					t.Fatalf("Find(%s) by a row with %d and %d changed = %v, %d", shortText(s), at, to, got, int(e))
				}
				row[at], row[to] = row[to], row[at]
			}
		}
	}
}

// P12.4: what is no order is told ahead of too long a text, and that ahead of what is no array.
func TestFindInTextsThatAreTooLong(t *testing.T) {
	s := mixedText(20001, "ab")
	long := wantArray(s)
	for _, x := range []struct {
		name string
		s    string
		row  []int
		want api.Errno
	}{
		{"its array", s, long, api.ErrBig},
		{"another order", s, counted(20002), api.ErrBig},
		{"no row", s, nil, api.ErrArg},
		{"one place less", s, counted(20001), api.ErrArg},
		{"one place more", s, counted(20003), api.ErrArg},
		{"a place twice", s, append(slices.Clone(long[:20001]), long[0]), api.ErrArg},
		{"as long as may be, and another order", s[:20000], counted(20001), api.ErrArg},
		{"as long as may be", s[:20000], wantArray(s[:20000]), api.OK},
	} {
		if got, e := Find(x.s, x.row, "a"); e != x.want || e != api.OK && got != (api.Range{}) {
			t.Errorf("Find by %s = %v, %d, want %d", x.name, got, int(e), int(x.want))
		}
	}
}

// What is handed in is not changed, its spare room neither.
func TestListsAreNotChanged(t *testing.T) {
	for _, s := range []string{"", "a", "banana", strings.Repeat("ab", 500)} {
		for _, row := range append(notOf(s), wantArray(s), counted(len(s)+1)) {
			room := append(slices.Clone(row), 7, 0, 9)
			before := slices.Clone(room)
			Ranks(room[:len(row)])
			Common(s, room[:len(row)])
			Find(s, room[:len(row)], "a")
			Sort(room[:len(row)], 1000000)
			if !slices.Equal(room, before) {
				t.Errorf("%v was changed to %v", short(before), short(room))
			}
		}
	}
}

// What is handed out is new, and nothing is kept.
func TestCallsAreApart(t *testing.T) {
	want := []int{6, 5, 3, 1, 0, 4, 2}
	row, _ := Array("banana")
	given := slices.Clone(row)
	ranks, _ := Ranks(given)
	common, _ := Common("banana", given)
	places, _ := Sort(given, 6)
	clear(row)
	if !slices.Equal(given, want) {
		t.Errorf("the row that was handed in is %v", given)
	}
	clear(given)
	if !slices.Equal(ranks, []int{4, 3, 6, 2, 5, 1, 0}) || !slices.Equal(common, []int{0, 0, 1, 3, 0, 0, 2}) || !slices.Equal(places, []int{4, 3, 6, 2, 5, 1, 0}) {
		t.Errorf("what was handed out is %v, %v, %v", ranks, common, places)
	}
	if again, e := Array("banana"); !slices.Equal(again, want) || e != api.OK {
		t.Errorf("a second Array = %v, %d", again, int(e))
	}
}

// The chapter's example.
func TestExample(t *testing.T) {
	row, e := Array("banana")
	if !slices.Equal(row, []int{6, 5, 3, 1, 0, 4, 2}) || e != api.OK {
		t.Errorf("Array = %v, %d", row, int(e))
	}
	if got, e := Find("banana", row, "an"); got != (api.Range{Lo: 2, Hi: 3}) || e != api.OK {
		t.Errorf("Find = %v, %d", got, int(e))
	}
}
