package bwt

import (
	"math"
	"slices"
	"strconv"
	"strings"
	"testing"

	"varve/api"
)

// The tests hold bwt against the chapter's words: ends are cut from the text and ordered as Go orders strings, last bytes are counted one by one for each step, and what Inverse takes is looked for among the transforms of all texts.

// transform is last bytes, and a primary.
type transform struct {
	last    string
	primary int
}

// textsOf tells all texts of up to so many bytes out of some.
func textsOf(some string, most int) []string {
	all := []string{""}
	for from := 0; len(all[from]) < most; from++ {
		for i := range len(some) {
			all = append(all, all[from]+some[i:i+1])
		}
	}
	return all
}

// mixed tells n numbers from 0 to most without a rule, the same ones each time.
func mixed(n, most int) []int {
	seed := uint32(n + most)
	l := make([]int, n)
	for i := range l {
		seed = seed*1664525 + 1013904223
		l[i] = int(uint64(seed) * uint64(most+1) >> 32)
	}
	return l
}

// mixedText tells a text of n bytes out of some, without a rule, the same one each time.
func mixedText(n int, some string) string {
	var s []byte
	for _, i := range mixed(n, len(some)-1) {
		s = append(s, some[i])
	}
	return string(s)
}

// growing tells a text that is made of the two ahead of it again and again, cut to n bytes.
func growing(n int) string {
	a, b := "a", "ab"
	for len(b) < n {
		a, b = b, b+a
	}
	return b[:n]
}

// eachByte tells all bytes, rising.
func eachByte() string {
	var s []byte
	for n := range 256 {
		s = append(s, byte(n))
	}
	return string(s)
}

// backward tells a text from its end on.
func backward(s string) string {
	l := []byte(s)
	slices.Reverse(l)
	return string(l)
}

// shortTexts tells all short texts of a few bytes, the least and the greatest one among them.
func shortTexts() []string {
	return slices.Concat(textsOf("ab", 10), textsOf("\x00\x7f\x80\xff", 5), textsOf("abc", 6))
}

// longTexts tells texts of many kinds, up to as long as they may be.
func longTexts() []string {
	each := eachByte()
	all := []string{each, strings.Repeat(each, 2), backward(each), "abracadabra", "\u00e4\u00f6\u00fc\u4e16\u754c", "\xff\xfe\xff\xff\xfe"}
	for _, n := range []int{15, 16, 17, 255, 256, 257, 1000, 4096} {
		all = append(all, strings.Repeat("a", n), strings.Repeat("\x00", n), strings.Repeat("ab", n), strings.Repeat("a", n)+"b", "b"+strings.Repeat("a", n), growing(n))
		for _, some := range []string{"ab", "\x00\xff", "abcdefgh", each} {
			s := mixedText(n, some)
			all = append(all, s, s+s)
		}
	}
	for _, n := range []int{19999, 20000} {
		all = append(all, strings.Repeat("\xff", n), strings.Repeat("abc", n)[:n], growing(n), mixedText(n, "ab"), mixedText(n, each), strings.Repeat(mixedText(997, "abcd"), 21)[:n])
	}
	return all
}

// texts tells all of them.
func texts() []string { return slices.Concat(shortTexts(), longTexts()) }

// shortText tells the beginning of a text, for a message.
func shortText(s string) string { return strconv.Quote(s[:min(len(s), 20)]) }

// short tells the beginning of a list, for a message.
func short(l []int) []int { return l[:min(len(l), 20)] }

// wantForward tells a text's transform by the chapter's words.
func wantForward(s string) transform {
	ends := make([]string, 0, len(s)+1)
	for place := range len(s) + 1 {
		ends = append(ends, s[place:])
	}
	slices.Sort(ends)
	var last []byte
	primary := 0
	for row, end := range ends {
		if len(end) == len(s) {
			primary = row
		} else {
			last = append(last, s[len(s)-len(end)-1])
		}
	}
	return transform{string(last), primary}
}

// rowsOf tells the last byte of each row, -1 of the primary.
func rowsOf(x transform) []int {
	var rows []int
	for i := range len(x.last) {
		rows = append(rows, int(x.last[i]))
	}
	return slices.Insert(rows, x.primary, -1)
}

// wantSteps tells the steps of rows by the chapter's words.
func wantSteps(x transform) []int {
	rows := rowsOf(x)
	steps := make([]int, len(rows))
	for row, b := range rows {
		if row == x.primary {
			continue
		}
		for other, c := range rows {
			if other != x.primary && (c < b || c == b && other < row) {
				steps[row]++
			}
		}
		steps[row]++
	}
	return steps
}

// forwardOf tells the transform of a text that has one.
func forwardOf(t *testing.T, s string) transform {
	t.Helper()
	last, primary, e := Forward(s)
	if e != api.OK {
		t.Fatal(shortText(s), len(s), int(e))
	}
	return transform{last, primary}
}

// P13.1
func TestForward(t *testing.T) {
	for _, s := range texts() {
		if got, want := forwardOf(t, s), wantForward(s); got != want {
			t.Fatal(shortText(s), len(s), shortText(got.last), got.primary, shortText(want.last), want.primary)
		}
	}
}

// P13.1
func TestSomeTransforms(t *testing.T) {
	for s, want := range map[string]transform{
		"":            {"", 0},
		"a":           {"a", 1},
		"\x00":        {"\x00", 1},
		"\xff":        {"\xff", 1},
		"aa":          {"aa", 2},
		"ab":          {"ba", 1},
		"ba":          {"ab", 2},
		"abc":         {"cab", 1},
		"\x00\x00":    {"\x00\x00", 2},
		"\xff\x00":    {"\x00\xff", 2},
		"banana":      {"annbaa", 4},
		"nabana":      {"annbaa", 6},
		"mississippi": {"ipssmpissii", 5},
		"\u00e4":      {"\xa4\xc3", 2},
	} {
		if got := forwardOf(t, s); got != want {
			t.Error(shortText(s), got, want)
		}
	}
}

// P13.1
func TestTextsThatAreTooLong(t *testing.T) {
	for _, n := range []int{20001, 20002, 40000, 65536, 100000, 1 << 20} {
		for _, s := range []string{strings.Repeat("a", n), strings.Repeat("\x00", n), strings.Repeat("ab", n)[:n], mixedText(n, eachByte())} {
			if last, primary, e := Forward(s); last != "" || primary != 0 || e != api.ErrBig {
				t.Error(shortText(s), n, shortText(last), primary, int(e))
			}
		}
	}
}

// P13.2: of last bytes with each primary that there may be, also of those that are no text's transform.
func TestSteps(t *testing.T) {
	for _, last := range shortTexts() {
		for primary := min(1, len(last)); primary <= len(last); primary++ {
			got, e := Steps(last, primary)
			if want := wantSteps(transform{last, primary}); e != api.OK || !slices.Equal(got, want) {
				t.Fatal(shortText(last), primary, got, want, int(e))
			}
		}
	}
}

// P13.2
func TestStepsOfLongTexts(t *testing.T) {
	for _, last := range longTexts() {
		if len(last) > 1000 {
			continue
		}
		for _, primary := range []int{1, 2, len(last) / 2, len(last) - 1, len(last)} {
			got, e := Steps(last, primary)
			if want := wantSteps(transform{last, primary}); e != api.OK || !slices.Equal(got, want) {
				t.Fatal(shortText(last), len(last), primary, short(got), short(want), int(e))
			}
		}
	}
}

// P13.2: as long as they may be, of one byte, and of two that take turns: what stands where is told by a rule.
func TestStepsAtTheLimit(t *testing.T) {
	const n = 20000
	for _, primary := range []int{1, 2, 9999, 10000, 10001, 19999, 20000} {
		one, e := Steps(strings.Repeat("\xff", n), primary)
		two, f := Steps(strings.Repeat("ba", n/2), primary)
		if e != api.OK || f != api.OK || len(one) != n+1 || len(two) != n+1 {
			t.Fatal(primary, int(e), int(f), len(one), len(two))
		}
		for row := range n + 1 {
			wantOne, wantTwo, at := 0, 0, row
			if row > primary {
				at--
			}
			if row != primary {
				wantOne = at + 1
				wantTwo = at/2 + 1
				if at%2 == 0 {
					wantTwo += n / 2
				}
			}
			if one[row] != wantOne || two[row] != wantTwo {
				t.Fatal(primary, row, one[row], wantOne, two[row], wantTwo)
			}
		}
	}
}

// P13.2
func TestSomeSteps(t *testing.T) {
	for _, x := range []struct {
		transform
		want []int
	}{
		{transform{"", 0}, []int{0}},
		{transform{"a", 1}, []int{1, 0}},
		{transform{"\xff", 1}, []int{1, 0}},
		{transform{"ab", 1}, []int{1, 0, 2}},
		{transform{"ab", 2}, []int{1, 2, 0}},
		{transform{"ba", 1}, []int{2, 0, 1}},
		{transform{"ba", 2}, []int{2, 1, 0}},
		{transform{"aa", 1}, []int{1, 0, 2}},
		{transform{"\xff\x00\x80\x00", 3}, []int{4, 1, 3, 0, 2}},
		{transform{"annbaa", 4}, []int{1, 5, 6, 4, 0, 2, 3}},
		{transform{"annbaa", 6}, []int{1, 5, 6, 4, 2, 3, 0}},
	} {
		if got, e := Steps(x.last, x.primary); e != api.OK || !slices.Equal(got, x.want) {
			t.Error(x.transform, got, x.want, int(e))
		}
	}
}

// wrongPrimaries tells primaries that last bytes may not have, at int's ends too.
func wrongPrimaries(last string) []int {
	wrong := []int{math.MinInt, math.MinInt + 1, -256, -2, -1, len(last) + 1, len(last) + 2, len(last) + 256, math.MaxInt - 1, math.MaxInt}
	if last != "" {
		wrong = append(wrong, 0)
	}
	return wrong
}

// P13.2, P13.3
func TestPrimariesThatMayNotBe(t *testing.T) {
	for _, last := range slices.Concat(textsOf("ab", 4), []string{eachByte(), "annbaa", strings.Repeat("a", 19999), strings.Repeat("a", 20000), mixedText(20000, "ab")}) {
		for _, primary := range wrongPrimaries(last) {
			if steps, e := Steps(last, primary); steps != nil || e != api.ErrCycle {
				t.Error(shortText(last), primary, short(steps), int(e))
			}
			if s, e := Inverse(last, primary); s != "" || e != api.ErrCycle {
				t.Error(shortText(last), primary, shortText(s), int(e))
			}
		}
	}
}

// P13.2, P13.3: too many last bytes are told ahead of a primary that may not be.
func TestLastBytesThatAreTooMany(t *testing.T) {
	for _, n := range []int{20001, 20002, 40000, 65536, 1 << 20} {
		for _, last := range []string{strings.Repeat("a", n), strings.Repeat("\x00", n), mixedText(n, eachByte())} {
			for _, primary := range append(wrongPrimaries(last), 1, 2, 20000, 20001, n-1, n) {
				if steps, e := Steps(last, primary); steps != nil || e != api.ErrBig {
					t.Error(shortText(last), n, primary, short(steps), int(e))
				}
				if s, e := Inverse(last, primary); s != "" || e != api.ErrBig {
					t.Error(shortText(last), n, primary, shortText(s), int(e))
				}
			}
		}
	}
}

// bytesOf tells a text's bytes in their order.
func bytesOf(s string) string {
	l := []byte(s)
	slices.Sort(l)
	return string(l)
}

// P13.3, P13.4
func TestBack(t *testing.T) {
	for _, s := range texts() {
		x := forwardOf(t, s)
		if back, e := Inverse(x.last, x.primary); back != s || e != api.OK {
			t.Fatal(shortText(s), len(s), shortText(back), len(back), int(e))
		}
		if bytesOf(x.last) != bytesOf(s) {
			t.Fatal(shortText(s), len(s), shortText(x.last))
		}
	}
}

// P13.3, P13.4: the transform need not be Forward's.
func TestBackByWords(t *testing.T) {
	for _, s := range texts() {
		x := wantForward(s)
		if back, e := Inverse(x.last, x.primary); back != s || e != api.OK {
			t.Fatal(shortText(s), len(s), shortText(back), len(back), int(e))
		}
	}
}

// transformsOf tells of each transform of some texts which text has it.
func transformsOf(t *testing.T, some []string) map[transform]string {
	t.Helper()
	all := map[transform]string{}
	for _, s := range some {
		x := wantForward(s)
		if other, ok := all[x]; ok {
			t.Fatal("one transform of two", s, other)
		}
		all[x] = s
	}
	return all
}

// P13.3, P13.5: of all last bytes with all primaries just those are taken that a text has, and told is that text.
func TestOnlyTransforms(t *testing.T) {
	for _, some := range [][]string{textsOf("ab", 10), textsOf("abc", 7), textsOf("\x00\x7f\x80\xff", 5)} {
		all := transformsOf(t, some)
		taken := 0
		for _, last := range some {
			for primary := -1; primary <= len(last)+1; primary++ {
				s, e := Inverse(last, primary)
				want, ok := all[transform{last, primary}]
				switch {
				case ok && (s != want || e != api.OK):
					t.Fatal(shortText(last), primary, shortText(s), want, int(e))
				case !ok && (s != "" || e != api.ErrCycle):
					t.Fatal(shortText(last), primary, shortText(s), int(e))
				case ok:
					taken++
				}
			}
		}
		if taken != len(all) {
			t.Fatal(taken, len(all))
		}
	}
}

// P13.3
func TestTextsThatAreNoTransforms(t *testing.T) {
	for _, x := range []transform{
		{"ab", 1}, {"aa", 1}, {"ba", 2}, {"\x00\x00", 1}, {"annbaa", 1}, {"annbaa", 2}, {"annbaa", 3}, {"annbaa", 5},
		{eachByte(), 1}, {eachByte(), 255},
		// Of one byte alone the primary is the last row.
		{strings.Repeat("a", 20000), 19999}, {strings.Repeat("a", 20000), 1}, {strings.Repeat("\xff", 19999), 19998},
	} {
		if _, e := Steps(x.last, x.primary); e != api.OK {
			t.Error(shortText(x.last), x.primary, int(e))
		}
		if s, e := Inverse(x.last, x.primary); s != "" || e != api.ErrCycle {
			t.Error(shortText(x.last), x.primary, shortText(s), int(e))
		}
	}
}

// P13.3, P13.5: of a long transform that is changed in one byte, or has another primary, either the text is another one, whose transform it is, or none.
func TestChangedTransforms(t *testing.T) {
	for _, s := range []string{mixedText(1000, "ab"), mixedText(1000, eachByte()), growing(1000), strings.Repeat("abc", 300), strings.Repeat("a", 500) + "b"} {
		x := forwardOf(t, s)
		changed := []transform{}
		for _, primary := range []int{1, 2, x.primary - 1, x.primary + 1, len(s) - 1, len(s)} {
			changed = append(changed, transform{x.last, primary})
		}
		for at := 0; at < len(s); at += 7 {
			l := []byte(x.last)
			l[at] ^= 3
			changed = append(changed, transform{string(l), x.primary})
		}
		for _, y := range changed {
			got, e := Inverse(y.last, y.primary)
			switch {
			case e == api.OK && wantForward(got) != y:
				t.Fatal(shortText(s), y.primary, shortText(got))
			case e != api.OK && (got != "" || e != api.ErrCycle):
				t.Fatal(shortText(s), y.primary, shortText(got), int(e))
			case y != x && got == s:
				t.Fatal(shortText(s), y.primary)
			}
		}
	}
}

// P13.3: the steps tell the same text as Inverse, and each row but the first is stepped to by one.
func TestStepsTellTheText(t *testing.T) {
	for _, s := range texts() {
		x := forwardOf(t, s)
		steps, e := Steps(x.last, x.primary)
		if e != api.OK || len(steps) != len(s)+1 || steps[x.primary] != 0 {
			t.Fatal(shortText(s), len(s), short(steps), int(e))
		}
		rows, row := rowsOf(x), 0
		var told []byte
		for row != x.primary && len(told) <= len(s) {
			told = append(told, byte(rows[row]))
			row = steps[row]
		}
		if backward(string(told)) != s {
			t.Fatal(shortText(s), len(s), shortText(string(told)))
		}
		slices.Sort(steps)
		for i, row := range steps {
			if row != i {
				t.Fatal(shortText(s), len(s), i, row)
			}
		}
	}
}

// P13.1 to P13.3: what is handed out is new, and nothing is kept.
func TestCallsAreApart(t *testing.T) {
	x := forwardOf(t, "banana")
	first, _ := Steps(x.last, x.primary)
	want := slices.Clone(first)
	second, _ := Steps(x.last, x.primary)
	for i := range first {
		first[i] = -9
	}
	first = append(first, 7)
	third, e := Steps(x.last, x.primary)
	if e != api.OK || !slices.Equal(second, want) || !slices.Equal(third, want) {
		t.Error(second, third, int(e))
	}
	Steps("aaaa", 9)
	Inverse("aaaa", 1)
	Forward(strings.Repeat("a", 20001))
	if again := forwardOf(t, "banana"); again != x {
		t.Error(again)
	}
	if s, e := Inverse(x.last, x.primary); s != "banana" || e != api.OK {
		t.Error(s, int(e))
	}
}

// P13.1, P13.3: the chapter's example.
func TestExample(t *testing.T) {
	if x := forwardOf(t, "banana"); x != (transform{"annbaa", 4}) {
		t.Error(x)
	}
	if s, e := Inverse("annbaa", 4); s != "banana" || e != api.OK {
		t.Error(s, int(e))
	}
	if s, e := Inverse("ab", 1); s != "" || e != api.ErrCycle {
		t.Error(s, int(e))
	}
}
