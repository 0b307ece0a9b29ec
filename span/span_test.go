package span

import (
	"math"
	"math/big"
	"slices"
	"testing"

	"varve/api"
)

var empty = api.Range{Lo: 1, Hi: 0}

func rng(lo, hi int) api.Range { return api.Range{Lo: lo, Hi: hi} }

// small is every range, empty ones too, whose ends lie close to 0: few enough to hold each against each.
func small() []api.Range {
	var l []api.Range
	for lo := -4; lo <= 4; lo++ {
		for hi := -4; hi <= 4; hi++ {
			l = append(l, rng(lo, hi))
		}
	}
	return l
}

// wide is every range whose ends are of those at which ints could run over.
func wide() []api.Range {
	ends := []int{math.MinInt, math.MinInt + 1, math.MinInt + 2, math.MinInt / 2, -3, -2, -1, 0, 1, 2, 3, math.MaxInt / 2, math.MaxInt - 2, math.MaxInt - 1, math.MaxInt}
	var l []api.Range
	for _, lo := range ends {
		for _, hi := range ends {
			l = append(l, rng(lo, hi))
		}
	}
	return l
}

// numbers tells all numbers that a small range has, by going through it.
func numbers(r api.Range) []int {
	var l []int
	for n := r.Lo; n <= r.Hi; n++ {
		l = append(l, n)
	}
	return l
}

// ends makes the range of the first and the last one of rising numbers.
func ends(l []int) api.Range {
	if len(l) == 0 {
		return empty
	}
	return rng(l[0], l[len(l)-1])
}

// P1.1
func TestHasEmptySize(t *testing.T) {
	for _, r := range small() {
		l := numbers(r)
		for n := -6; n <= 6; n++ {
			if got := Has(r, n); got != slices.Contains(l, n) {
				t.Errorf("Has(%v, %d) = %v", r, n, got)
			}
		}
		if got := Empty(r); got != (len(l) == 0) {
			t.Errorf("Empty(%v) = %v", r, got)
		}
		if got := Size(r); got != len(l) {
			t.Errorf("Size(%v) = %d, want %d", r, got, len(l))
		}
	}
}

// P1.1
func TestHasEmptySizeAtTheEndsOfInt(t *testing.T) {
	for _, r := range wide() {
		if got := Empty(r); got != (r.Hi < r.Lo) {
			t.Errorf("Empty(%v) = %v", r, got)
		}
		want := new(big.Int).Sub(big.NewInt(int64(r.Hi)), big.NewInt(int64(r.Lo)))
		want.Add(want, big.NewInt(1))
		switch most := big.NewInt(math.MaxInt); {
		case want.Sign() < 0:
			want.SetInt64(0)
		case want.Cmp(most) > 0:
			want = most
		}
		if got := Size(r); big.NewInt(int64(got)).Cmp(want) != 0 {
			t.Errorf("Size(%v) = %d, want %v", r, got, want)
		}
	}
	all := rng(math.MinInt, math.MaxInt)
	for _, n := range []int{math.MinInt, -1, 0, 1, math.MaxInt} {
		if !Has(all, n) || Has(rng(math.MaxInt, math.MinInt), n) {
			t.Errorf("Has at %d", n)
		}
	}
	if Has(rng(math.MinInt, math.MaxInt-1), math.MaxInt) || Has(rng(math.MinInt+1, math.MaxInt), math.MinInt) {
		t.Error("Has tells a number beside the range")
	}
	if Size(rng(0, math.MaxInt)) != math.MaxInt || Size(rng(1, math.MaxInt)) != math.MaxInt || Size(rng(2, math.MaxInt)) != math.MaxInt-1 {
		t.Error("Size up to the greatest int")
	}
}

// row is a list of ranges, and what a call is to answer of it.
type row struct {
	l    []api.Range
	want api.Range
}

func holds(t *testing.T, name string, call func(l ...api.Range) api.Range, rows ...row) {
	t.Helper()
	for _, x := range rows {
		if got := call(x.l...); got != x.want {
			t.Errorf("%s(%v) = %v, want %v", name, x.l, got, x.want)
		}
	}
}

// holdsOfNumbers asks a call of many three ranges, and holds it against the numbers, unsorted, that such an answer must have.
func holdsOfNumbers(t *testing.T, name string, call func(l ...api.Range) api.Range, want func(a, b, c []int) []int) {
	t.Helper()
	for _, a := range small() {
		for _, b := range small() {
			for _, c := range []api.Range{rng(-4, 4), rng(-1, 2), rng(0, 0), rng(3, 2)} {
				l := want(numbers(a), numbers(b), numbers(c))
				slices.Sort(l)
				holds(t, name, call, row{[]api.Range{a, b, c}, ends(l)})
			}
		}
	}
}

// P1.2
func TestBoth(t *testing.T) {
	rows := []row{
		{nil, empty},
		{[]api.Range{}, empty},
		{[]api.Range{rng(2, 3)}, rng(2, 3)},
		{[]api.Range{rng(9, 3)}, empty},
		{[]api.Range{rng(0, -1)}, empty},
		{[]api.Range{{}}, rng(0, 0)},
		{[]api.Range{rng(1, 5), rng(4, 9)}, rng(4, 5)},
		{[]api.Range{rng(1, 5), rng(5, 9)}, rng(5, 5)},
		{[]api.Range{rng(1, 4), rng(5, 9)}, empty},
		{[]api.Range{rng(1, 5), rng(4, 9), rng(7, 8)}, empty},
		{[]api.Range{rng(1, 9), rng(5, 3), rng(1, 9)}, empty},
		{[]api.Range{rng(1, 9), rng(2, 8), rng(3, 20), rng(-5, 7)}, rng(3, 7)},
		{[]api.Range{rng(math.MinInt, math.MaxInt), rng(math.MaxInt, math.MaxInt)}, rng(math.MaxInt, math.MaxInt)},
		{[]api.Range{rng(math.MinInt, math.MinInt), rng(math.MaxInt, math.MaxInt)}, empty},
		{[]api.Range{rng(math.MaxInt, math.MinInt), rng(math.MinInt, math.MaxInt)}, empty},
	}
	holds(t, "Both", Both, rows...)
}

// P1.2
func TestBothOfManyIsWhatAllHave(t *testing.T) {
	holdsOfNumbers(t, "Both", Both, func(a, b, c []int) []int {
		return slices.DeleteFunc(a, func(n int) bool { return !slices.Contains(b, n) || !slices.Contains(c, n) })
	})
}

// P1.3
func TestCover(t *testing.T) {
	rows := []row{
		{nil, empty},
		{[]api.Range{}, empty},
		{[]api.Range{rng(2, 3)}, rng(2, 3)},
		{[]api.Range{rng(9, 3)}, empty},
		{[]api.Range{rng(9, 3), rng(0, -1), rng(math.MaxInt, math.MinInt)}, empty},
		{[]api.Range{rng(1, 5), rng(4, 9)}, rng(1, 9)},
		{[]api.Range{rng(7, 8), rng(1, 5)}, rng(1, 8)},
		{[]api.Range{rng(20, 30), rng(9, 3)}, rng(20, 30)},
		{[]api.Range{rng(9, 3), rng(20, 30), rng(40, -40)}, rng(20, 30)},
		{[]api.Range{rng(-30, -20), empty, rng(-9, -8)}, rng(-30, -8)},
		{[]api.Range{empty, rng(-30, -20)}, rng(-30, -20)},
		{[]api.Range{rng(1, 9), rng(3, 4)}, rng(1, 9)},
		{[]api.Range{rng(math.MinInt, math.MinInt), rng(math.MaxInt, math.MaxInt)}, rng(math.MinInt, math.MaxInt)},
	}
	holds(t, "Cover", Cover, rows...)
}

// P1.3
func TestCoverOfManyIsTheLeast(t *testing.T) {
	holdsOfNumbers(t, "Cover", Cover, func(a, b, c []int) []int { return slices.Concat(a, b, c) })
}

// P1.4
func TestMeetsWithin(t *testing.T) {
	for _, a := range small() {
		for _, b := range small() {
			meets, within := false, true
			for _, n := range numbers(a) {
				in := slices.Contains(numbers(b), n)
				meets, within = meets || in, within && in
			}
			if got := Meets(a, b); got != meets {
				t.Errorf("Meets(%v, %v) = %v", a, b, got)
			}
			if got := Within(a, b); got != within {
				t.Errorf("Within(%v, %v) = %v", a, b, got)
			}
		}
	}
	all, low, high := rng(math.MinInt, math.MaxInt), rng(math.MinInt, -1), rng(0, math.MaxInt)
	if Meets(low, high) || !Meets(low, all) || !Meets(all, high) {
		t.Error("Meets at the ends of int")
	}
	if !Within(low, all) || Within(all, low) || !Within(all, all) || !Within(rng(math.MaxInt, math.MinInt), empty) || Within(all, rng(math.MaxInt, math.MinInt)) {
		t.Error("Within at the ends of int")
	}
}

// P1.4
func TestTrim(t *testing.T) {
	for _, r := range small() {
		for floor := -6; floor <= 6; floor++ {
			var want []int
			for _, n := range numbers(r) {
				if n >= floor {
					want = append(want, n)
				}
			}
			if got := Trim(r, floor); got != ends(want) {
				t.Errorf("Trim(%v, %d) = %v, want %v", r, floor, got, ends(want))
			}
		}
	}
	all := rng(math.MinInt, math.MaxInt)
	if Trim(all, math.MinInt) != all || Trim(all, math.MaxInt) != rng(math.MaxInt, math.MaxInt) || Trim(rng(0, math.MaxInt-1), math.MaxInt) != empty {
		t.Error("Trim at the ends of int")
	}
	if Trim(rng(9, 3), math.MinInt) != empty || Trim(rng(9, 3), 5) != empty {
		t.Error("Trim of an empty range is not the empty one")
	}
}

// probes tells numbers at which ranges of these ends could go wrong.
func probes(l ...api.Range) []int {
	var out []int
	for _, r := range l {
		for _, n := range []int{r.Lo, r.Hi} {
			out = append(out, n)
			if n > math.MinInt {
				out = append(out, n-1)
			}
			if n < math.MaxInt {
				out = append(out, n+1)
			}
		}
	}
	return out
}

// P1.5
func TestWhatTwoHaveInCommon(t *testing.T) {
	l := append(wide(), small()...)
	for _, a := range l {
		for _, b := range l {
			both := Both(a, b)
			for _, n := range probes(a, b) {
				if Has(both, n) != (Has(a, n) && Has(b, n)) {
					t.Fatalf("Both(%v, %v) = %v at %d", a, b, both, n)
				}
			}
			if Within(a, b) && Size(a) > Size(b) {
				t.Fatalf("%v is within %v, and has more", a, b)
			}
			if !Within(both, a) || !Within(both, b) || Size(both) > Size(a) || Size(both) > Size(b) {
				t.Fatalf("Both(%v, %v) = %v is no part of them", a, b, both)
			}
		}
	}
}

// P1.6
func TestWhatCoversTwo(t *testing.T) {
	l := append(wide(), small()...)
	for _, a := range l {
		for _, b := range l {
			cover := Cover(a, b)
			if !Within(a, cover) || !Within(b, cover) {
				t.Fatalf("Cover(%v, %v) = %v does not cover", a, b, cover)
			}
			if Empty(a) && Empty(b) {
				if cover != empty {
					t.Fatalf("Cover(%v, %v) = %v, want the empty one", a, b, cover)
				}
				continue
			}
			lo := !Empty(a) && cover.Lo == a.Lo || !Empty(b) && cover.Lo == b.Lo
			hi := !Empty(a) && cover.Hi == a.Hi || !Empty(b) && cover.Hi == b.Hi
			if !lo || !hi {
				t.Fatalf("Cover(%v, %v) = %v has ends of its own", a, b, cover)
			}
		}
	}
}

// What is handed in is not changed, its spare room neither.
func TestListsStayAsTheyAre(t *testing.T) {
	room := []api.Range{rng(5, 9), rng(4, 6), rng(3, 2), rng(7, 7)}
	was := slices.Clone(room)
	Both(room[:3]...)
	Cover(room[:3]...)
	if !slices.Equal(room, was) {
		t.Errorf("the list became %v", room)
	}
}

func TestExample(t *testing.T) {
	a, b := rng(1, 5), rng(4, 9)
	if Both(a, b) != rng(4, 5) || Cover(a, b) != rng(1, 9) || Size(Both(a, b)) != 2 {
		t.Error("example 1 of the chapter")
	}
}
