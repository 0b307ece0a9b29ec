package file

import (
	"math"
	"math/rand"
	"strings"
	"testing"

	"varve/api"
)

// The tests hold file against the chapter's words, told here once more byte by byte.

// most is how many bytes a file has at most.
const most = 1000000

// begins tells whether s begins with ahead.
func begins(s, ahead string) bool {
	return len(s) >= len(ahead) && s[:len(ahead)] == ahead
}

// wantLeft is what is left of a file: each byte behind Safe is laid alone, that of Now or that of mark.
func wantLeft(f File, cut int, mark string) string {
	if !begins(f.Now, f.Safe) {
		if cut > 0 {
			return f.Now
		}
		return f.Safe
	}
	var l []byte
	for i := 0; i < len(f.Now); i++ {
		if i < len(f.Safe) || i-len(f.Safe) < cut {
			l = append(l, f.Now[i])
		}
	}
	for back := 1; back <= len(mark) && back <= 64 && len(l)-back >= len(f.Safe); back++ {
		l[len(l)-back] = mark[len(mark)-back]
	}
	return string(l)
}

// same fails unless Fall leaves what the words say, as a file that is not loose.
func same(t *testing.T, f File, cut int, mark string) {
	t.Helper()
	want := wantLeft(f, cut, mark)
	got := Fall(f, cut, mark)
	if got.Safe != want || got.Now != want {
		t.Errorf("Fall(%q, %d, %q): %q, want %q", f, cut, mark, got, want)
	}
	if Loose(got) {
		t.Errorf("Fall(%q, %d, %q) is loose", f, cut, mark)
	}
}

// texts is all texts of up to n of two bytes.
func texts(n int) []string {
	l := []string{""}
	for i := 0; i < len(l); i++ {
		if len(l[i]) < n {
			l = append(l, l[i]+"a", l[i]+"b")
		}
	}
	return l
}

// P19.1
func TestAppend(t *testing.T) {
	for _, x := range []struct{ f, want File }{
		{File{"", ""}, File{"", "xy"}},
		{File{"ab", "ab"}, File{"ab", "abxy"}},
		{File{"ab", "abcd"}, File{"ab", "abcdxy"}},
		{File{"abcd", "ab"}, File{"abcd", "abxy"}},
		{File{"q", ""}, File{"q", "xy"}},
		{File{"\x00\xff", "\xff\x00\n"}, File{"\x00\xff", "\xff\x00\nxy"}},
	} {
		if got, e := Append(x.f, "xy"); got != x.want || e != api.OK {
			t.Errorf("Append(%q): %q, %d", x.f, got, int(e))
		}
		if got, e := Append(x.f, ""); got != x.f || e != api.OK {
			t.Errorf("Append(%q) of nothing: %q, %d", x.f, got, int(e))
		}
	}
	if got, e := Append(File{}, "\x00\xff\xc3("); got != (File{"", "\x00\xff\xc3("}) || e != api.OK {
		t.Errorf("bytes of any kind: %q, %d", got, int(e))
	}
}

// P19.1: the limit is of Now and of what comes, not of Safe.
func TestAppendLimit(t *testing.T) {
	long := strings.Repeat("z", 3*most)
	for _, x := range []struct {
		now, more int
		want      api.Errno
	}{
		{0, most, api.OK}, {0, most + 1, api.ErrBig},
		{most, 0, api.OK}, {most, 1, api.ErrBig},
		{most - 1, 1, api.OK}, {most - 1, 2, api.ErrBig},
		{most / 2, most / 2, api.OK}, {most / 2, most/2 + 1, api.ErrBig},
		{1, most - 1, api.OK}, {1, most, api.ErrBig},
		{most + 1, 0, api.ErrBig}, {2 * most, 0, api.ErrBig},
		{0, 2 * most, api.ErrBig}, {3 * most, 3 * most, api.ErrBig},
	} {
		for _, safe := range []string{"", "y", long} {
			f := File{safe, long[:x.now]}
			got, e := Append(f, long[:x.more])
			if e != x.want {
				t.Errorf("%d and %d bytes behind %d: %d, want %d", x.now, x.more, len(safe), int(e), int(x.want))
			}
			if e != api.OK && got != (File{}) {
				t.Errorf("%d and %d bytes: a file of %d bytes beside an error", x.now, x.more, len(got.Now))
			}
			if e == api.OK && (got.Safe != safe || got.Now != long[:x.now+x.more]) {
				t.Errorf("%d and %d bytes: %d and %d", x.now, x.more, len(got.Safe), len(got.Now))
			}
		}
	}
}

// P19.1
func TestSync(t *testing.T) {
	for _, safe := range texts(3) {
		for _, now := range texts(3) {
			if got := Sync(File{safe, now}); got.Safe != now || got.Now != now {
				t.Errorf("Sync of %q and %q: %q", safe, now, got)
			}
		}
	}
	long := strings.Repeat("z", most+1)
	if got := Sync(File{"", long}); got != (File{long, long}) {
		t.Error("a long one:", len(got.Safe), len(got.Now))
	}
}

// P19.1
func TestCut(t *testing.T) {
	for _, safe := range texts(3) {
		for _, now := range texts(4) {
			for n := -2; n <= 7; n++ {
				want, err := File{}, api.ErrArg
				if n >= 0 && n <= len(now) {
					want, err = File{safe, now[:n]}, api.OK
				}
				if got, e := Cut(File{safe, now}, n); got != want || e != err {
					t.Errorf("Cut(%q, %q, %d): %q, %d, want %q, %d", safe, now, n, got, int(e), want, int(err))
				}
			}
		}
	}
	for _, n := range []int{math.MinInt, math.MinInt + 1, math.MaxInt - 1, math.MaxInt, 1 << 32, -1 << 32} {
		if got, e := Cut(File{"abcd", "ab"}, n); got != (File{}) || e != api.ErrArg {
			t.Errorf("Cut to %d: %q, %d", n, got, int(e))
		}
	}
}

// P19.1: the length is that of Now, whatever was synced.
func TestCutLength(t *testing.T) {
	long := strings.Repeat("z", 2*most)
	if got, e := Cut(File{"", long}, most+7); got.Now != long[:most+7] || e != api.OK {
		t.Error("of a file that is too long:", len(got.Now), int(e))
	}
	if got, e := Cut(File{long, "ab"}, 3); got != (File{}) || e != api.ErrArg {
		t.Error("behind Now, within Safe:", got, int(e))
	}
}

// P19.2: the chapter's example, and what it does not show.
func TestFallExamples(t *testing.T) {
	grown, other := File{"ab", "abcdef"}, File{"ab", "axy"}
	for _, x := range []struct {
		f    File
		cut  int
		mark string
		want string
	}{
		{grown, 3, "x", "abcdx"},
		{grown, 3, "", "abcde"},
		{grown, 0, "x", "ab"},
		{grown, -1, "x", "ab"},
		{grown, 1, "x", "abx"},
		{grown, 1, "xyz", "abz"},
		{grown, 4, "xyz", "abcxyz"},
		{grown, 4, "vwxyz", "abwxyz"},
		{grown, 5, "z", "abcdez"},
		{grown, math.MaxInt, "z", "abcdez"},
		{grown, math.MinInt, "z", "ab"},
		{other, 0, "z", "ab"},
		{other, -7, "z", "ab"},
		{other, math.MinInt, "", "ab"},
		{other, 1, "z", "axy"},
		{other, 1, "", "axy"},
		{other, math.MaxInt, "zzzz", "axy"},
		{File{"ab", "a"}, 1, "z", "a"},
		{File{"ab", "a"}, 0, "z", "ab"},
		{File{"ab", ""}, 1, "z", ""},
		{File{"ab", ""}, 0, "z", "ab"},
		{File{"", "ab"}, 1, "z", "z"},
		{File{"", ""}, 9, "z", ""},
		{File{}, 0, "", ""},
	} {
		if got := Fall(x.f, x.cut, x.mark); got != (File{x.want, x.want}) {
			t.Errorf("Fall(%q, %d, %q): %q, want %q", x.f, x.cut, x.mark, got, x.want)
		}
	}
}

// P19.2
func TestFall(t *testing.T) {
	for _, safe := range texts(3) {
		for _, now := range texts(5) {
			for cut := -2; cut <= 7; cut++ {
				for _, mark := range []string{"", "x", "xy", "vwxyz", "stuvwxyz"} {
					same(t, File{safe, now}, cut, mark)
				}
			}
		}
	}
}

// P19.2: a mark has at most a sector's bytes, the last ones.
func TestFallSector(t *testing.T) {
	var row strings.Builder
	for i := 0; i < 300; i++ {
		row.WriteByte(byte(i * 7))
	}
	now := strings.Repeat("n", 200)
	for _, safe := range []int{0, 1, 63, 64, 65, 100, 136, 137, 199, 200} {
		for cut := 0; cut <= 202; cut++ {
			for _, mark := range []int{0, 1, 2, 63, 64, 65, 66, 128, 199, 200, 201, 300} {
				same(t, File{now[:safe], now}, cut, row.String()[:mark])
			}
		}
	}
	got := Fall(File{"", now}, 150, row.String())
	if got.Now != now[:86]+row.String()[236:] {
		t.Errorf("150 bytes, of which 64 are garbled: %q", got.Now)
	}
}

// P19.2
func TestFallChance(t *testing.T) {
	r := rand.New(rand.NewSource(19))
	some := func(n int) string {
		l := make([]byte, r.Intn(n+1))
		for i := range l {
			l[i] = byte(r.Intn(256))
		}
		return string(l)
	}
	for i := 0; i < 4000; i++ {
		safe := some(80)
		f := File{safe, safe + some(160)}
		if i%4 == 0 {
			f.Now = some(160)
		}
		if i%4 == 1 {
			f.Now = safe[:r.Intn(len(safe)+1)]
		}
		same(t, f, r.Intn(260)-50, some(140))
	}
}

// P19.2
func TestLoose(t *testing.T) {
	for _, safe := range texts(4) {
		for _, now := range texts(4) {
			if got := Loose(File{safe, now}); got != (strings.Compare(safe, now) != 0) {
				t.Errorf("Loose of %q and %q: %v", safe, now, got)
			}
		}
	}
	long := strings.Repeat("z", most)
	for _, other := range []string{long + "z", long[1:], long[1:] + "y", "y" + long[1:]} {
		if !Loose(File{long, other}) || !Loose(File{other, long}) {
			t.Error("one byte is another one: not loose")
		}
	}
	if Loose(File{long, strings.Repeat("z", most)}) {
		t.Error("the same bytes: loose")
	}
}

// P19.2: a plain file has nothing.
func TestPlain(t *testing.T) {
	if f := (File{}); f.Safe != "" || f.Now != "" || Loose(f) || Sync(f) != f || Fall(f, 5, "xy") != f {
		t.Error("a plain file is not empty")
	}
}

// P19.3
func TestFalls(t *testing.T) {
	for _, safe := range texts(3) {
		f := Sync(File{"other", safe})
		for _, more := range []string{"", "c", "cd", strings.Repeat("e", 70), "f"} {
			f, _ = Append(f, more)
			for cut := -1; cut <= len(f.Now)+1; cut++ {
				plain := Fall(f, cut, "").Now
				if !begins(plain, safe) || !begins(f.Now, plain) {
					t.Errorf("of %q, by %d: %q", f, cut, plain)
				}
				marked := Fall(f, cut, strings.Repeat("x", 3+len(more))).Now
				if !begins(marked, safe) || len(marked) > len(f.Now) || len(marked) != len(plain) {
					t.Errorf("of %q, by %d and a mark: %q", f, cut, marked)
				}
			}
		}
	}
}

// P19.4
func TestSafe(t *testing.T) {
	for _, s := range append(texts(4), strings.Repeat("s", 200), strings.Repeat("s", most)) {
		f := File{s, s}
		for _, cut := range []int{math.MinInt, -1, 0, 1, 3, 64, len(s), math.MaxInt} {
			for _, mark := range []string{"", "x", "xyz", strings.Repeat("x", 100)} {
				if Fall(f, cut, mark) != f {
					t.Errorf("of %d bytes, by %d and a mark of %d, not all is left", len(s), cut, len(mark))
				}
			}
		}
	}
}
