package name

import (
	"fmt"
	"math"
	"math/rand"
	"regexp"
	"slices"
	"strconv"
	"strings"
	"testing"

	"varve/api"
)

// The tests hold name against the chapter's words, told here once more by the library's own patterns and by printing.

// may is how a name may be, byte by byte.
const may = "abcdefghijklmnopqrstuvwxyz0123456789.-"

// pattern is how a segment's name looks. Its noughts alone are no number: wantParse sees to that.
var pattern = regexp.MustCompile(`\Aseg-([0-9]{6})-([0-9]{6})\.log\z`)

// whose is what Parse answers.
type whose struct {
	id, gen int
	ok      bool
}

func parsed(s string) whose {
	id, gen, ok := Parse(s)
	return whose{id, gen, ok}
}

// wantCheck is P18.1 of Check, byte by byte.
func wantCheck(s string) api.Errno {
	for i := 0; i < len(s); i++ {
		if strings.IndexByte(may, s[i]) < 0 {
			return api.ErrName
		}
	}
	if len(s) == 0 || len(s) >= 65 {
		return api.ErrName
	}
	return api.OK
}

// wantSegment is P18.2 of Segment.
func wantSegment(id, gen int) (string, api.Errno) {
	if id < 1 || gen < 1 || id > 999999 || gen > 999999 {
		return "", api.ErrArg
	}
	return fmt.Sprintf("seg-%06d-%06d.log", id, gen), api.OK
}

// wantParse is P18.2 of Parse.
func wantParse(s string) whose {
	parts := pattern.FindStringSubmatch(s)
	if parts == nil {
		return whose{}
	}
	id, _ := strconv.Atoi(parts[1])
	gen, _ := strconv.Atoi(parts[2])
	if id == 0 || gen == 0 {
		return whose{}
	}
	return whose{id, gen, true}
}

// wantKind is P18.1 of Kind.
func wantKind(s string) int {
	switch {
	case s == "manifest":
		return 2
	case s == "manifest.new":
		return 3
	case wantParse(s).ok:
		return 1
	}
	return 0
}

// holds asks all that is told of a name, and holds it against the chapter's words.
func holds(t *testing.T, s string) {
	t.Helper()
	if got, want := Check(s), wantCheck(s); got != want {
		t.Errorf("Check(%q) = %d, want %d", s, int(got), int(want))
	}
	if got, want := parsed(s), wantParse(s); got != want {
		t.Errorf("Parse(%q) = %v, want %v", s, got, want)
	}
	if got, want := Kind(s), wantKind(s); got != want {
		t.Errorf("Kind(%q) = %d, want %d", s, got, want)
	}
}

// segment makes the name of a segment that may be.
func segment(t *testing.T, id, gen int) string {
	t.Helper()
	s, e := Segment(id, gen)
	if e != api.OK {
		t.Fatal(id, gen, int(e))
	}
	return s
}

// numbers tells numbers that segments have, rising, with those at which a digit more is needed.
func numbers() []int {
	return []int{1, 2, 3, 9, 10, 11, 12, 99, 100, 101, 999, 1000, 1001, 9999, 10000, 10001, 99999, 100000, 100001, 123456, 654321, 999998, 999999}
}

// none tells numbers that no segment has.
func none() []int {
	return []int{math.MinInt, math.MinInt + 1, -1 << 32, -1000000, -999999, -100000, -12, -1, 0, 1000000, 1000001, 9999999, 10000000, 1<<32 + 1, 1 << 62, math.MaxInt - 1, math.MaxInt}
}

// named tells names of all kinds.
func named(t *testing.T) []string {
	l := []string{Manifest(), Temp()}
	for _, n := range []int{1, 12, 405060, 999999} {
		l = append(l, segment(t, n, 1), segment(t, 3, n), segment(t, n, n))
	}
	return l
}

// strange tells runes of more than one byte, and what is no rune: some would be letters, digits, full stops or strokes if they were cut to a byte.
func strange() []string {
	l := []string{"\u0130", "\u0131", "\u0139", "\u0161", "\u017a", "\u022e", "\u022d", "\u3030", "\u2e2d", "\U00010030", "\U00010061", "\u0661", "\uff11", "\uff41", "\u00e9", "\u00b2", "\u2013", "\u2010", "\u3002", "\ufeff", "\ufffd", "\U0010ffff"}
	return append(l, "\xff", "\xc3", "\x80", "\xed\xa0\x80", "\xc0\xae", "\xc0\xb1", "\xe0\x80\xb1", "\xf4\x90\x80\x80", "\xc4")
}

// P18.1
func TestCheckOfShortNames(t *testing.T) {
	holds(t, "")
	for a := 0; a < 256; a++ {
		holds(t, string([]byte{byte(a)}))
		for b := 0; b < 256; b++ {
			holds(t, string([]byte{byte(a), byte(b)}))
		}
	}
}

// P18.1
func TestCheckOfEachLength(t *testing.T) {
	for n := 0; n <= 300; n++ {
		for _, b := range []string{"a", "z", "0", "9", ".", "-", "A", "_", " "} {
			holds(t, strings.Repeat(b, n))
		}
		want := api.OK
		if n < 1 || n > 64 {
			want = api.ErrName
		}
		if got := Check(strings.Repeat("k", n)); got != want {
			t.Errorf("Check of %d bytes = %d, want %d", n, int(got), int(want))
		}
	}
	for _, n := range []int{1 << 16, 1<<16 + 1, 1<<16 + 64, 1 << 20} {
		if got := Check(strings.Repeat("k", n)); got != api.ErrName {
			t.Errorf("Check of %d bytes = %d", n, int(got))
		}
	}
}

// P18.1
func TestCheckOfOneByteThatMayNotBe(t *testing.T) {
	for _, n := range []int{1, 2, 3, 63, 64} {
		for at := 0; at < n; at++ {
			for b := 0; b < 256; b++ {
				s := []byte(strings.Repeat("x", n))
				s[at] = byte(b)
				holds(t, string(s))
			}
		}
	}
}

// P18.1
func TestCheckOfRunesOfMoreBytes(t *testing.T) {
	for _, r := range strange() {
		for _, s := range []string{r, "a" + r, r + "a", "seg" + r + "log", strings.Repeat(r, 3), strings.Repeat(r, 40), strings.Repeat("a", 64-len(r)) + r, strings.Repeat("a", 63) + r} {
			holds(t, s)
			if Check(s) != api.ErrName {
				t.Errorf("Check(%q) is OK", s)
			}
		}
	}
	for r := rune(128); r <= 0x10ffff; r++ {
		if Check(string(r)) != api.ErrName {
			t.Fatalf("Check(%q) is OK", string(r))
		}
	}
}

// P18.1
func TestKind(t *testing.T) {
	rows := map[string]int{
		"manifest": 2, "manifest.new": 3, "seg-000001-000001.log": 1, "seg-000012-000003.log": 1, "seg-999999-999999.log": 1,
		"": 0, "x": 0, "manifes": 0, "manifesta": 0, "Manifest": 0, "MANIFEST": 0, "manifest.": 0, "manifest.ne": 0, "manifest.neww": 0, "manifest.New": 0, ".new": 0, "manifest-new": 0,
		"manifest ": 0, " manifest": 0, "manifest\x00": 0, "manifest\n": 0, "manifest.new\n": 0, "manifest/": 0, "manifestmanifest": 0, "new.manifest": 0, "follow": 0, "follow.new": 0,
		"seg-000000-000001.log": 0, "seg-000001-000000.log": 0, "seg-000000-000000.log": 0, "seg-000001-000001.log\n": 0, "seg-1-1.log": 0, "seg-000001-000001.log.new": 0, "seg-000001-000001": 0, "seg-1000000-00001.log": 0,
	}
	for s, want := range rows {
		if got := Kind(s); got != want {
			t.Errorf("Kind(%q) = %d, want %d", s, got, want)
		}
		holds(t, s)
	}
}

// P18.1, P18.2
func TestNamesThatAreNearlyOnes(t *testing.T) {
	for _, s := range named(t) {
		holds(t, s)
		for at := 0; at <= len(s); at++ {
			holds(t, s[:at])
			holds(t, s[at:])
			for b := 0; b < 256; b++ {
				c := string([]byte{byte(b)})
				holds(t, s[:at]+c+s[at:])
				if at < len(s) {
					holds(t, s[:at]+c+s[at+1:])
				}
			}
			if at < len(s) {
				holds(t, s[:at]+s[at+1:])
			}
			for _, r := range strange() {
				holds(t, s[:at]+r+s[at:])
				holds(t, s[:at]+r+s[min(at+len(r), len(s)):])
			}
		}
	}
}

// P18.2
func TestSegment(t *testing.T) {
	s, e := Segment(12, 3)
	if s != "seg-000012-000003.log" || e != api.OK {
		t.Errorf("Segment(12, 3) = %q, %d", s, int(e))
	}
	l := append(numbers(), none()...)
	for _, id := range l {
		for _, gen := range l {
			s, e := Segment(id, gen)
			if want, wantE := wantSegment(id, gen); s != want || e != wantE {
				t.Errorf("Segment(%d, %d) = %q, %d, want %q, %d", id, gen, s, int(e), want, int(wantE))
			}
		}
	}
}

// P18.2
func TestParse(t *testing.T) {
	rows := map[string]whose{
		"seg-000012-000003.log": {12, 3, true},
		"seg-000001-000001.log": {1, 1, true},
		"seg-999999-999999.log": {999999, 999999, true},
		"seg-100000-000010.log": {100000, 10, true},
		"seg-123456-654321.log": {123456, 654321, true},
	}
	for s, want := range rows {
		if got := parsed(s); got != want {
			t.Errorf("Parse(%q) = %v, want %v", s, got, want)
		}
	}
	others := []string{
		"", "manifest", "manifest.new", "seg-000000-000003.log", "seg-000012-000000.log", "seg-000000-000000.log",
		"seg-12-3.log", "seg-00012-000003.log", "seg-0000012-00003.log", "seg-00012-0000003.log", "seg-0000012-000003.log", "seg-1000000-000001.log", "seg-000001-1000000.log",
		"seg-+00012-000003.log", "seg-+00012-+00003.log", "seg--00012-000003.log", "seg-000012--00003.log", "seg- 00012-000003.log", "seg-00012 -000003.log", "seg-0_0012-000003.log", "seg-0x0012-000003.log", "seg-1e0001-000003.log", "seg-00001a-000003.log", "seg-000012-00000f.log",
		"SEG-000012-000003.LOG", "Seg-000012-000003.log", "seg_000012_000003.log", "seg-000012-000003,log", "seg-000012.000003.log", "seg-000012-000003-log", "seg.000012-000003.log", "log-000012-000003.seg", "seg-000012-000003.lag",
		"seg-000012-000003", "seg-000012-000003.", "seg-000012-000003.lo", "seg-000012-000003.logs", "xseg-000012-000003.log", "eg-000012-000003.log", "seg-000012-000003.log\n", "\nseg-000012-000003.log", " seg-000012-000003.log", "/seg-000012-000003.log", "seg-000012-000003.log\x00",
		"seg-00001\u0131-00003.log", "seg-00\u0130012-0003.log", "seg-0000\u0661\u0662-03.log", "seg-00001\xff-000003.log", "seg-000012-0000\u0663.log", "seg-000012-000003.l\u016f", "seg-000012-00000\u00b3.lo",
	}
	for _, s := range others {
		if got := parsed(s); got != (whose{}) {
			t.Errorf("Parse(%q) = %v", s, got)
		}
		holds(t, s)
	}
}

// P18.2
func TestManifestAndTemp(t *testing.T) {
	if Manifest() != "manifest" || Temp() != "manifest.new" {
		t.Errorf("%q, %q", Manifest(), Temp())
	}
}

// P18.3
func TestParseOfSegmentTellsBoth(t *testing.T) {
	for n := 1; n <= 999999; n++ {
		other := n*7919%999999 + 1
		if got := parsed(segment(t, n, other)); got != (whose{n, other, true}) {
			t.Fatalf("of %d and %d: %v", n, other, got)
		}
	}
	for _, id := range numbers() {
		for _, gen := range numbers() {
			if got := parsed(segment(t, id, gen)); got != (whose{id, gen, true}) {
				t.Errorf("of %d and %d: %v", id, gen, got)
			}
		}
	}
}

// P18.3
func TestSegmentMakesWhatParseTakes(t *testing.T) {
	chance := rand.New(rand.NewSource(18))
	taken := 0
	for range 300000 {
		s := []byte(fmt.Sprintf("seg-%06d-%06d.log", chance.Intn(1000000), chance.Intn(1000000)))
		for range chance.Intn(3) {
			s[chance.Intn(len(s))] = "0123456789-+.gels x\xc4\xb1"[chance.Intn(21)]
		}
		got := parsed(string(s))
		if got != wantParse(string(s)) {
			t.Fatalf("Parse(%q) = %v", s, got)
		}
		if !got.ok {
			continue
		}
		taken++
		if made, e := Segment(got.id, got.gen); made != string(s) || e != api.OK {
			t.Fatalf("of %q: %q, %d", s, made, int(e))
		}
	}
	if taken < 100000 || taken > 299000 {
		t.Errorf("%d were taken", taken)
	}
}

// P18.4
func TestSegmentsNamesMayBe(t *testing.T) {
	for _, id := range numbers() {
		for _, gen := range numbers() {
			s := segment(t, id, gen)
			if Check(s) != api.OK || Kind(s) != 1 || s == Manifest() || s == Temp() {
				t.Errorf("%q: %d, kind %d", s, int(Check(s)), Kind(s))
			}
		}
	}
	for _, s := range []string{Manifest(), Temp()} {
		if Check(s) != api.OK || parsed(s) != (whose{}) {
			t.Errorf("%q: %d, %v", s, int(Check(s)), parsed(s))
		}
	}
}

// P18.4
func TestSegmentsNamesAreInOrder(t *testing.T) {
	var rising []string
	for _, id := range numbers() {
		for _, gen := range numbers() {
			rising = append(rising, segment(t, id, gen))
		}
	}
	if !slices.IsSorted(rising) || len(slices.Compact(slices.Clone(rising))) != len(rising) {
		t.Error("the names are in another order than the numbers")
	}
	last := ""
	for n := 1; n <= 999999; n++ {
		s := segment(t, n, 1000000-n)
		if s <= last {
			t.Fatalf("%q does not stand behind %q", s, last)
		}
		last = s
	}
	last = ""
	for n := 1; n <= 999999; n++ {
		s := segment(t, 777, n)
		if s <= last {
			t.Fatalf("%q does not stand behind %q", s, last)
		}
		last = s
	}
}
