package disk

import (
	"math"
	"math/rand"
	"slices"
	"strconv"
	"strings"
	"testing"

	"varve/api"
)

// made is a disk that does all of l without an error.
func made(t *testing.T, capacity int, l ...step) *Disk {
	t.Helper()
	d, e := New(capacity)
	if e != api.OK {
		t.Fatal("New:", int(e))
	}
	for _, x := range l {
		if e := x.on(d); e != api.OK {
			t.Fatal(x, int(e))
		}
	}
	return d
}

// tells fails unless a step tells an errno, and, where that is an error, changes nothing.
func tells(t *testing.T, d *Disk, x step, want api.Errno) {
	t.Helper()
	ahead := seen(d)
	if e := x.on(d); e != want {
		t.Errorf("%v tells %d, want %d", x, int(e), int(want))
	}
	if want != api.OK && seen(d) != ahead {
		t.Errorf("%v tells an error, and does something: %q, then %q", x, ahead, seen(d))
	}
}

// seen is all that can be asked of a disk.
func seen(d *Disk) string {
	s := strconv.FormatBool(d.On())
	for _, n := range []int{d.Ops(), d.Used(), d.Pending(), d.Capacity()} {
		s += " " + strconv.Itoa(n)
	}
	for _, x := range d.List() {
		text, e := d.Read(x)
		s += " " + x + "=" + text + " " + e.Error()
	}
	return s
}

// has fails unless the disk has just these names, each with its bytes.
func has(t *testing.T, d *Disk, pairs ...string) {
	t.Helper()
	var names []string
	for i := 0; i < len(pairs); i += 2 {
		names = append(names, pairs[i])
		if got, e := d.Read(pairs[i]); got != pairs[i+1] || e != api.OK {
			t.Errorf("Read of %q: %q, %d, want %q", pairs[i], got, int(e), pairs[i+1])
		}
	}
	if !slices.Equal(d.List(), names) {
		t.Errorf("List: %q, want %q", d.List(), names)
	}
}

// numbers is small numbers, and those at the ends of their types.
var numbers = []int{math.MinInt, math.MinInt + 1, math.MinInt32, -2, -1, 0, 1, 2, math.MaxInt32, math.MaxInt - 1, math.MaxInt}

// P20.1
func TestNew(t *testing.T) {
	for _, n := range []int{0, 1, 2, 20, 9999999, 10000000} {
		d, e := New(n)
		if e != api.OK || d == nil {
			t.Fatal(n, int(e))
		}
		if s := seen(d); s != "true 0 0 0 "+strconv.Itoa(n) {
			t.Errorf("New(%d): %s", n, s)
		}
	}
	for _, n := range []int{-1, -2, 10000001, 10000002, math.MinInt, math.MaxInt, 1 << 32, -1 << 32} {
		if d, e := New(n); d != nil || e != api.ErrArg {
			t.Error(n, d, int(e))
		}
	}
}

// P20.1: nothing is armed, nothing is shared by two disks.
func TestNewAlone(t *testing.T) {
	d, o := made(t, 100), made(t, 50)
	for i := range 30 {
		tells(t, d, step{call: "dirsync"}, api.OK)
		if d.Ops() != i+1 {
			t.Fatal(i, d.Ops())
		}
	}
	made(t, 10, step{call: "create", s: "a"}, step{call: "off"})
	if s := seen(o); s != "true 0 0 0 50" {
		t.Error(s)
	}
}

// every is a step of each call that tells an errno.
var every = []step{
	{call: "create", s: "a"}, {call: "create", s: "A"}, {call: "append", s: "a", text: "x"}, {call: "sync", s: "a"}, {call: "cut", s: "a"},
	{call: "cut", s: "a", n: -1}, {call: "rename", s: "a", text: "b"}, {call: "rename", s: "a", text: "a"}, {call: "remove", s: "a"}, {call: "dirsync"},
	{call: "arm", n: 1}, {call: "arm"},
}

// P20.1 to P20.5: what is no disk.
func TestNone(t *testing.T) {
	for _, d := range []*Disk{nil, {}, new(Disk)} {
		for _, x := range append([]step{{call: "off"}, {call: "boot"}, {call: "boot", c: api.Choice{Dir: 3, Cuts: []int{1}, Marks: []string{"x"}}}}, every...) {
			if e := x.on(d); e != api.ErrNil {
				t.Error(x, int(e))
			}
			if d.On() || d.Ops() != 0 || d.Used() != 0 || d.Pending() != 0 || d.Capacity() != 0 || len(d.List()) != 0 {
				t.Error(x, "does something")
			}
			if s, e := d.Read("a"); s != "" || e != api.ErrNil {
				t.Errorf("%q %d", s, int(e))
			}
		}
	}
}

// P20.2, P20.3, P20.4: a disk whose power is off.
func TestOff(t *testing.T) {
	d := made(t, 30, step{call: "create", s: "a"}, step{call: "append", s: "a", text: "hello"}, step{call: "off"})
	for _, x := range append([]step{{call: "off"}}, every...) {
		want := api.ErrDead
		if x.call == "off" {
			want = api.OK
		}
		tells(t, d, x, want)
		if s := seen(d); s != "false 2 0 0 30" {
			t.Error(x, s)
		}
		for _, name := range []string{"a", "b", "A", ""} {
			if s, e := d.Read(name); s != "" || e != api.ErrDead {
				t.Errorf("%q: %q %d", name, s, int(e))
			}
		}
	}
	tells(t, d, step{call: "boot", c: api.Choice{Dir: 1, Cuts: []int{4}}}, api.OK)
	if s := seen(d); s != "true 2 4 0 30 a=hell error 0" {
		t.Error(s)
	}
}

// P20.2: Create
func TestCreate(t *testing.T) {
	d := made(t, 10)
	for _, s := range []string{"", "A", "a b", "a/b", "é", "\xff", "a\x00", "_", strings.Repeat("a", 65)} {
		tells(t, d, step{call: "create", s: s}, api.ErrName)
	}
	for i, s := range []string{"b", "a", "-", ".", "0", strings.Repeat("a", 64), "manifest"} {
		tells(t, d, step{call: "create", s: s}, api.OK)
		if d.Ops() != i+1 || d.Pending() != i+1 || d.Used() != 0 {
			t.Error(s, seen(d))
		}
		tells(t, d, step{call: "create", s: s}, api.ErrExist)
	}
	has(t, d, "-", "", ".", "", "0", "", "a", "", strings.Repeat("a", 64), "", "b", "", "manifest", "")
	tells(t, d, step{call: "append", s: "a", text: "xyz"}, api.OK)
	tells(t, d, step{call: "create", s: "a"}, api.ErrExist)
	tells(t, d, step{call: "remove", s: "a"}, api.OK)
	tells(t, d, step{call: "create", s: "a"}, api.OK)
	if s, e := d.Read("a"); s != "" || e != api.OK {
		t.Errorf("a new file has %q", s)
	}
}

// P20.2: Create, at the limit of names
func TestCreateFull(t *testing.T) {
	d := made(t, 0)
	for i := range 200 {
		tells(t, d, step{call: "create", s: "f" + strconv.Itoa(i)}, api.OK)
	}
	tells(t, d, step{call: "create", s: "x"}, api.ErrFull)
	tells(t, d, step{call: "create", s: "f7"}, api.ErrExist)
	tells(t, d, step{call: "create", s: "X"}, api.ErrName)
	tells(t, d, step{call: "rename", s: "f7", text: "x"}, api.OK)
	tells(t, d, step{call: "create", s: "f7"}, api.ErrFull)
	tells(t, d, step{call: "rename", s: "f8", text: "f9"}, api.OK)
	tells(t, d, step{call: "create", s: "f8"}, api.OK)
	tells(t, d, step{call: "create", s: "f7"}, api.ErrFull)
	tells(t, d, step{call: "remove", s: "f0"}, api.OK)
	tells(t, d, step{call: "create", s: "f7"}, api.OK)
	tells(t, d, step{call: "create", s: "f0"}, api.ErrFull)
	if len(d.List()) != 200 || d.Pending() != 205 || d.Ops() != 205 {
		t.Error(len(d.List()), d.Pending(), d.Ops())
	}
	tells(t, d, step{call: "boot", c: api.Choice{Dir: 199}}, api.OK)
	tells(t, d, step{call: "create", s: "y"}, api.OK)
	tells(t, d, step{call: "create", s: "z"}, api.ErrFull)
}

// P20.2: Append
func TestAppend(t *testing.T) {
	d := made(t, 10, step{call: "create", s: "a"}, step{call: "create", s: "b"})
	for _, x := range []struct {
		s, text string
		want    api.Errno
	}{
		{"c", "x", api.ErrNone}, {"", "", api.ErrNone}, {"A", "", api.ErrNone},
		{"a", "0123456789x", api.ErrFull}, {"a", "", api.OK}, {"a", "\x00\xff", api.OK}, {"b", "345", api.OK},
		{"a", "678901", api.ErrFull}, {"b", "678901", api.ErrFull}, {"a", "67890", api.OK},
		{"a", "", api.OK}, {"b", "", api.OK}, {"a", "x", api.ErrFull}, {"b", "x", api.ErrFull}, {"c", "x", api.ErrNone},
	} {
		tells(t, d, step{call: "append", s: x.s, text: x.text}, x.want)
	}
	has(t, d, "a", "\x00\xff67890", "b", "345")
	if d.Used() != 10 || d.Ops() != 8 || d.Pending() != 2 {
		t.Error(seen(d))
	}
	tells(t, d, step{call: "cut", s: "b", n: 1}, api.OK)
	tells(t, d, step{call: "append", s: "a", text: "xyz"}, api.ErrFull)
	tells(t, d, step{call: "append", s: "a", text: "xy"}, api.OK)
	tells(t, d, step{call: "remove", s: "b"}, api.OK)
	tells(t, d, step{call: "append", s: "a", text: "z"}, api.OK)
	tells(t, d, step{call: "append", s: "a", text: "z"}, api.ErrFull)
}

// P20.2: Append, a file's limit, ahead of the disk's
func TestAppendBig(t *testing.T) {
	long := strings.Repeat("z", 1000001)
	tiny := made(t, 3, step{call: "create", s: "a"})
	tells(t, tiny, step{call: "append", s: "b", text: long}, api.ErrNone)
	tells(t, tiny, step{call: "append", s: "a", text: long}, api.ErrBig)
	tells(t, tiny, step{call: "append", s: "a", text: long[1:]}, api.ErrFull)
	d := made(t, 10000000)
	for i := range 10 {
		s := "f" + strconv.Itoa(i)
		tells(t, d, step{call: "create", s: s}, api.OK)
		tells(t, d, step{call: "append", s: s, text: long}, api.ErrBig)
		tells(t, d, step{call: "append", s: s, text: long[2:]}, api.OK)
		tells(t, d, step{call: "append", s: s, text: "xy"}, api.ErrBig)
		tells(t, d, step{call: "append", s: s, text: "x"}, api.OK)
		tells(t, d, step{call: "append", s: s, text: "x"}, api.ErrBig)
	}
	tells(t, d, step{call: "create", s: "g"}, api.OK)
	tells(t, d, step{call: "append", s: "g", text: "x"}, api.ErrFull)
	if d.Used() != 10000000 {
		t.Error(d.Used())
	}
}

// P20.2: Sync, which is of one file, and no change
func TestSync(t *testing.T) {
	d := made(t, 99, step{call: "create", s: "a"}, step{call: "create", s: "b"}, step{call: "dirsync"}, step{call: "append", s: "a", text: "aa"}, step{call: "append", s: "b", text: "bb"})
	for _, s := range []string{"c", "", "A"} {
		tells(t, d, step{call: "sync", s: s}, api.ErrNone)
	}
	tells(t, d, step{call: "sync", s: "a"}, api.OK)
	if s := seen(d); s != "true 6 4 0 99 a=aa error 0 b=bb error 0" {
		t.Error(s)
	}
	tells(t, d, step{call: "boot"}, api.OK)
	has(t, d, "a", "aa", "b", "")
}

// P20.2: Cut
func TestCut(t *testing.T) {
	d := made(t, 9, step{call: "create", s: "a"}, step{call: "append", s: "a", text: "abcdef"})
	for _, n := range []int{math.MinInt, -1, 7, math.MaxInt} {
		tells(t, d, step{call: "cut", s: "b", n: n}, api.ErrNone)
		tells(t, d, step{call: "cut", s: "a", n: n}, api.ErrArg)
	}
	for i, n := range []int{6, 5, 5, 2, 0, 0} {
		tells(t, d, step{call: "cut", s: "a", n: n}, api.OK)
		has(t, d, "a", "abcdef"[:n])
		if d.Ops() != i+3 || d.Used() != n || d.Pending() != 1 {
			t.Error(n, seen(d))
		}
		tells(t, d, step{call: "cut", s: "a", n: n + 1}, api.ErrArg)
	}
}

// P20.2: Rename
func TestRename(t *testing.T) {
	d := made(t, 99, step{call: "create", s: "a"}, step{call: "create", s: "b"}, step{call: "append", s: "a", text: "aaa"}, step{call: "append", s: "b", text: "b"})
	for _, x := range []struct {
		from, to string
		want     api.Errno
	}{
		{"x", "y", api.ErrNone}, {"x", "x", api.ErrNone}, {"x", "Y", api.ErrNone}, {"X", "X", api.ErrNone}, {"", "", api.ErrNone},
		{"a", "A", api.ErrName}, {"a", "", api.ErrName}, {"a", strings.Repeat("a", 65), api.ErrName}, {"a", "a", api.ErrArg}, {"b", "b", api.ErrArg},
	} {
		tells(t, d, step{call: "rename", s: x.from, text: x.to}, x.want)
	}
	tells(t, d, step{call: "rename", s: "a", text: "c"}, api.OK)
	has(t, d, "b", "b", "c", "aaa")
	tells(t, d, step{call: "rename", s: "b", text: "c"}, api.OK)
	has(t, d, "c", "b")
	if d.Used() != 1 || d.Pending() != 4 || d.Ops() != 6 {
		t.Error(seen(d))
	}
	tells(t, d, step{call: "rename", s: "b", text: "a"}, api.ErrNone)
	tells(t, d, step{call: "rename", s: "c", text: strings.Repeat("a", 64)}, api.OK)
	has(t, d, strings.Repeat("a", 64), "b")
}

// P20.2: Remove
func TestRemove(t *testing.T) {
	d := made(t, 99, step{call: "create", s: "a"}, step{call: "create", s: "b"}, step{call: "append", s: "a", text: "aaa"}, step{call: "append", s: "b", text: "b"})
	for _, s := range []string{"c", "", "A"} {
		tells(t, d, step{call: "remove", s: s}, api.ErrNone)
	}
	tells(t, d, step{call: "remove", s: "a"}, api.OK)
	has(t, d, "b", "b")
	if d.Used() != 1 || d.Pending() != 3 || d.Ops() != 5 {
		t.Error(seen(d))
	}
	for _, x := range every {
		if x.s == "a" && x.call != "create" {
			tells(t, d, x, api.ErrNone)
		}
	}
	if s, e := d.Read("a"); s != "" || e != api.ErrNone {
		t.Errorf("%q %d", s, int(e))
	}
}

// P20.2: DirSync, which is of no file's bytes
func TestDirSync(t *testing.T) {
	d := made(t, 99)
	tells(t, d, step{call: "dirsync"}, api.OK)
	for _, x := range []step{{call: "create", s: "a"}, {call: "create", s: "b"}, {call: "rename", s: "a", text: "c"}, {call: "append", s: "c", text: "cc"}} {
		tells(t, d, x, api.OK)
	}
	if d.Pending() != 3 {
		t.Error(d.Pending())
	}
	tells(t, d, step{call: "dirsync"}, api.OK)
	if d.Pending() != 0 || d.Ops() != 6 {
		t.Error(seen(d))
	}
	tells(t, d, step{call: "remove", s: "b"}, api.OK)
	if d.Pending() != 1 {
		t.Error(d.Pending())
	}
	tells(t, d, step{call: "boot"}, api.OK)
	has(t, d, "b", "", "c", "")
}

// P20.3: what is handed out is new memory, in order.
func TestList(t *testing.T) {
	d := made(t, 9)
	for _, s := range []string{"m", "z", "a", "-", "aa", "a.b", "0"} {
		tells(t, d, step{call: "create", s: s}, api.OK)
	}
	l := d.List()
	if !slices.Equal(l, []string{"-", "0", "a", "a.b", "aa", "m", "z"}) {
		t.Error(l)
	}
	for i := range l {
		l[i] = "x"
	}
	if l := d.List(); !slices.Equal(l, []string{"-", "0", "a", "a.b", "aa", "m", "z"}) {
		t.Error(l)
	}
}

// P20.4: the armed op is done, but a Sync or a DirSync is not.
func TestArm(t *testing.T) {
	start := []step{
		{call: "create", s: "a"}, {call: "append", s: "a", text: "old"}, {call: "sync", s: "a"}, {call: "create", s: "b"}, {call: "dirsync"},
		{call: "append", s: "a", text: "new"}, {call: "create", s: "c"}, {call: "append", s: "c", text: "cc"},
	}
	for _, x := range []struct {
		s    step
		want string
	}{
		{step{call: "create", s: "d"}, "a=oldnew b= c=cc d="},
		{step{call: "append", s: "c", text: "x"}, "a=oldnew b= c=ccx"},
		{step{call: "sync", s: "c"}, "a=oldnew b= c=cc"},
		{step{call: "cut", s: "a", n: 1}, "a=o b= c=cc"},
		{step{call: "cut", s: "a", n: 4}, "a=oldn b= c=cc"},
		{step{call: "rename", s: "c", text: "a"}, "a=cc b="},
		{step{call: "remove", s: "a"}, "b= c=cc"},
		{step{call: "dirsync"}, "a=oldnew b= c=cc"},
	} {
		d := made(t, 99, start...)
		tells(t, d, step{call: "arm", n: 1}, api.OK)
		if e := x.s.on(d); e != api.ErrDead {
			t.Error(x.s, int(e))
		}
		if s := seen(d); s != "false 9 0 0 99" {
			t.Error(x.s, s)
		}
		tells(t, d, step{call: "boot", c: api.Choice{Dir: 9, Cuts: []int{99, 99, 99}}}, api.OK)
		if s := files(d); s != x.want {
			t.Errorf("%v: %s, want %s", x.s, s, x.want)
		}
	}
}

// files is the names, with their files' bytes.
func files(d *Disk) string {
	var l []string
	for _, s := range d.List() {
		text, _ := d.Read(s)
		l = append(l, s+"="+text)
	}
	return strings.Join(l, " ")
}

// P20.4: a Sync or a DirSync at which the power goes is not done.
func TestArmSync(t *testing.T) {
	start := []step{{call: "create", s: "a"}, {call: "dirsync"}, {call: "append", s: "a", text: "new"}, {call: "create", s: "b"}, {call: "arm", n: 1}}
	for _, x := range []step{{call: "sync", s: "a"}, {call: "dirsync"}} {
		d := made(t, 99, start...)
		if e := x.on(d); e != api.ErrDead || d.Ops() != 5 {
			t.Error(x, int(e), d.Ops())
		}
		tells(t, d, step{call: "boot"}, api.OK)
		has(t, d, "a", "")
	}
}

// P20.4: which op the armed one is.
func TestArmCount(t *testing.T) {
	for _, n := range numbers {
		d := made(t, 99)
		if n < 1 {
			tells(t, d, step{call: "arm", n: 3}, api.OK)
			tells(t, d, step{call: "arm", n: n}, api.ErrArg)
			n = 3
		} else {
			tells(t, d, step{call: "arm", n: n}, api.OK)
		}
		for i := 1; i <= min(n, 50); i++ {
			want := api.OK
			if i == n {
				want = api.ErrDead
			}
			// What is no op, and asking, bring the power's end no nearer.
			for _, x := range []step{{call: "create", s: "A"}, {call: "remove", s: "q"}, {call: "sync", s: "q"}, {call: "cut", s: "q"}, {call: "append", s: "q"}, {call: "rename", s: "q", text: "p"}} {
				if e := x.on(d); e == api.OK || e == api.ErrDead {
					t.Error(x, int(e))
				}
			}
			d.List()
			d.Read("q")
			if e := d.Create("f" + strconv.Itoa(i)); e != want || d.On() != (want == api.OK) || d.Ops() != i {
				t.Error("armed:", n, "op", i, "tells", int(e), d.On(), d.Ops())
			}
		}
	}
}

// P20.4: one op is armed; behind an Off and a Boot none is.
func TestArmAgain(t *testing.T) {
	for _, x := range []struct {
		l    []step
		want int
	}{
		{[]step{{call: "arm", n: 2}, {call: "arm", n: 5}}, 5},
		{[]step{{call: "arm", n: 5}, {call: "arm", n: 2}}, 2},
		{[]step{{call: "arm", n: 3}, {call: "dirsync"}, {call: "arm", n: 3}}, 4},
		{[]step{{call: "arm", n: 3}, {call: "dirsync"}, {call: "dirsync"}}, 3},
		{[]step{{call: "arm", n: 3}, {call: "boot"}}, 0},
		{[]step{{call: "arm", n: 1}, {call: "off"}, {call: "boot"}}, 0},
		{[]step{{call: "off"}, {call: "off"}, {call: "boot"}}, 0},
		{[]step{{call: "arm", n: 1}, {call: "off"}, {call: "boot"}, {call: "arm", n: 4}}, 4},
		{nil, 0},
	} {
		d := made(t, 9, x.l...)
		for d.On() && d.Ops() < 20 {
			d.DirSync()
		}
		if d.On() != (x.want == 0) || !d.On() && d.Ops() != x.want {
			t.Error(x.l, d.On(), d.Ops())
		}
	}
}

// P20.5: the chapter's example
func TestBootExample(t *testing.T) {
	start := []step{{call: "create", s: "a"}, {call: "append", s: "a", text: "ab"}, {call: "sync", s: "a"}, {call: "dirsync"}, {call: "append", s: "a", text: "cd"}}
	d := made(t, 99, start...)
	tells(t, d, step{call: "boot", c: api.Choice{Cuts: []int{1}}}, api.OK)
	if s := seen(d); s != "true 5 3 0 99 a=abc error 0" {
		t.Error(s)
	}
	for _, n := range numbers {
		d := made(t, 99, start...)
		tells(t, d, step{call: "boot", c: api.Choice{Dir: n, Cuts: []int{n}, Marks: []string{"xyz"}}}, api.OK)
		want := "ab"
		if n == 1 {
			want = "abz"
		} else if n > 1 {
			want = "abyz"
		}
		has(t, d, "a", want)
	}
}

// P20.5: the first changes, as many as Dir says.
func TestBootDir(t *testing.T) {
	start := []step{
		{call: "create", s: "a"}, {call: "append", s: "a", text: "A"}, {call: "sync", s: "a"}, {call: "create", s: "b"}, {call: "append", s: "b", text: "B"}, {call: "sync", s: "b"}, {call: "dirsync"},
		{call: "rename", s: "a", text: "c"}, {call: "remove", s: "b"}, {call: "create", s: "a"}, {call: "append", s: "a", text: "new"}, {call: "sync", s: "a"}, {call: "rename", s: "a", text: "c"}, {call: "create", s: "b"},
	}
	rows := []string{"a=A b=B", "b=B c=A", "c=A", "a=new c=A", "c=new", "b= c=new"}
	for _, off := range []bool{false, true} {
		for _, n := range append([]int{3, 4, 5, 6}, numbers...) {
			d := made(t, 99, start...)
			if off {
				tells(t, d, step{call: "off"}, api.OK)
			}
			tells(t, d, step{call: "boot", c: api.Choice{Dir: n}}, api.OK)
			want := rows[min(max(n, 0), 5)]
			if s := files(d); s != want || d.Pending() != 0 || !d.On() || d.Ops() != 14 {
				t.Errorf("Dir %d: %s, want %s", n, s, want)
			}
			// All is synced: another Boot has nothing to choose.
			tells(t, d, step{call: "boot", c: api.Choice{Dir: 5, Cuts: []int{9, 9}, Marks: []string{"?", "?"}}}, api.OK)
			if s := files(d); s != want {
				t.Errorf("Dir %d, and again: %s, want %s", n, s, want)
			}
		}
	}
}

// P20.5: cuts and marks are for the loose files that are left, in the order of their names.
func TestBootTurns(t *testing.T) {
	start := []step{
		{call: "create", s: "d"}, {call: "create", s: "c"}, {call: "create", s: "b"}, {call: "create", s: "a"}, {call: "dirsync"},
		{call: "append", s: "d", text: "dddd"}, {call: "append", s: "b", text: "bbbb"}, {call: "append", s: "a", text: "aaaa"}, {call: "append", s: "c", text: "cccc"},
		{call: "sync", s: "b"}, {call: "rename", s: "a", text: "e"},
	}
	for _, x := range []struct {
		c    api.Choice
		want string
	}{
		{api.Choice{}, "a= b=bbbb c= d="},
		{api.Choice{Cuts: []int{1, 2, 3}}, "a=a b=bbbb c=cc d=ddd"},
		{api.Choice{Dir: 1, Cuts: []int{1, 2, 3}}, "b=bbbb c=c d=dd e=aaa"},
		{api.Choice{Cuts: []int{1, 2, 3, 4, 5}, Marks: []string{"x"}}, "a=x b=bbbb c=cc d=ddd"},
		{api.Choice{Cuts: []int{4, 3}, Marks: []string{"", "xy", "z", "z", "z"}}, "a=aaaa b=bbbb c=cxy d="},
		{api.Choice{Marks: []string{"x", "y", "z"}}, "a= b=bbbb c= d="},
		{api.Choice{Cuts: []int{-1, math.MinInt, math.MaxInt}, Marks: []string{"x", "y", "z"}}, "a= b=bbbb c= d=dddz"},
		{api.Choice{Dir: 1, Cuts: []int{9, 0, 9}, Marks: []string{"x", "y", "zzzzz"}}, "b=bbbb c=cccx d= e=zzzz"},
	} {
		d := made(t, 99, start...)
		tells(t, d, step{call: "boot", c: x.c}, api.OK)
		if s := files(d); s != x.want {
			t.Errorf("%v: %s, want %s", x.c, s, x.want)
		}
	}
}

// P20.5: a file that was cut, or removed, has what it was synced with, or what it had.
func TestBootCut(t *testing.T) {
	start := []step{{call: "create", s: "a"}, {call: "append", s: "a", text: "abcd"}, {call: "sync", s: "a"}, {call: "dirsync"}, {call: "cut", s: "a", n: 1}, {call: "append", s: "a", text: "xy"}}
	for _, gone := range []bool{false, true} {
		for cut, want := range map[int]string{-1: "abcd", 0: "abcd", 1: "axy", 5: "axy"} {
			d := made(t, 99, start...)
			if gone {
				tells(t, d, step{call: "remove", s: "a"}, api.OK)
			}
			tells(t, d, step{call: "boot", c: api.Choice{Cuts: []int{cut}, Marks: []string{"zz"}}}, api.OK)
			has(t, d, "a", want)
		}
	}
}

// P20.5: a choice is not changed, its spare room neither, and not kept.
func TestBootChoice(t *testing.T) {
	cuts, marks := []int{1, 2, 7, 7}, []string{"x", "y", "q", "q"}
	d := made(t, 99, step{call: "create", s: "a"}, step{call: "append", s: "a", text: "aaa"}, step{call: "create", s: "b"}, step{call: "append", s: "b", text: "bbb"}, step{call: "create", s: "c"}, step{call: "append", s: "c", text: "ccc"})
	tells(t, d, step{call: "boot", c: api.Choice{Dir: 3, Cuts: cuts[:2], Marks: marks[:2]}}, api.OK)
	has(t, d, "a", "x", "b", "by", "c", "")
	if !slices.Equal(cuts, []int{1, 2, 7, 7}) || !slices.Equal(marks, []string{"x", "y", "q", "q"}) {
		t.Error(cuts, marks)
	}
}

// P20.2 to P20.5: a Boot may leave more than the disk's capacity; then not even nothing can be appended.
func TestBootAbove(t *testing.T) {
	d := made(t, 4, step{call: "create", s: "a"}, step{call: "append", s: "a", text: "aaaa"}, step{call: "sync", s: "a"}, step{call: "dirsync"},
		step{call: "create", s: "b"}, step{call: "remove", s: "a"}, step{call: "append", s: "b", text: "bbb"}, step{call: "boot", c: api.Choice{Dir: 1, Cuts: []int{2}}})
	has(t, d, "a", "aaaa", "b", "bb")
	if d.Used() != 6 || d.Capacity() != 4 {
		t.Error(seen(d))
	}
	for _, x := range []struct {
		s    step
		want api.Errno
	}{
		{step{call: "append", s: "a", text: ""}, api.ErrFull}, {step{call: "append", s: "b", text: "b"}, api.ErrFull}, {step{call: "create", s: "c"}, api.OK},
		{step{call: "sync", s: "b"}, api.OK}, {step{call: "cut", s: "a", n: 3}, api.OK}, {step{call: "append", s: "b", text: ""}, api.ErrFull},
		{step{call: "cut", s: "a", n: 2}, api.OK}, {step{call: "append", s: "b", text: ""}, api.OK}, {step{call: "append", s: "b", text: "b"}, api.ErrFull},
	} {
		tells(t, d, x.s, x.want)
	}
}

// short is steps from which all short rows are made.
var short = []step{
	{call: "create", s: "a"}, {call: "create", s: "b"}, {call: "append", s: "a", text: "xy"}, {call: "append", s: "b", text: "uvw"},
	{call: "sync", s: "a"}, {call: "sync", s: "b"}, {call: "cut", s: "a", n: 1}, {call: "rename", s: "a", text: "b"}, {call: "rename", s: "b", text: "a"},
	{call: "remove", s: "a"}, {call: "remove", s: "b"}, {call: "dirsync"},
}

// choices is what the short rows' ends are left to.
var choices = []api.Choice{
	{}, {Dir: 1, Cuts: []int{1, 1}}, {Dir: 2, Cuts: []int{2}, Marks: []string{"m", "n"}}, {Dir: 3, Cuts: []int{0, 2}, Marks: []string{"m"}}, {Dir: 99, Cuts: []int{9, 9}, Marks: []string{"", "n"}},
}

// P20.2 to P20.5: all rows of 4 of these steps, each booted by each of these choices, from an empty disk and from one that has something synced.
func TestShort(t *testing.T) {
	some := []step{{call: "create", s: "a"}, {call: "append", s: "a", text: "aa"}, {call: "sync", s: "a"}, {call: "create", s: "b"}, {call: "dirsync"}, {call: "append", s: "b", text: "b"}}
	for _, start := range [][]step{nil, some} {
		for n := range 12 * 12 * 12 * 12 {
			l := slices.Clone(start)
			for rest := n; len(l) < len(start)+4; rest /= 12 {
				l = append(l, short[rest%12])
			}
			for _, c := range choices {
				d, m := made(t, 8), newModel(8)
				for _, x := range l {
					if got, want := x.on(d), x.in(m); got != want {
						t.Fatal(l, x, int(got), int(want))
					}
				}
				if !agree(t, d, m, l) || !both(t, d, m, step{call: "boot", c: c}) {
					t.Fatal(l)
				}
			}
		}
	}
}

// P20.4, P20.5: the power goes at each op of these rows, and is put on by each of these choices.
func TestArmed(t *testing.T) {
	for n := range 12 * 12 * 12 {
		l := []step{{call: "create", s: "a"}, {call: "append", s: "a", text: "aa"}, {call: "dirsync"}}
		for rest := n; len(l) < 6; rest /= 12 {
			l = append(l, short[rest%12])
		}
		for at := 1; at <= 6; at++ {
			d, m := made(t, 8), newModel(8)
			if !both(t, d, m, append([]step{{call: "arm", n: at}}, l...)...) || !both(t, d, m, step{call: "boot", c: choices[(n+at)%5]}) || !both(t, d, m, l...) {
				t.Fatal(at, l)
			}
		}
	}
}

// someStep is any step, wrong ones too.
func someStep(r *rand.Rand) step {
	s, to := all[r.Intn(len(all)-r.Intn(4))], all[r.Intn(len(all)-r.Intn(4))]
	text := strings.Repeat(string(byte('a'+r.Intn(26))), r.Intn(80)>>r.Intn(6))
	switch r.Intn(24) {
	case 0, 1, 2, 3:
		return step{call: "create", s: s}
	case 4, 5, 6, 7, 8, 9:
		return step{call: "append", s: s, text: text}
	case 10, 11, 12:
		return step{call: "sync", s: s}
	case 13, 14:
		return step{call: "cut", s: s, n: r.Intn(40) - 2}
	case 15, 16, 17:
		return step{call: "rename", s: s, text: to}
	case 18:
		return step{call: "remove", s: s}
	case 19:
		return step{call: "dirsync"}
	case 20:
		return step{call: "arm", n: r.Intn(14) - 1}
	case 21:
		return step{call: "off"}
	}
	return someBoot(r)
}

// someBoot is any Boot.
func someBoot(r *rand.Rand) step {
	c := api.Choice{Dir: r.Intn(12) - 2}
	for range r.Intn(5) {
		c.Cuts = append(c.Cuts, r.Intn(90)-5)
	}
	for range r.Intn(5) {
		c.Marks = append(c.Marks, strings.Repeat("-", r.Intn(3))+strings.Repeat("?", r.Intn(70)))
	}
	return step{call: "boot", c: c}
}

// P20.1 to P20.5: disks by chance
func TestChance(t *testing.T) {
	r := rand.New(rand.NewSource(20))
	for range 3000 {
		capacity := r.Intn(400)
		d, m := made(t, capacity), newModel(capacity)
		for range 70 {
			if !both(t, d, m, someStep(r)) {
				return
			}
		}
	}
}

// P20.6: what was synced by a name that was synced is there. A file that is cut below what was synced is no such one: a cut that is done, or is not, is what file's Fall leaves.
func TestSafe(t *testing.T) {
	r := rand.New(rand.NewSource(206))
	held := 0
	for range 2000 {
		d := made(t, 1000)
		bytes, named := map[string]string{}, map[string]string{} // those of each file that is synced, by its name; those of them whose names are synced
		for range 60 {
			x := someStep(r)
			if x.call == "boot" || x.call == "off" || x.call == "arm" {
				continue
			}
			if x.on(d) != api.OK {
				continue
			}
			switch x.call {
			case "create":
				bytes[x.s] = ""
			case "sync":
				bytes[x.s], _ = d.Read(x.s)
				if _, ok := named[x.s]; ok {
					named[x.s] = bytes[x.s]
				}
			case "cut", "remove":
				delete(named, x.s)
				delete(bytes, x.s)
			case "rename":
				if s, ok := bytes[x.s]; ok {
					bytes[x.text] = s
				} else {
					delete(bytes, x.text)
				}
				delete(bytes, x.s)
				delete(named, x.s)
				delete(named, x.text)
			case "dirsync":
				clear(named)
				for s, text := range bytes {
					named[s] = text
				}
			}
		}
		if r.Intn(2) == 0 {
			d.Off()
		}
		tells(t, d, someBoot(r), api.OK)
		for s, text := range named {
			if got, e := d.Read(s); e != api.OK || !strings.HasPrefix(got, text) {
				t.Fatalf("%q was synced with %q, and has %q, %d", s, text, got, int(e))
			}
			held += min(len(text), 1)
		}
	}
	if held < 500 {
		t.Error("only", held, "files with bytes were held against what was synced")
	}
}

// P20.7
func TestWhole(t *testing.T) {
	r := rand.New(rand.NewSource(207))
	for range 2000 {
		d := made(t, 300)
		above := false
		for range 50 {
			x := someStep(r)
			x.on(d)
			above = d.Used() > 300 && (above || x.call == "boot")
			if d.Used() > 300 && !above {
				t.Fatal(x, "uses", d.Used())
			}
		}
		tells(t, d, step{call: "boot"}, api.OK)
		tells(t, d, step{call: "create", s: "new"}, api.OK)
		tells(t, d, step{call: "append", s: "new", text: ""}, appended(d))
		for _, s := range d.List() {
			tells(t, d, step{call: "sync", s: s}, api.OK)
		}
		tells(t, d, step{call: "dirsync"}, api.OK)
		ahead := seen(d)
		tells(t, d, someBoot(r), api.OK)
		if seen(d) != ahead {
			t.Fatalf("%q, then %q", ahead, seen(d))
		}
	}
}

// appended is what an Append of nothing tells.
func appended(d *Disk) api.Errno {
	if d.Used() > d.Capacity() {
		return api.ErrFull
	}
	return api.OK
}
