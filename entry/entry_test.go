package entry_test

import (
	"bytes"
	"fmt"
	"math"
	"slices"
	"strings"
	"testing"

	"stevedore/api"
	"stevedore/entry"
)

// told returns what an entry is, without most of what is long.
func told(e api.Entry) string {
	return fmt.Sprintf("{%.60q (%d bytes) kind %d mode %d ids %d %d time %v target %.60q (%d bytes) data %.20x (%d bytes)}",
		e.Path, len(e.Path), e.Kind, e.Mode, e.UID, e.GID, e.Time, e.Target, len(e.Target), e.Data[:min(20, len(e.Data))], len(e.Data))
}

// toldList returns what the entries of a list are.
func toldList(l []api.Entry) string {
	var all strings.Builder
	for i, e := range l[:min(8, len(l))] {
		fmt.Fprintf(&all, "\n%d: %s", i, told(e))
	}
	return all.String()
}

// may asks whether May answers as the model does.
func may(t *testing.T, e api.Entry) bool {
	t.Helper()
	got := entry.May(e)
	if got != mayModel(e) {
		t.Fatalf("20.1: May(%s) is %v", told(e), got)
	}
	return got
}

// same asks whether Same answers as the model does, both ways.
func same(t *testing.T, a, b api.Entry) bool {
	t.Helper()
	got := entry.Same(a, b)
	if got != sameModel(a, b) || got != entry.Same(b, a) {
		t.Fatalf("20.1: Same(%s, %s) is %v, and %v the other way", told(a), told(b), got, entry.Same(b, a))
	}
	return got
}

// sameLists asks whether SameList answers as the model does, both ways.
func sameLists(t *testing.T, a, b []api.Entry) bool {
	t.Helper()
	got := entry.SameList(a, b)
	if got != sameListModel(a, b) || got != entry.SameList(b, a) {
		t.Fatalf("20.1: SameList is %v, and %v the other way, of%s\nand of%s", got, entry.SameList(b, a), toldList(a), toldList(b))
	}
	return got
}

// list asks whether List answers as the model does.
func list(t *testing.T, l []api.Entry) int {
	t.Helper()
	got := entry.List(l)
	if want := listModel(l); got != want {
		t.Fatalf("20.2: List is %d, not %d, of%s", got, want, toldList(l))
	}
	return got
}

// finds asks whether Find answers as the model does.
func finds(t *testing.T, l []api.Entry, name string) int {
	t.Helper()
	got := entry.Find(l, name)
	if want := findModel(l, name); got != want {
		t.Fatalf("20.2: Find of %.60q is %d, not %d, in%s", name, got, want, toldList(l))
	}
	return got
}

func TestMayExamples(t *testing.T) {
	if may(t, plain(link, "l", "")) {
		t.Error("20.1: a symbolic link without a target is valid")
	}
	if !may(t, plain(link, "l", "/../x")) {
		t.Error("20.1: a symbolic link to /../x is invalid")
	}
	for _, e := range valid() {
		if !may(t, e) {
			t.Errorf("20.1: %s is invalid", told(e))
		}
	}
	if may(t, api.Entry{}) {
		t.Error("20.1: the empty entry is valid")
	}
}

func TestMayPath(t *testing.T) {
	paths := map[string]bool{
		"a": true, "a/b": true, "a b/c": true, "...": true, "..a": true, "\xff": true, "\\": true, "a\n": true, " ": true, "TRAILER!!!": true,
		"": false, "/": false, "/a": false, "a/": false, "a//b": false, ".": false, "./a": false, "a/.": false, "a/./b": false,
		"..": false, "../a": false, "a/..": false, "a/../b": false, "\x00": false, "a\x00": false, "\x00a": false, "a/\x00/b": false,
		strings.Repeat("a", maxPath): true, strings.Repeat("a", maxPath+1): false, strings.Repeat("a/", maxPath/2): false, strings.Repeat("a/", maxPath/2-1) + "ab": true, strings.Repeat("a/", maxPath/2) + "a": false,
	}
	for path, want := range paths {
		for _, e := range valid() {
			e.Path = path
			if may(t, e) != want {
				t.Errorf("20.1: May(%s) is %v", told(e), !want)
			}
		}
	}
}

func TestMayNumbers(t *testing.T) {
	for _, x := range []struct {
		name string
		at   func(*api.Entry) *int
		most int
	}{
		{"mode", func(e *api.Entry) *int { return &e.Mode }, maxMode},
		{"UID", func(e *api.Entry) *int { return &e.UID }, maxID},
		{"GID", func(e *api.Entry) *int { return &e.GID }, maxID},
	} {
		for _, e := range valid() {
			for _, n := range append([]int{0, 1, 511, 512, 1023, 1024, 2048, maxMode - 1, maxMode, maxMode + 1, 8191, maxID - 1, maxID}, extremes...) {
				*x.at(&e) = n
				if want := 0 <= n && n <= x.most; may(t, e) != want {
					t.Errorf("20.1: May of an entry with the %s %d is %v", x.name, n, !want)
				}
			}
		}
	}
}

func TestMayKind(t *testing.T) {
	for _, kind := range append([]int{0, 1, 2, 3, 4, 5, 6, 8, 255, 256, 257}, extremes...) {
		for _, target := range []string{"", "f", "/../x"} {
			for _, data := range []string{"", "d"} {
				e := api.Entry{Path: "p", Kind: kind, Target: target, Data: []byte(data)}
				want := kind == file && target == "" || kind == dir && target+data == "" || kind == link && target != "" && data == "" || kind == hard && target == "f" && data == ""
				if may(t, e) != want {
					t.Errorf("20.1: May(%s) is %v", told(e), !want)
				}
			}
		}
	}
}

func TestMayTarget(t *testing.T) {
	long := strings.Repeat("t", maxTarget-1)
	for _, x := range []struct {
		target     string
		link, hard bool
	}{
		{"", false, false}, {"a", true, true}, {"a/b", true, true}, {"/", true, false}, {"/../x", true, false}, {"..", true, false}, {".", true, false}, {"a//b", true, false}, {"a/", true, false}, {"./a", true, false}, {"\xff\n", true, true}, {" ", true, true},
		{"\x00", false, false}, {"a\x00", false, false}, {"\x00a", false, false}, {"a/\x00/b", false, false},
		{long, true, true}, {long + "t", true, true}, {long + "tt", false, false}, {long + "\x00", false, false}, {long + "/", true, false}, {long + "//", false, false}, {"/" + long, true, false}, {"./" + long, false, false}, {strings.Repeat("t", 1<<20), false, false},
	} {
		for _, kind := range []int{file, dir, link, hard} {
			e := plain(kind, "p", x.target)
			want := kind == link && x.link || kind == hard && x.hard || kind < link && x.target == ""
			if may(t, e) != want {
				t.Errorf("20.1: May(%s) is %v", told(e), !want)
			}
		}
	}
	for at := range 40 {
		target := []byte(strings.Repeat("t", 40))
		target[at] = 0
		for _, kind := range []int{link, hard} {
			if may(t, plain(kind, "p", string(target))) {
				t.Errorf("20.1: a target with the byte 0 at %d is valid, of kind %d", at, kind)
			}
		}
	}
}

func TestMayData(t *testing.T) {
	huge := make([]byte, maxBytes+2)
	for _, size := range []int{0, 1, 2, 512, 1 << 20, maxBytes - 1, maxBytes, maxBytes + 1, maxBytes + 2} {
		for _, e := range valid() {
			e.Data = huge[:size]
			if want := size == 0 || e.Kind == file && size <= maxBytes; may(t, e) != want {
				t.Errorf("20.1: May of an entry of kind %d with %d bytes is %v", e.Kind, size, !want)
			}
		}
	}
}

func TestMayTime(t *testing.T) {
	for _, time := range []float64{0, negative, nan, otherNaN, math.Inf(1), math.Inf(-1), math.MaxFloat64, -math.MaxFloat64, math.SmallestNonzeroFloat64, -0.5, 1 << 40} {
		for _, e := range valid() {
			e.Time = time
			if !may(t, e) {
				t.Errorf("20.1: %s is invalid", told(e))
			}
		}
	}
}

func TestMayRandom(t *testing.T) {
	r := source(1)
	counts := map[bool]int{}
	for range 200_000 {
		counts[may(t, someEntry(r))]++
	}
	if counts[true] < 20_000 || counts[false] < 20_000 {
		t.Errorf("the entries are %v", counts)
	}
}

// changes returns entries that differ from e, each in one field.
func changes(e api.Entry) map[string]api.Entry {
	all := map[string]api.Entry{}
	change := func(name string, how func(*api.Entry)) {
		c := e
		how(&c)
		all[name] = c
	}
	change("path", func(c *api.Entry) { c.Path += "x" })
	change("path cut", func(c *api.Entry) { c.Path = "" })
	change("path case", func(c *api.Entry) { c.Path = strings.ToUpper(c.Path) })
	change("path slash", func(c *api.Entry) { c.Path += "/" })
	change("kind", func(c *api.Entry) { c.Kind++ })
	change("mode", func(c *api.Entry) { c.Mode ^= 1 })
	change("mode high", func(c *api.Entry) { c.Mode += 1 << 32 })
	change("UID", func(c *api.Entry) { c.UID-- })
	change("UID high", func(c *api.Entry) { c.UID += 1 << 32 })
	change("GID", func(c *api.Entry) { c.GID-- })
	change("GID high", func(c *api.Entry) { c.GID += 1 << 32 })
	change("target", func(c *api.Entry) { c.Target += "x" })
	change("target zero", func(c *api.Entry) { c.Target += "\x00" })
	change("data", func(c *api.Entry) { c.Data = append(bytes.Clone(c.Data), 0) })
	change("data other", func(c *api.Entry) { c.Data = bytes.ToUpper(append([]byte("z"), c.Data...)) })
	change("time", func(c *api.Entry) { c.Time = 7 })
	change("time infinite", func(c *api.Entry) { c.Time = math.Inf(1) })
	change("times", func(c *api.Entry) { c.Time = math.Nextafter(c.Time, 100) + 1e-9 })
	if math.IsNaN(e.Time) {
		change("times", func(c *api.Entry) { c.Time = 0 })
	}
	return all
}

func TestSame(t *testing.T) {
	for i, a := range valid() {
		for j, b := range valid() {
			if same(t, a, b) != (i == j) {
				t.Errorf("20.1: Same(%s, %s) is %v", told(a), told(b), i != j)
			}
		}
		for name, c := range changes(a) {
			if same(t, a, c) || !same(t, c, c) {
				t.Errorf("20.1: Same(%s, %s) doesn't see the change of the %s", told(a), told(c), name)
			}
		}
	}
	if !same(t, api.Entry{}, api.Entry{}) {
		t.Error("20.1: the empty entry isn't the same as itself")
	}
}

// TestSameFields is of fields that have the same bytes, laid otherwise.
func TestSameFields(t *testing.T) {
	for _, x := range [][2]api.Entry{
		{plain(link, "ab", "c"), plain(link, "a", "bc")}, {plain(link, "a", "b"), plain(link, "b", "a")}, {plain(link, "", "a"), plain(link, "a", "")},
		{{Target: "x"}, {Data: []byte("x")}}, {{UID: 1}, {GID: 1}}, {{UID: 1, GID: 2}, {UID: 2, GID: 1}}, {{Mode: 1}, {Kind: 1}}, {{Mode: 1}, {UID: 1}}, {{Time: 1}, {Mode: 1}},
	} {
		if same(t, x[0], x[1]) {
			t.Errorf("20.1: Same(%s, %s) is true", told(x[0]), told(x[1]))
		}
	}
}

// TestSameInvalid is of entries that are invalid: they are the same, too.
func TestSameInvalid(t *testing.T) {
	for _, e := range []api.Entry{{Path: "../x\x00", Kind: -1, Mode: -1, UID: math.MinInt, GID: math.MaxInt, Time: math.Inf(-1), Target: "\x00", Data: []byte{0}}, plain(dir, "/", "a//b")} {
		if !same(t, e, copied([]api.Entry{e})[0]) {
			t.Errorf("20.1: %s isn't the same as itself", told(e))
		}
		for name, c := range changes(e) {
			if same(t, e, c) && !strings.HasSuffix(name, "case") {
				t.Errorf("20.1: Same(%s, %s) doesn't see the change of the %s", told(e), told(c), name)
			}
		}
	}
}

func TestSameTime(t *testing.T) {
	times := []float64{nan, otherNaN, -nan, 0, negative, 1, -1, 1.5, math.Nextafter(1.5, 2), math.Inf(1), math.Inf(-1), math.MaxFloat64, math.SmallestNonzeroFloat64, 1 << 53, 1<<53 + 2}
	for _, a := range times {
		for _, b := range times {
			want := a == b || math.IsNaN(a) && math.IsNaN(b)
			for _, e := range valid() {
				f := e
				e.Time, f.Time = a, b
				if same(t, e, f) != want {
					t.Errorf("20.1: Same of the times %v and %v is %v", a, b, !want)
				}
			}
		}
	}
}

func TestSameData(t *testing.T) {
	e := valid()[0]
	with := func(data []byte) api.Entry {
		e.Data = data
		return e
	}
	if same(t, with([]byte("one")), with([]byte("two"))) {
		t.Error("20.1: two files that differ only in their bytes are the same")
	}
	if !same(t, with(nil), with([]byte{})) || !same(t, with(make([]byte, 0, 9)), with(nil)) || same(t, with(nil), with([]byte{0})) {
		t.Error("20.1: Same of no bytes")
	}
	data := []byte(strings.Repeat("stevedore", 30))
	if !same(t, with(data), with(bytes.Clone(data))) || !same(t, with(data), with(data)) || same(t, with(data), with(data[:len(data)-1])) || same(t, with(data), with(data[1:])) {
		t.Error("20.1: Same of the same bytes, or of a piece of them")
	}
	for i := range data {
		other := bytes.Clone(data)
		other[i] ^= 0x80
		if same(t, with(data), with(other)) {
			t.Errorf("20.1: Same doesn't see a change of byte %d", i)
		}
	}
}

func TestSameRandom(t *testing.T) {
	r := source(2)
	for range 100_000 {
		a := someEntry(r)
		b := someEntry(r)
		same(t, a, b)
		for _, c := range changes(a) {
			if r.IntN(6) == 0 {
				same(t, a, c)
			}
		}
		b = copied([]api.Entry{a})[0]
		if !same(t, a, b) {
			t.Fatalf("20.1: %s isn't the same as itself", told(a))
		}
	}
}

func TestSameList(t *testing.T) {
	l := valid()
	if sameLists(t, l[:3], l[:2]) || !sameLists(t, l[:3], copied(l)[:3]) {
		t.Error("20.1: SameList of three entries and the first two of them, or all")
	}
	if !sameLists(t, nil, []api.Entry{}) || !sameLists(t, nil, nil) || sameLists(t, nil, make([]api.Entry, 1)) || sameLists(t, l, nil) {
		t.Error("20.1: SameList of empty lists")
	}
	for i := range len(l) + 1 {
		for j := range len(l) + 1 {
			if sameLists(t, l[:i], copied(l)[:j]) != (i == j) || sameLists(t, l[i:], copied(l)[j:]) != (i == j) {
				t.Errorf("20.1: SameList of %d and %d entries", i, j)
			}
		}
	}
	for i := range l {
		for name, c := range changes(l[i]) {
			other := copied(l)
			other[i] = c
			if sameLists(t, l, other) {
				t.Errorf("20.1: SameList doesn't see the change of the %s of entry %d", name, i)
			}
		}
		other := copied(l)
		other[i].Time = nan
		again := copied(other)
		again[i].Time = otherNaN
		if !sameLists(t, other, again) {
			t.Errorf("20.1: SameList of no time in entry %d", i)
		}
		for j := range i {
			other := copied(l)
			other[i], other[j] = other[j], other[i]
			if sameLists(t, l, other) {
				t.Errorf("20.1: SameList doesn't see that entries %d and %d changed places", i, j)
			}
		}
	}
}

func TestSameListRandom(t *testing.T) {
	r := source(3)
	for range 20_000 {
		l := someList(r, 6)
		sameLists(t, l, someList(r, 6))
		other := copied(l)
		if !sameLists(t, l, other) {
			t.Fatalf("20.1: a list isn't the same as itself:%s", toldList(l))
		}
		if len(l) > 0 {
			other[r.IntN(len(l))] = someEntry(r)
			sameLists(t, l, other)
			sameLists(t, l, append(copied(l), l[0]))
			sameLists(t, l, copied(l)[1:])
		}
	}
}

func TestFind(t *testing.T) {
	l := files("a", "b", "a")
	if finds(t, l, "a") != 2 || finds(t, l, "b") != 1 || finds(t, l, "c") != -1 {
		t.Error("20.2: Find in a list of a, b, a")
	}
	if finds(t, nil, "a") != -1 || finds(t, nil, "") != -1 || finds(t, l, "") != -1 {
		t.Error("20.2: Find in an empty list, or of an empty path")
	}
	paths := []string{"", "a", "A", "a/", "/a", "a/b", "a//b", "a/./b", "./a", ".", "..", "a\x00", "\x00", "a ", "\xff", "ab", strings.Repeat("a", maxPath+1), strings.Repeat("a", maxPath)}
	l = files(paths...)
	for i, path := range paths {
		if finds(t, l, path) != i || finds(t, l[i+1:], path) != -1 || finds(t, l[:i+1], path) != i || finds(t, append(l, l...), path) != len(l)+i {
			t.Errorf("20.2: Find of %.20q", path)
		}
	}
	for i, e := range []api.Entry{plain(link, "x", "t"), plain(hard, "x", "t"), plain(dir, "x", ""), plain(0, "x", ""), plain(-1, "x", "\x00")} {
		if finds(t, []api.Entry{plain(file, "x", ""), e, plain(link, "t", "x")}, "x") != 1 {
			t.Errorf("20.2: Find doesn't find entry %d, which isn't a file", i)
		}
	}
}

func TestFindRandom(t *testing.T) {
	r := source(4)
	for range 50_000 {
		l := someList(r, 30)
		finds(t, l, somePath(r))
		if len(l) > 0 {
			finds(t, l, l[r.IntN(len(l))].Path)
		}
	}
}

func TestListExamples(t *testing.T) {
	a, h := plain(file, "a", ""), plain(hard, "h", "a")
	if list(t, []api.Entry{a, h}) != -1 || list(t, []api.Entry{h, a}) != 0 {
		t.Error("20.2: List of a hard link and its file")
	}
	if list(t, nil) != -1 || list(t, []api.Entry{}) != -1 || list(t, valid()) != -1 {
		t.Error("20.2: List of nothing, or of entries that are valid")
	}
}

func TestListHard(t *testing.T) {
	f, d, l, h := plain(file, "x", ""), plain(dir, "x", ""), plain(link, "x", "y"), plain(hard, "h", "x")
	y, toY := plain(file, "y", ""), plain(hard, "x", "y")
	toSelf := plain(hard, "x", "x")
	for i, x := range []struct {
		l    []api.Entry
		want int
	}{
		{[]api.Entry{f, h}, -1}, {[]api.Entry{d, h}, 1}, {[]api.Entry{l, h}, 1}, {[]api.Entry{h}, 0}, {[]api.Entry{y, h}, 1},
		{[]api.Entry{y, toY, h}, 2}, {[]api.Entry{y, toY, f, h}, -1}, {[]api.Entry{y, f, toY, h}, 3},
		{[]api.Entry{f, d, h}, 2}, {[]api.Entry{d, f, h}, -1}, {[]api.Entry{f, l, h}, 2}, {[]api.Entry{l, f, h}, -1}, {[]api.Entry{f, f, h}, -1},
		{[]api.Entry{f, h, d}, -1}, {[]api.Entry{f, h, d, h}, 3}, {[]api.Entry{f, h, l}, -1}, {[]api.Entry{f, h, h}, -1}, {[]api.Entry{f, h, d, f, h}, -1},
		{[]api.Entry{toSelf}, 0}, {[]api.Entry{f, toSelf}, -1}, {[]api.Entry{f, toSelf, toSelf}, 2}, {[]api.Entry{f, toSelf, h}, 2}, {[]api.Entry{f, toSelf, f, h}, -1},
		{[]api.Entry{h, f, h}, 0}, {[]api.Entry{d, h, h}, 1}, {[]api.Entry{plain(file, "X", ""), h}, 1}, {[]api.Entry{plain(file, "x/y", ""), h}, 1}, {[]api.Entry{plain(file, "y/x", ""), h}, 1},
		{[]api.Entry{plain(file, "a/b", ""), plain(hard, "c", "a/b"), plain(hard, "d", "b")}, 2},
	} {
		if got := list(t, x.l); got != x.want {
			t.Errorf("20.2: List is %d, not %d, in case %d, of%s", got, x.want, i, toldList(x.l))
		}
	}
}

// TestListInvalid is of lists with an entry that is invalid, at each place.
func TestListInvalid(t *testing.T) {
	wrongs := []api.Entry{
		{}, plain(file, "", ""), plain(file, "../x", ""), plain(file, "a/", ""), plain(0, "a", ""), plain(5, "a", ""), plain(file, "a", "t"), plain(dir, "a", "t"), plain(link, "a", ""), plain(link, "a", "\x00"),
		plain(hard, "a", ""), plain(hard, "a", "./f"), plain(hard, "a", "f/"), {Path: "a", Kind: file, Mode: maxMode + 1}, {Path: "a", Kind: file, UID: -1}, {Path: "a", Kind: dir, GID: maxID + 1}, {Path: "a", Kind: dir, Data: []byte{0}},
		plain(hard, "a", "missing"), plain(hard, "a", "d/e"), plain(hard, "a", "l"), plain(hard, "a", "h"),
	}
	for _, wrong := range wrongs {
		l := append(valid(), valid()...)
		for i := range l {
			other := slices.Clone(l)
			other[i] = wrong
			if got := list(t, other); got != i {
				t.Errorf("20.2: List is %d with %s at %d", got, told(wrong), i)
			}
			for j := i + 1; j < len(l); j++ {
				other[j] = wrongs[(i+j)%len(wrongs)]
				if got := list(t, other); got != i {
					t.Errorf("20.2: List is %d with %s at %d and another at %d", got, told(wrong), i, j)
				}
			}
		}
	}
}

// TestListAll is of all lists of up to five entries out of a few.
func TestListAll(t *testing.T) {
	few := []api.Entry{plain(file, "a", ""), plain(dir, "a", ""), plain(hard, "a", "b"), plain(file, "b", ""), plain(link, "b", "a"), plain(hard, "b", "a"), plain(hard, "c", "c"), plain(file, "/", "")}
	counts := map[int]int{}
	for n := range 6 {
		l := make([]api.Entry, n)
		for number := range int(math.Pow(float64(len(few)), float64(n))) {
			for i := range l {
				l[i], number = few[number%len(few)], number/len(few)
			}
			counts[list(t, l)]++
		}
	}
	for at := -1; at < 5; at++ {
		if counts[at] == 0 {
			t.Errorf("no list answers %d", at)
		}
	}
}

func TestListRandom(t *testing.T) {
	r := source(5)
	for range 50_000 {
		list(t, someList(r, 12))
	}
	for range 20_000 {
		l := files(somePath(r), somePath(r), somePath(r), somePath(r))
		for range r.IntN(30) {
			e := plain(1+r.IntN(4), somePath(r), "")
			if e.Kind >= link {
				e.Target = l[r.IntN(len(l))].Path
			}
			l = append(l, e)
		}
		list(t, slices.DeleteFunc(l, func(e api.Entry) bool { return !mayModel(e) }))
	}
}

// TestListMany is of as many entries as there may be, half of them hard links to
// the others: whoever walks back from each of them doesn't end.
func TestListMany(t *testing.T) {
	const half = 1 << 19
	l := make([]api.Entry, 0, 2*half+1)
	for i := range half {
		l = append(l, plain(file, fmt.Sprint("f/", i), ""))
	}
	for i := range half {
		l = append(l, plain(hard, fmt.Sprint("h/", i), fmt.Sprint("f/", i)))
	}
	if got := entry.List(l); got != -1 {
		t.Errorf("20.2: List of many hard links is %d", got)
	}
	for _, wrong := range []api.Entry{plain(hard, "x", "h/0"), plain(hard, "x", "missing"), plain(hard, "x", fmt.Sprint("f/", half)), plain(dir, "x/", "")} {
		if got := entry.List(append(l, wrong)); got != len(l) {
			t.Errorf("20.2: List of many hard links and %s is %d", told(wrong), got)
		}
	}
}

// TestUnchanged is of arguments, which stay as they are.
func TestUnchanged(t *testing.T) {
	r := source(6)
	for range 2_000 {
		l := someList(r, 8)
		other := someList(r, 8)
		before, otherBefore := copied(l), copied(other)
		entry.List(l)
		entry.Find(l, "a")
		entry.SameList(l, other)
		entry.Tree(l)
		if len(l) > 0 && len(other) > 0 {
			entry.May(l[0])
			entry.Same(l[0], other[0])
		}
		for i := range l {
			if math.Float64bits(l[i].Time) != math.Float64bits(before[i].Time) {
				t.Fatalf("a time is changed to %v", l[i].Time)
			}
		}
		if !sameListModel(l, before) || !sameListModel(other, otherBefore) {
			t.Fatalf("a list is changed:%s\nwas%s", toldList(l), toldList(before))
		}
	}
}
