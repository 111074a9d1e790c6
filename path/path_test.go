package path_test

import (
	"cmp"
	"io/fs"
	"math/rand/v2"
	gopath "path"
	"slices"
	"strings"
	"testing"
	"unicode/utf8"
	"unsafe"

	"stevedore/path"
)

// cleans asks whether Clean answers as the model does, and as Go's own packages
// do where they mean the same.
func cleans(t *testing.T, s string) (string, bool) {
	t.Helper()
	clean, ok := path.Clean(s)
	if want, wantOk := cleanModel(s); clean != want || ok != wantOk {
		t.Fatalf("19.1: Clean(%.60q), %d bytes, is %.60q (%d bytes), %v, not %.60q (%d bytes), %v", s, len(s), clean, len(clean), ok, want, len(want), wantOk)
	}
	if ok && clean != gopath.Clean(s) {
		t.Fatalf("19.1: Clean(%.60q) is %.60q, and for Go %.60q", s, clean, gopath.Clean(s))
	}
	if ok && !safe(clean) {
		t.Fatalf("W5: Clean(%.60q) is %.60q", s, clean)
	}
	return clean, ok
}

// safe tells whether a path may be returned.
func safe(s string) bool {
	framed := "/" + s + "/"
	for _, wrong := range []string{"//", "/./", "/../", "\x00"} {
		if strings.Contains(framed, wrong) {
			return false
		}
	}
	return len(s) > 0 && len(s) <= maxPath
}

// divides asks whether Right, Split and Last answer as the model does.
func divides(t *testing.T, s string) {
	t.Helper()
	right := path.Right(s)
	if right != rightModel(s) || right != safe(s) {
		t.Fatalf("19.1: Right(%.60q), %d bytes, is %v", s, len(s), right)
	}
	if utf8.ValidString(s) && !strings.Contains(s, "\x00") && len(s) <= maxPath && right != (fs.ValidPath(s) && s != ".") {
		t.Fatalf("19.1: Right(%.60q) is %v, and Go's own path isn't so", s, right)
	}
	parts := path.Split(s)
	if want := splitModel(s); !slices.Equal(parts, want) {
		t.Fatalf("19.1: Split(%.60q), %d bytes, is %.120q, not %.120q", s, len(s), parts, want)
	}
	if right && strings.Join(parts, "/") != s {
		t.Fatalf("19.1: Split(%.60q), %d bytes, is %.120q", s, len(s), parts)
	}
	if last, want := path.Last(s), lastModel(s); last != want {
		t.Fatalf("19.1: Last(%.60q), %d bytes, is %.60q, not %.60q", s, len(s), last, want)
	}
}

// compares asks whether Less answers as the model does, both ways.
func compares(t *testing.T, a, b string) {
	t.Helper()
	less, more := path.Less(a, b), path.Less(b, a)
	if less != lessModel(a, b) || more != lessModel(b, a) {
		t.Fatalf("19.1: Less(%.60q, %.60q), %d and %d bytes, is %v, and %v the other way", a, b, len(a), len(b), less, more)
	}
	if a == b && less || a != b && less == more {
		t.Fatalf("19.1: Less(%.60q, %.60q) is %v, and %v the other way", a, b, less, more)
	}
}

// settles asks promise 19.2 of a text.
func settles(t *testing.T, s string) {
	t.Helper()
	clean, ok := path.Clean(s)
	if !ok {
		return
	}
	if !path.Right(clean) {
		t.Fatalf("19.2: Clean(%.60q) is %.60q, which isn't Right", s, clean)
	}
	if again, ok := path.Clean(clean); again != clean || !ok {
		t.Fatalf("19.2: Clean(%.60q) is %.60q, which is cleaned to %.60q, %v", s, clean, again, ok)
	}
}

// all asks everything of one text.
func all(t *testing.T, s string) {
	t.Helper()
	cleans(t, s)
	divides(t, s)
	settles(t, s)
}

func TestClean(t *testing.T) {
	for _, x := range []struct {
		s, clean string
		ok       bool
	}{
		{"a/./b", "a/b", true}, {"./a//b/", "a/b", true}, {"a/../b", "", false}, {"a", "a", true}, {"a/b", "a/b", true}, {"a/b c/d", "a/b c/d", true},
		{"", "", false}, {"/", "", false}, {"/a", "", false}, {"//a", "", false}, {"/./a", "", false}, {"/..", "", false},
		{".", "", false}, {"./", "", false}, {"./.", "", false}, {".//", "", false}, {".//./", "", false},
		{"..", "", false}, {"../x", "", false}, {"x/..", "", false}, {"x/../", "", false}, {"../", "", false}, {"./..", "", false}, {"a/b/../..", "", false}, {"..//a", "", false},
		{"...", "...", true}, {"..a", "..a", true}, {"a..", "a..", true}, {"a../b", "a../b", true}, {"a/..b", "a/..b", true}, {".a", ".a", true}, {"a./b", "a./b", true}, {"a/.../b", "a/.../b", true}, {".. ", ".. ", true}, {". ", ". ", true}, {" ..", " ..", true},
		{"a\x00", "", false}, {"\x00", "", false}, {"\x00a", "", false}, {"a/\x00", "", false}, {"a/\x00/b", "", false}, {"a/./b/c\x00d/", "", false}, {"./\x00", "", false}, {"..\x00", "", false}, {".\x00", "", false},
		{"a/", "a", true}, {"a//", "a", true}, {"a/.", "a", true}, {"a/./", "a", true}, {"./a", "a", true}, {".//a", "a", true}, {"././a", "a", true}, {"a//b", "a/b", true}, {"a///b", "a/b", true}, {"a/././b", "a/b", true}, {"a/.//./b//.", "a/b", true},
		{"a\\..\\b", "a\\..\\b", true}, {"\\a", "\\a", true}, {"C:/a", "C:/a", true}, {"a:b", "a:b", true}, {"~/a", "~/a", true}, {"%2e%2e/a", "%2e%2e/a", true}, {"a\n/b", "a\n/b", true}, {" / ", " / ", true}, {"a/a/a", "a/a/a", true},
		{"\xff/\x80", "\xff/\x80", true}, {"\xc3//\xa9", "\xc3/\xa9", true}, {"\xff\xfe/./a", "\xff\xfe/a", true}, {"\u2215..\u2215", "\u2215..\u2215", true}, {"\uff0e\uff0e/a", "\uff0e\uff0e/a", true}, {"\xc0\xaf..", "\xc0\xaf..", true},
	} {
		if clean, ok := cleans(t, x.s); clean != x.clean || ok != x.ok {
			t.Errorf("19.1: Clean(%q) is %q, %v, not %q, %v", x.s, clean, ok, x.clean, x.ok)
		}
	}
}

func TestRight(t *testing.T) {
	for _, x := range []struct {
		s    string
		want bool
	}{
		{"a/b", true}, {"./a//b/", false}, {"a", true}, {"a/b/c", true}, {"", false}, {"/", false}, {"/a", false}, {"a/", false}, {"a//b", false}, {"//", false},
		{".", false}, {"./a", false}, {"a/.", false}, {"a/./b", false}, {"..", false}, {"../a", false}, {"a/..", false}, {"a/../b", false},
		{"...", true}, {"..a/.b/c./d..", true}, {"a\x00b", false}, {"a/\x00", false}, {"\x00", false}, {"\xff", true}, {"a\\b", true}, {" ", true}, {"\n", true}, {"data", true}, {"TRAILER!!!", true},
	} {
		if got := path.Right(x.s); got != x.want {
			t.Errorf("19.1: Right(%q) is %v", x.s, got)
		}
	}
}

func TestSplit(t *testing.T) {
	for _, x := range []struct {
		s    string
		want []string
	}{
		{"a/b c/d", []string{"a", "b c", "d"}}, {"a", []string{"a"}}, {"a/a", []string{"a", "a"}}, {"...", []string{"..."}}, {"\xff/\x80\\", []string{"\xff", "\x80\\"}}, {"a:/b\n", []string{"a:", "b\n"}},
		{"a//b", nil}, {"", nil}, {"/", nil}, {"/a", nil}, {"a/", nil}, {"./a", nil}, {"a/.", nil}, {".", nil}, {"..", nil}, {"a/../b", nil}, {"a\x00", nil}, {"a/b\x00", nil}, {strings.Repeat("a", maxPath+1), nil},
	} {
		if got := path.Split(x.s); !slices.Equal(got, x.want) {
			t.Errorf("19.1: Split(%.60q) is %.120q, not %q", x.s, got, x.want)
		}
	}
}

func TestLast(t *testing.T) {
	for _, x := range []struct{ s, want string }{
		{"a/b", "b"}, {"a", "a"}, {"a/b c/d e", "d e"}, {"a/a", "a"}, {"a/...", "..."}, {"a/\xff", "\xff"}, {"a/b\\c", "b\\c"}, {"ab/cd", "cd"},
		{"/", ""}, {"", ""}, {"a/", ""}, {"/a", ""}, {"a//b", ""}, {"./b", ""}, {"a/.", ""}, {"../b", ""}, {"a/..", ""}, {".", ""}, {"..", ""}, {"a\x00/b", ""}, {"a/b\x00", ""}, {"b/" + strings.Repeat("a", maxPath), ""},
	} {
		if got := path.Last(x.s); got != x.want {
			t.Errorf("19.1: Last(%.60q) is %.60q, not %q", x.s, got, x.want)
		}
	}
}

func TestLess(t *testing.T) {
	for _, x := range []struct {
		a, b string
		want bool
	}{
		{"a/b", "a b", true}, {"a b", "a/b", false}, {"a", "a", false}, {"a", "b", true}, {"b", "a", false}, {"a", "ab", true}, {"ab", "a", false},
		{"a", "a/b", true}, {"a/b", "a", false}, {"a/b", "a/b", false}, {"a/b", "a/c", true}, {"a/c", "a/b", false}, {"a/z", "b/a", true}, {"b/a", "a/z", false},
		{"a/b", "a/b/c", true}, {"a/b/c", "a/b", false}, {"a/b", "a/bc", true}, {"a/b/c", "a/bc", true}, {"a/bc", "a/b/c", false}, {"ab/a", "a/b/c", false},
		{"a/b", "a\x01", true}, {"a\x01", "a/b", false}, {"a/b", "a.", true}, {"a/b", "a-", true}, {"a/b", "a!/b", true}, {"a/b/c", "a/b!", true}, {"a/z/z", "a!", true}, {"a!", "a/z/z", false},
		{"Z", "a", true}, {"\x7f", "\x80", true}, {"\x80", "\x7f", false}, {"\xff", "a", false}, {"a", "\xff", true}, {"a/\xff", "a/a", false}, {"\xc3\xa9", "z", false}, {"10", "9", true},
		// What isn't Right is one part, with its slashes in it.
		{"", "a", true}, {"a", "", false}, {"", "", false}, {"", "/", true}, {"/", "a", true}, {"a", "/", false}, {"/", "/", false}, {"\x00", "a", true}, {"", "\x00", true},
		{"a/", "a b", false}, {"a b", "a/", true}, {"a", "a/", true}, {"a/", "a", false}, {"a/", "a/b", false}, {"a/b", "a/", true}, {"a//b", "a b", false}, {"a b", "a//b", true},
		{"a/z", "a//b", true}, {"a//b", "a/z", false}, {"a//b", "a/", false}, {"a/", "a//b", true}, {"./a", "a", true}, {".", "..", true}, {"..", ".", false}, {"../a", "..", false}, {"..", "../a", true}, {"a/../b", "a!", false}, {"a!", "a/../b", true},
		{"a/b\x00", "a b", false}, {"a b", "a/b\x00", true}, {"a/b\x00", "a/z", false}, {"a/z", "a/b\x00", true}, {"/a", "/b", true}, {"/b", "/a", false}, {"/a/b", "/a b", false}, {"/a b", "/a/b", true},
	} {
		if got := path.Less(x.a, x.b); got != x.want {
			t.Errorf("19.1: Less(%q, %q) is %v", x.a, x.b, got)
		}
	}
}

// TestAllShort is of all short texts of the bytes that matter, and some beside.
func TestAllShort(t *testing.T) {
	for _, s := range append(texts("a./\x00", 8), texts("a./ \\\xff", 6)...) {
		all(t, s)
	}
	for c := range 256 {
		for _, s := range []string{"#", "#a", "a#", "a#b", "a/#", "#/a", "a/#/b", "a/b#/", ".#", "#.", ".#.", "..#", "#..", "a/.#/b", "./#a"} {
			all(t, strings.ReplaceAll(s, "#", string([]byte{byte(c)})))
		}
	}
}

// TestLongest is of paths about the greatest length, with and without what is
// removed: what remains is counted, not what there was.
func TestLongest(t *testing.T) {
	r := source(1)
	for n := maxPath - 3; n <= maxPath+3; n++ {
		for _, s := range long(n) {
			if len(s) != n || path.Right(s) != (n <= maxPath) {
				t.Fatalf("19.1: Right(%.60q), %d bytes, is %v", s, n, path.Right(s))
			}
			all(t, s)
			for _, stuff := range []string{s + "/", "./" + s, s + "/.", s + "//", strings.Repeat("./", maxPath) + s, s + strings.Repeat("/.", maxPath), s + strings.Repeat("/", 3*maxPath)} {
				if clean, ok := path.Clean(stuff); ok != (n <= maxPath) || ok && clean != s || path.Right(stuff) {
					t.Fatalf("19.1: Clean(%.60q), %d bytes, is %d bytes, %v", stuff, len(stuff), len(clean), ok)
				}
				all(t, stuff)
			}
			for range 5 {
				all(t, stuffed(r, s))
			}
			for _, wrong := range []string{s + "/..", "../" + s, s + "\x00", "/" + s, s[:n/2] + "\x00" + s[n/2:], s[:n/2] + "/../" + s[n/2:], s + "/b", s + s} {
				all(t, wrong)
			}
		}
	}
}

// TestHuge is of texts that are far longer than a path.
func TestHuge(t *testing.T) {
	for _, x := range []struct{ s, want string }{
		{strings.Repeat("./", 1<<20) + "a", "a"}, {"a" + strings.Repeat("/", 1<<21) + "b", "a/b"}, {"a" + strings.Repeat("/.", 1<<20), "a"},
		{strings.Repeat("a", 1<<22), ""}, {strings.Repeat("a/", 1<<21), ""}, {strings.Repeat("./", 1<<20), ""}, {strings.Repeat("./", 1<<20) + "..", ""}, {"a" + strings.Repeat("/", 1<<21) + "\x00", ""}, {strings.Repeat("/", 1<<21), ""}, {strings.Repeat(".", 1<<21), ""},
	} {
		if clean, ok := path.Clean(x.s); clean != x.want || ok != (x.want != "") {
			t.Errorf("19.1: Clean(%.20q), %d bytes, is %.60q (%d bytes), %v", x.s, len(x.s), clean, len(clean), ok)
		}
		if path.Right(x.s) || len(path.Split(x.s)) > 0 || path.Last(x.s) != "" || path.Less(x.s, x.s) || !path.Less("", x.s) || path.Less(x.s, "") {
			t.Errorf("19.1: %.20q, %d bytes, is taken for Right, or for less than itself", x.s, len(x.s))
		}
	}
}

func TestRandom(t *testing.T) {
	r := source(2)
	for range 200_000 {
		all(t, mixed(r, r.IntN(20)))
	}
	for range 2_000 {
		s := mixed(r, r.IntN(4000))
		all(t, s)
		all(t, strings.ReplaceAll(s, "..", "x"))
	}
}

// TestStuffed is of paths with empty parts and parts "." laid into them, which
// are cleaned to what they were.
func TestStuffed(t *testing.T) {
	r := source(3)
	for range 50_000 {
		s, ok := path.Clean(mixed(r, 1+r.IntN(30)))
		if !ok {
			continue
		}
		stuff := stuffed(r, s)
		all(t, stuff)
		if clean, ok := path.Clean(stuff); clean != s || !ok {
			t.Fatalf("19.1: Clean(%q) is %q, %v, not %q", stuff, clean, ok, s)
		}
	}
}

// TestLessPairs is of all pairs of short texts.
func TestLessPairs(t *testing.T) {
	l := append(texts("a/ ", 5), texts("ab./\x00\xff", 3)...)
	for i, a := range l {
		for _, b := range l[:i+1] {
			compares(t, a, b)
		}
	}
}

// TestLessRandom is of pairs that begin alike.
func TestLessRandom(t *testing.T) {
	r := source(4)
	for range 100_000 {
		begin := mixed(r, r.IntN(6))
		compares(t, begin+mixed(r, r.IntN(6)), begin+mixed(r, r.IntN(6)))
	}
	for range 50_000 {
		a, ok := path.Clean(mixed(r, r.IntN(12)))
		b, alsoOk := path.Clean(changed(r, a))
		if ok && alsoOk {
			compares(t, a, b)
		}
	}
}

// changed returns a text with one byte changed, added or left out.
func changed(r *rand.Rand, s string) string {
	if s == "" {
		return s
	}
	at := r.IntN(len(s))
	more := string([]byte{" /.a\xff\x01"[r.IntN(6)]})
	return s[:at] + []string{more, ""}[r.IntN(2)] + s[at+r.IntN(2):]
}

// TestLessLongest is of paths at and above the greatest length: those above it
// are one part.
func TestLessLongest(t *testing.T) {
	var l []string
	for n := maxPath - 1; n <= maxPath+1; n++ {
		l = append(l, long(n)...)
		l = append(l, "a/"+strings.Repeat("z", n-2), "a "+strings.Repeat("z", n-2), "a/"+strings.Repeat("z", n-4)+"/z", "a/"+strings.Repeat("z", n-4)+" z")
	}
	l = append(l, "a", "a/", "a b", "a/b", "b", "b/c", "b c", "g", "g g", "\xff")
	for _, a := range l {
		for _, b := range l {
			compares(t, a, b)
		}
	}
	tail := strings.Repeat("z", maxPath-2)
	if !path.Less("a/"+tail, "a b") || path.Less("a/z"+tail, "a b") || !path.Less("a b", "a/z"+tail) {
		t.Error("19.1: Less of paths at and above the greatest length")
	}
}

// TestLessSorts is of an order of all texts: whoever sorts by it has one answer.
func TestLessSorts(t *testing.T) {
	r := source(5)
	l := append(texts("a/ .", 4), texts("ab\x00", 3)...)
	for range 300 {
		l = append(l, mixed(r, r.IntN(8)))
	}
	slices.Sort(l)
	l = slices.Compact(l)
	byLess := func(a, b string) int {
		switch {
		case path.Less(a, b):
			return -1
		case path.Less(b, a):
			return 1
		}
		return 0
	}
	slices.SortFunc(l, byLess)
	for i, a := range l {
		for j, b := range l {
			if byLess(a, b) != cmp.Compare(i, j) {
				t.Fatalf("19.1: in the order of Less %q is number %d and %q number %d, and Less is %v", a, i, b, j, path.Less(a, b))
			}
		}
	}
}

// TestOwnMemory is of results that hold on to nothing of the argument.
func TestOwnMemory(t *testing.T) {
	raw := []byte("ab/cd/ef")
	s := unsafe.String(&raw[0], len(raw))
	clean, _ := path.Clean(s)
	last, parts := path.Last(s), path.Split(s)
	one, _ := path.Clean(s[:2])
	only, alone := path.Last(s[:2]), path.Split(s[:2])
	copy(raw, "xxxxxxxx")
	if clean != "ab/cd/ef" || last != "ef" || !slices.Equal(parts, []string{"ab", "cd", "ef"}) {
		t.Errorf("results change with the argument: %q, %q, %q", clean, last, parts)
	}
	if one != "ab" || only != "ab" || !slices.Equal(alone, []string{"ab"}) {
		t.Errorf("results change with the argument: %q, %q, %q", one, only, alone)
	}
	parts[0], parts[1], parts[2] = "", "", ""
	if again := path.Split("ab/cd/ef"); !slices.Equal(again, []string{"ab", "cd", "ef"}) {
		t.Errorf("19.1: Split gives %q after a change of what it gave", again)
	}
}
