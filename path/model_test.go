package path_test

import (
	"math/rand/v2"
	"slices"
	"strings"
)

// maxPath is the most bytes that a path has.
const maxPath = 4096

// source returns random numbers, the same ones every time.
func source(seed uint64) *rand.Rand { return rand.New(rand.NewPCG(seed, 19)) }

// cleanModel is promise 19.1's Clean, word by word.
func cleanModel(s string) (string, bool) {
	words := strings.Split(s, "/")
	if s == "" || s[0] == '/' || strings.Contains(s, "\x00") || slices.Contains(words, "..") {
		return "", false
	}
	words = slices.DeleteFunc(words, func(word string) bool { return word == "" || word == "." })
	clean := strings.Join(words, "/")
	if len(words) == 0 || len(clean) > maxPath {
		return "", false
	}
	return clean, true
}

// rightModel is promise 19.1's Right.
func rightModel(s string) bool {
	clean, ok := cleanModel(s)
	return ok && clean == s
}

// splitModel is promise 19.1's Split, byte by byte.
func splitModel(s string) []string {
	if !rightModel(s) {
		return nil
	}
	var words []string
	from := 0
	for i := range len(s) {
		if s[i] == '/' {
			words = append(words, s[from:i])
			from = i + 1
		}
	}
	return append(words, s[from:])
}

// lastModel is promise 19.1's Last.
func lastModel(s string) string {
	words := splitModel(s)
	if len(words) == 0 {
		return ""
	}
	return words[len(words)-1]
}

// lessModel is promise 19.1's Less.
func lessModel(a, b string) bool { return lessWords(compared(a), compared(b)) }

// compared returns the parts of a path as Less compares them.
func compared(s string) []string {
	if words := splitModel(s); len(words) > 0 {
		return words
	}
	return []string{s}
}

// lessWords compares the parts of two paths.
func lessWords(a, b []string) bool {
	for i := range b {
		if i == len(a) {
			return true
		}
		if a[i] != b[i] {
			return lessBytes(a[i], b[i])
		}
	}
	return false
}

// lessBytes compares two parts.
func lessBytes(a, b string) bool {
	for i := range len(b) {
		if i == len(a) {
			return true
		}
		if a[i] != b[i] {
			return a[i] < b[i]
		}
	}
	return false
}

// texts returns all texts of at most n of these letters, the shortest ones first.
func texts(letters string, n int) []string {
	all := []string{""}
	for from, more := 0, n; more > 0; more-- {
		upTo := len(all)
		for ; from < upTo; from++ {
			for i := range len(letters) {
				all = append(all, all[from]+letters[i:i+1])
			}
		}
	}
	return all
}

// long returns paths that are right, of n bytes and various shapes.
func long(n int) []string {
	pairs := strings.Repeat("b/", n)
	return []string{
		strings.Repeat("a", n),
		pairs[:n-1] + "c",
		"cc" + pairs[:n-3] + "c",
		"d/" + strings.Repeat("\xff", n-2),
		strings.Repeat("e", n-2) + "/f",
		strings.Repeat(".", n-2) + "/h",
		strings.Repeat("g ", n)[:n],
	}
}

// mixed returns a text of some pieces, most of which matter to a path.
func mixed(r *rand.Rand, n int) string {
	pieces := []string{
		"/", "/", "/", "//", ".", "./", "/./", "a", "b", "ab", "a b", "..a", "a..", "...", ".a", "a.", "\\", "\\..", " ", "\x01",
		"-", "~", "\xff", "\x80", "\xc3\xa9", "\xc3", "\n", ":", "\U0001F600", "C:", "0", "%00", "%2e%2e", "\u2215", "\uff0e",
	}
	var s strings.Builder
	for range n {
		s.WriteString(pieces[r.IntN(len(pieces))])
	}
	if r.IntN(8) == 0 {
		s.WriteString([]string{"/..", "/../", "..", "\x00", "/\x00/", "/.", "/"}[r.IntN(7)])
	}
	return s.String()
}

// stuffed returns a path with things laid into it that a cleaning removes.
func stuffed(r *rand.Rand, s string) string {
	idle := func() string { return strings.Repeat([]string{"/", "./", "/./", ".//"}[r.IntN(4)], r.IntN(3)) }
	var all strings.Builder
	all.WriteString(strings.TrimLeft(idle(), "/"))
	for i, word := range strings.Split(s, "/") {
		if i > 0 {
			all.WriteString("/" + idle())
		}
		all.WriteString(word)
	}
	all.WriteString([]string{"", "/", "/.", "//", "/./"}[r.IntN(5)])
	return all.String()
}
