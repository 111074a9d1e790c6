package entry_test

import (
	"bytes"
	"math"
	"math/rand/v2"
	"slices"
	"strings"

	"stevedore/api"
)

// The kinds and the limits, as the document has them.
const (
	file = 1
	dir  = 2
	link = 3
	hard = 4

	maxMode   = 4095
	maxID     = 2147483647
	maxPath   = 4096
	maxTarget = 4096
	maxBytes  = 1073741824
)

var (
	nan      = math.NaN()
	otherNaN = math.Float64frombits(0xfff8dead00000001)
	negative = math.Copysign(0, -1)
)

// extremes are numbers that are far beyond any bound.
var extremes = []int{
	math.MinInt, math.MinInt + 1, -1 << 32, math.MinInt32, -maxID, -4096, -4095, -2, -1,
	maxID + 1, 1<<32 - 1, 1 << 32, 1<<32 + 1, 1<<32 + 2, 1 << 40, math.MaxInt - 1, math.MaxInt,
}

// source returns random numbers, the same ones every time.
func source(seed uint64) *rand.Rand { return rand.New(rand.NewPCG(seed, 20)) }

// wordsModel returns the parts of a path, none if it isn't right.
func wordsModel(s string) []string {
	words := strings.Split(s, "/")
	for _, word := range words {
		if word == "" || word == "." || word == ".." || strings.IndexByte(word, 0) >= 0 {
			return nil
		}
	}
	if len(s) > maxPath {
		return nil
	}
	return words
}

// rightModel tells whether a path is right.
func rightModel(s string) bool { return len(wordsModel(s)) > 0 }

// mayModel is promise 20.1's May, condition by condition.
func mayModel(e api.Entry) bool {
	if !rightModel(e.Path) || e.Kind < file || e.Kind > hard {
		return false
	}
	if e.Mode < 0 || e.Mode > maxMode || e.UID < 0 || e.UID > maxID || e.GID < 0 || e.GID > maxID {
		return false
	}
	switch {
	case e.Kind == link && (len(e.Target) < 1 || len(e.Target) > maxTarget || strings.IndexByte(e.Target, 0) >= 0):
		return false
	case e.Kind == hard && !rightModel(e.Target):
		return false
	case e.Kind != link && e.Kind != hard && len(e.Target) != 0:
		return false
	}
	return len(e.Data) <= maxBytes && (e.Kind == file || len(e.Data) == 0)
}

// sameModel is promise 20.1's Same, field by field.
func sameModel(a, b api.Entry) bool {
	times := a.Time == b.Time || math.IsNaN(a.Time) && math.IsNaN(b.Time)
	numbers := [4]int{a.Kind, a.Mode, a.UID, a.GID} == [4]int{b.Kind, b.Mode, b.UID, b.GID}
	return times && numbers && a.Path == b.Path && a.Target == b.Target && string(a.Data) == string(b.Data)
}

// sameListModel is promise 20.1's SameList.
func sameListModel(a, b []api.Entry) bool {
	if len(a) != len(b) {
		return false
	}
	for i := range a {
		if !sameModel(a[i], b[i]) {
			return false
		}
	}
	return true
}

// findModel is promise 20.2's Find.
func findModel(l []api.Entry, name string) int {
	found := -1
	for i := range l {
		if l[i].Path == name {
			found = i
		}
	}
	return found
}

// listModel is promise 20.2's List.
func listModel(l []api.Entry) int {
	for i, e := range l {
		if !mayModel(e) {
			return i
		}
		if e.Kind != hard {
			continue
		}
		if at := findModel(l[:i], e.Target); at < 0 || l[at].Kind != file {
			return i
		}
	}
	return -1
}

// treeModel is promise 20.3's Tree: it looks for the nodes below a prefix among
// all entries, again for each prefix.
func treeModel(l []api.Entry, prefix ...string) []api.Node {
	var names []string
	for _, e := range l {
		words := wordsModel(e.Path)
		if len(words) > len(prefix) && slices.Equal(words[:len(prefix)], prefix) {
			names = append(names, words[len(prefix)])
		}
	}
	slices.SortFunc(names, func(a, b string) int { return bytes.Compare([]byte(a), []byte(b)) })
	var nodes []api.Node
	for _, name := range slices.Compact(names) {
		below := append(slices.Clone(prefix), name)
		nodes = append(nodes, api.Node{Name: name, Entry: findModel(l, strings.Join(below, "/")), Kids: treeModel(l, below...)})
	}
	return nodes
}

// sameNodes tells whether two trees are the same.
func sameNodes(a, b []api.Node) bool {
	return slices.EqualFunc(a, b, func(a, b api.Node) bool {
		return a.Name == b.Name && a.Entry == b.Entry && sameNodes(a.Kids, b.Kids)
	})
}

// valid returns a valid entry of each kind.
func valid() []api.Entry {
	return []api.Entry{
		{Path: "f", Kind: file, Mode: 0o644, UID: 1, GID: 2, Time: 3.5, Data: []byte("data")},
		{Path: "d/e", Kind: dir, Mode: 0o755, UID: 1000, GID: 100, Time: nan},
		{Path: "l", Kind: link, Mode: 0o777, Time: -1, Target: "../x"},
		{Path: "h", Kind: hard, Mode: 0, UID: maxID, GID: maxID, Target: "f"},
	}
}

// plain returns an entry of a kind with nothing but a path and a target.
func plain(kind int, path, target string) api.Entry {
	return api.Entry{Path: path, Kind: kind, Target: target}
}

// files returns files of these paths.
func files(paths ...string) []api.Entry {
	l := make([]api.Entry, 0, len(paths))
	for _, path := range paths {
		l = append(l, plain(file, path, ""))
	}
	return l
}

// copied returns a list that shares no bytes with l.
func copied(l []api.Entry) []api.Entry {
	c := slices.Clone(l)
	for i := range c {
		c[i].Data = bytes.Clone(c[i].Data)
	}
	return c
}

// somePath returns a path, right or not, of few and short parts.
func somePath(r *rand.Rand) string {
	words := []string{"a", "b", "ab", "a b", "a!", "a-", "B", "..a", "...", "\xff", "\xc3\xa9", "\x01", "\\", "a", "b"}
	var parts []string
	for range 1 + r.IntN(5) {
		parts = append(parts, words[r.IntN(len(words))])
	}
	if r.IntN(8) == 0 {
		parts[r.IntN(len(parts))] = []string{"", ".", "..", "\x00", "a\x00b"}[r.IntN(5)]
	}
	return strings.Join(parts, "/")
}

// someTarget returns a target.
func someTarget(r *rand.Rand) string {
	return []string{"", "a", "/../x", "a\x00b", "a/b", "..", "a//b", "\x00", "./a", " "}[r.IntN(10)]
}

// someEntry returns an entry that is often valid.
func someEntry(r *rand.Rand) api.Entry {
	number := func(most int) int {
		if r.IntN(30) == 0 {
			return extremes[r.IntN(len(extremes))]
		}
		return []int{0, 1, most, most - 1, r.IntN(most)}[r.IntN(5)]
	}
	e := api.Entry{Path: somePath(r), Kind: 1 + r.IntN(4), Mode: number(maxMode), UID: number(maxID), GID: number(maxID)}
	e.Time = []float64{nan, otherNaN, 0, negative, math.Inf(1), math.Inf(-1), -1.5, 1e300, r.Float64()}[r.IntN(9)]
	if r.IntN(40) == 0 {
		e.Kind = []int{0, 5, -1, -4, math.MinInt, math.MaxInt, 1 << 32, 1<<32 + 1}[r.IntN(8)]
	}
	if e.Kind == link || e.Kind == hard || r.IntN(30) == 0 {
		e.Target = someTarget(r)
	}
	if e.Kind == hard && r.IntN(4) > 0 {
		e.Target = somePath(r)
	}
	if e.Kind == file || r.IntN(30) == 0 {
		e.Data = bytes.Repeat([]byte{byte(r.IntN(3))}, r.IntN(4))
	}
	return e
}

// someList returns a list of at most n entries.
func someList(r *rand.Rand, n int) []api.Entry {
	var l []api.Entry
	for range r.IntN(n + 1) {
		l = append(l, someEntry(r))
	}
	return l
}
