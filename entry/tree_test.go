package entry_test

import (
	"fmt"
	"math"
	"slices"
	"strings"
	"testing"
	"unsafe"

	"stevedore/api"
	"stevedore/entry"
)

// none is the index of a node without an entry.
const none = -1

// node returns a node.
func node(name string, at int, kids ...api.Node) api.Node {
	return api.Node{Name: name, Entry: at, Kids: kids}
}

// toldTree returns what the nodes of a tree are.
func toldTree(nodes []api.Node) string {
	var all strings.Builder
	for _, n := range nodes {
		fmt.Fprintf(&all, " %.30q=%d(%s)", n.Name, n.Entry, toldTree(n.Kids))
	}
	return fmt.Sprintf("%.600s", all.String())
}

// tree asks whether Tree answers as the model does.
func tree(t *testing.T, l []api.Entry) []api.Node {
	t.Helper()
	got := entry.Tree(l)
	if want := treeModel(l); !sameNodes(got, want) {
		t.Fatalf("20.3: Tree is%s, not%s, of%s", toldTree(got), toldTree(want), toldList(l))
	}
	orderly(t, got)
	return got
}

// orderly asks whether the names of nodes rise, and are safe (W5).
func orderly(t *testing.T, nodes []api.Node) {
	t.Helper()
	for i, n := range nodes {
		if i > 0 && nodes[i-1].Name >= n.Name {
			t.Fatalf("20.3: %q comes behind %q", n.Name, nodes[i-1].Name)
		}
		if !rightModel(n.Name) || strings.Contains(n.Name, "/") {
			t.Fatalf("W5: a node has the name %q", n.Name)
		}
		orderly(t, n.Kids)
	}
}

func TestTree(t *testing.T) {
	for _, x := range []struct {
		l    []api.Entry
		want []api.Node
	}{
		{nil, nil}, {[]api.Entry{}, nil},
		{files("b/c"), []api.Node{node("b", none, node("c", 0))}},
		{files("a/b"), []api.Node{node("a", none, node("b", 0))}},
		{files("a"), []api.Node{node("a", 0)}},
		{files("a", "a", "a"), []api.Node{node("a", 2)}},
		{files("a", "a/b"), []api.Node{node("a", 0, node("b", 1))}},
		{files("a/b", "a"), []api.Node{node("a", 1, node("b", 0))}},
		{files("a/b", "a", "a/b", "a/c"), []api.Node{node("a", 1, node("b", 2), node("c", 3))}},
		{files("c", "a", "b"), []api.Node{node("a", 1), node("b", 2), node("c", 0)}},
		{files("x/c", "x/a", "w/b", "x/b"), []api.Node{node("w", none, node("b", 2)), node("x", none, node("a", 1), node("b", 3), node("c", 0))}},
		{files("a/a/a", "a/a"), []api.Node{node("a", none, node("a", 1, node("a", 0)))}},
		{files("a/b/c/d", "a/x"), []api.Node{node("a", none, node("b", none, node("c", none, node("d", 0))), node("x", 1))}},
		{files("b/a", "a/b"), []api.Node{node("a", none, node("b", 1)), node("b", none, node("a", 0))}},
		{files("ab", "a", "a/b", "b"), []api.Node{node("a", 1, node("b", 2)), node("ab", 0), node("b", 3)}},
	} {
		if got := tree(t, x.l); !sameNodes(got, x.want) {
			t.Errorf("20.3: Tree is%s, not%s, of%s", toldTree(got), toldTree(x.want), toldList(x.l))
		}
	}
}

// TestTreeOrder is of names that come in the order of their bytes.
func TestTreeOrder(t *testing.T) {
	names := []string{"\x01", " ", "!", "-", "...", "..a", ".a", "0", "10", "9", "A", "B", "Z", "a", "a ", "a!", "a-b", "aa", "ab", "b", "\x7f", "\x80", "\xc3", "\xc3\xa9", "\xe2\x82\xac", "\xf0\x9f\x98\x80", "\xff", "\xff\xff"}
	if !slices.IsSorted(names) {
		t.Fatal("the names don't rise")
	}
	r := source(7)
	for range 200 {
		var l []api.Entry
		for _, at := range r.Perm(len(names)) {
			l = append(l, files(names[at], "d/"+names[at], names[at]+"/"+names[at])...)
		}
		nodes := tree(t, l)
		nodes = slices.DeleteFunc(nodes, func(n api.Node) bool { return n.Name == "d" })
		if len(nodes) != len(names) {
			t.Fatalf("20.3: Tree has %d nodes, not %d", len(nodes), len(names))
		}
		for i, n := range nodes {
			if n.Name != names[i] || len(n.Kids) != 1 || n.Kids[0].Name != names[i] {
				t.Fatalf("20.3: node %d is%s, not %q", i, toldTree(nodes[i:i+1]), names[i])
			}
		}
	}
}

// TestTreeWrongPaths is of entries whose paths aren't right: they are counted,
// but no nodes.
func TestTreeWrongPaths(t *testing.T) {
	wrongs := []string{"", "/", "/a", "a/", "a//b", ".", "./a", "a/.", "a/./b", "..", "../a", "a/..", "a/../b", "\x00", "a\x00", "a/\x00/b", strings.Repeat("a", maxPath+1), strings.Repeat("a/", maxPath/2) + "a"}
	for _, wrong := range wrongs {
		if nodes := tree(t, files(wrong)); len(nodes) > 0 {
			t.Errorf("20.3: Tree of %.60q is%s", wrong, toldTree(nodes))
		}
		nodes := tree(t, files("a/b", wrong, "a", wrong, "a/b", wrong))
		if want := []api.Node{node("a", 2, node("b", 4))}; !sameNodes(nodes, want) {
			t.Errorf("20.3: Tree with %.60q is%s", wrong, toldTree(nodes))
		}
	}
	if nodes := tree(t, append(files(wrongs...), files("a")...)); !sameNodes(nodes, []api.Node{node("a", len(wrongs))}) {
		t.Errorf("20.3: Tree with wrong paths is%s", toldTree(nodes))
	}
}

// TestTreeInvalid is of entries that are invalid, but for their paths: they are
// nodes as others are.
func TestTreeInvalid(t *testing.T) {
	for _, e := range []api.Entry{{}, {Kind: 9}, {Kind: file, Target: "t"}, {Kind: link}, {Kind: hard, Target: "missing"}, {Kind: dir, Mode: -1, UID: -1, GID: math.MaxInt, Time: nan}, {Kind: dir, Data: []byte("d")}} {
		e.Path = "a/b"
		below := e
		below.Path = "a/b/c"
		if nodes := tree(t, []api.Entry{below, e}); !sameNodes(nodes, []api.Node{node("a", none, node("b", 1, node("c", 0)))}) {
			t.Errorf("20.3: Tree is%s, of %s", toldTree(nodes), told(e))
		}
	}
}

// TestTreeDeep is of the deepest paths, and the longest ones.
func TestTreeDeep(t *testing.T) {
	deep := strings.Repeat("a/", maxPath/2-1) + "ab"
	nodes := entry.Tree(files("a/a", deep, "a", deep))
	for depth := range maxPath / 2 {
		name, at := "a", none
		switch depth {
		case 0:
			at = 2
		case 1:
			at = 0
		case maxPath/2 - 1:
			name, at = "ab", 3
		}
		if len(nodes) != 1 || nodes[0].Name != name || nodes[0].Entry != at {
			t.Fatalf("20.3: at depth %d the tree is%s", depth, toldTree(nodes))
		}
		nodes = nodes[0].Kids
	}
	if len(nodes) > 0 {
		t.Errorf("20.3: below the deepest node is%s", toldTree(nodes))
	}
	long := strings.Repeat("n", maxPath)
	if nodes := tree(t, files(long, long[1:]+"m", long+"n", long[2:]+"/n", long[2:])); len(nodes) != 3 {
		t.Errorf("20.3: Tree of long paths is%s", toldTree(nodes))
	}
}

// TestTreeAll is of all lists of up to four out of a few paths.
func TestTreeAll(t *testing.T) {
	few := []string{"a", "b", "a/a", "a/b", "a/a/b", "a b", "b/a", "a/", "a//b"}
	for n := range 5 {
		l := make([]api.Entry, n)
		for number := range int(math.Pow(float64(len(few)), float64(n))) {
			for i := range l {
				l[i].Path, number = few[number%len(few)], number/len(few)
			}
			tree(t, l)
		}
	}
}

func TestTreeRandom(t *testing.T) {
	r := source(8)
	for range 20_000 {
		tree(t, someList(r, 12))
	}
	for range 50 {
		tree(t, someList(r, 400))
	}
}

// TestTreeMany is of as many entries as there may be.
func TestTreeMany(t *testing.T) {
	const side = 1 << 10
	l := make([]api.Entry, 0, side*side)
	for i := range side * side {
		l = append(l, plain(file, fmt.Sprintf("all/%04d/%04d", side-1-i%side, i/side), ""))
	}
	nodes := entry.Tree(l)
	if len(nodes) != 1 || nodes[0].Name != "all" || nodes[0].Entry != none || len(nodes[0].Kids) != side {
		t.Fatal("20.3: the top of a tree of many entries")
	}
	for i, n := range nodes[0].Kids {
		if n.Name != fmt.Sprintf("%04d", i) || n.Entry != none || len(n.Kids) != side {
			t.Fatalf("20.3: node %d is %q with %d below it", i, n.Name, len(n.Kids))
		}
		for j, kid := range n.Kids {
			if kid.Name != fmt.Sprintf("%04d", j) || kid.Entry != j*side+side-1-i || len(kid.Kids) > 0 {
				t.Fatalf("20.3: node %d/%d is%s", i, j, toldTree(n.Kids[j:j+1]))
			}
		}
	}
}

// TestTreeSame is promise 20.4: lists whose entries are the same have the same
// tree; and so have lists with the same paths.
func TestTreeSame(t *testing.T) {
	r := source(9)
	for range 20_000 {
		l := someList(r, 10)
		other := copied(l)
		for i, e := range other {
			switch {
			case math.IsNaN(e.Time):
				other[i].Time = []float64{nan, otherNaN, -nan}[r.IntN(3)]
			case e.Time == 0:
				other[i].Time = []float64{0, negative}[r.IntN(2)]
			}
			if len(e.Data) == 0 {
				other[i].Data = [][]byte{nil, {}}[r.IntN(2)]
			}
		}
		if !entry.SameList(l, other) {
			t.Fatalf("20.1: SameList is false of%s\nand of%s", toldList(l), toldList(other))
		}
		nodes := entry.Tree(l)
		if again := entry.Tree(other); !sameNodes(nodes, again) {
			t.Fatalf("20.4: the trees of two lists are%s and%s, of%s", toldTree(nodes), toldTree(again), toldList(l))
		}
		for i, e := range l {
			other[i] = someEntry(r)
			other[i].Path = e.Path
		}
		if again := entry.Tree(other); !sameNodes(nodes, again) {
			t.Fatalf("20.3: the trees of two lists with the same paths are%s and%s, of%s", toldTree(nodes), toldTree(again), toldList(l))
		}
	}
}

// spoil changes all of a tree that can be changed.
func spoil(nodes []api.Node) {
	for i := range nodes {
		spoil(nodes[i].Kids)
		nodes[i] = node("spoilt", -7)
	}
	_ = append(nodes[:0], slices.Repeat([]api.Node{node("spoilt", -7)}, cap(nodes))...)
}

// TestTreeOwnMemory is of trees that share nothing with the list, nor with each
// other, nor one list of nodes with another.
func TestTreeOwnMemory(t *testing.T) {
	raw := []byte("ab/cd/ef")
	l := files(unsafe.String(&raw[0], len(raw)), unsafe.String(&raw[0], 2), "x/y", "x/z", "x")
	want := []api.Node{node("ab", 1, node("cd", none, node("ef", 0))), node("x", 4, node("y", 2), node("z", 3))}
	first, second := entry.Tree(l), entry.Tree(l)
	copy(raw, "xxxxxxxx")
	if !sameNodes(first, want) {
		t.Errorf("20.3: the tree changes with the list: it is%s", toldTree(first))
	}
	spoil(first)
	if !sameNodes(second, want) {
		t.Errorf("20.3: a tree changes with another: it is%s", toldTree(second))
	}
	spoil(second[0].Kids)
	second[0] = node("spoilt", -7)
	if !sameNodes(second[1:], want[1:]) {
		t.Errorf("20.3: a node changes with another: the tree is%s", toldTree(second))
	}
}
