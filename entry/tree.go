package entry

import (
	"maps"
	"slices"
	"strings"

	"stevedore/api"
	"stevedore/path"
)

// branch is a node of a tree that is still growing.
type branch struct {
	entry int                // the last entry of its path, -1: none
	kids  map[string]*branch // by name; nil: none yet
}

// Tree returns the entries whose paths are right as a tree.
func Tree(l []api.Entry) []api.Node {
	root := newBranch()
	for i, e := range l {
		if parts := path.Split(e.Path); len(parts) > 0 {
			root.reach(parts).entry = i
		}
	}
	return root.nodes()
}

// newBranch returns a node without an entry and without nodes below it.
func newBranch() *branch { return &branch{entry: -1} }

// reach returns the node that parts lead to from b, which grows as far as needed.
func (b *branch) reach(parts []string) *branch {
	at := b
	for _, part := range parts {
		at = at.kid(part)
	}
	return at
}

// kid returns the node of a name below b.
func (b *branch) kid(name string) *branch {
	if kid := b.kids[name]; kid != nil {
		return kid
	}
	if b.kids == nil {
		b.kids = make(map[string]*branch)
	}
	kid := newBranch()
	b.kids[strings.Clone(name)] = kid // or the name would hold on to all of its path
	return kid
}

// nodes returns the nodes below b, rising by name.
func (b *branch) nodes() []api.Node {
	var nodes []api.Node
	for _, name := range slices.Sorted(maps.Keys(b.kids)) {
		kid := b.kids[name]
		nodes = append(nodes, api.Node{Name: name, Entry: kid.entry, Kids: kid.nodes()})
	}
	return nodes
}
