package canopy

import (
	"emulsion/api"
	"emulsion/extent"
)

// node is the topmost one of a tree: an extent, and the trees of what lies ahead
// of it and behind it, of which none is deeper than the other one by more than
// one node. Trees have nodes in common, so nothing of a node is ever changed but
// its number.
type node struct {
	left, right *node
	x           api.Extent
	depth       int
	// number is 0 as long as the node is not one of a canopy's.
	number int
}

// made makes a node of two trees that are nearly as deep as one another.
func made(l *node, x api.Extent, r *node) *node {
	return &node{left: l, right: r, x: x, depth: 1 + max(deep(l), deep(r))}
}

// built makes a tree of a tidy map.
func built(l []api.Extent) *node {
	if len(l) == 0 {
		return nil
	}
	m := len(l) / 2
	return made(built(l[:m]), l[m], built(l[m+1:]))
}

// deep tells how many nodes stand one below the other.
func deep(t *node) int {
	if t == nil {
		return 0
	}
	return t.depth
}

// walk goes through a tree, but not below a node of which enter says no.
func (t *node) walk(enter func(n *node) bool) {
	if t != nil && enter(t) {
		t.left.walk(enter)
		t.right.walk(enter)
	}
}

// unnumbered tells the nodes of a tree that are not a canopy's yet. They are on
// top: what is below one that has a number has one, too.
func (t *node) unnumbered() []*node {
	var l []*node
	t.walk(func(n *node) bool {
		if n.number != 0 {
			return false
		}
		l = append(l, n)
		return true
	})
	return l
}

// all tells l and, behind it, the extents of a tree.
func (t *node) all(l []api.Extent) []api.Extent {
	if t == nil {
		return l
	}
	return t.right.all(append(t.left.all(l), t.x))
}

// near tells the first extent that has a block from k on.
func (t *node) near(k int) (api.Extent, bool) {
	switch {
	case t == nil:
		return api.Extent{}, false
	case k < t.x.From:
		if x, ok := t.left.near(k); ok {
			return x, true
		}
		fallthrough
	case k < end(t.x):
		return t.x, true
	default:
		return t.right.near(k)
	}
}

// last tells the last extent.
func (t *node) last() (api.Extent, bool) {
	if t == nil {
		return api.Extent{}, false
	}
	for t.right != nil {
		t = t.right
	}
	return t.x, true
}

// over lays the tree b over the tree a.
func over(a, b *node) *node {
	switch {
	case a == nil:
		return b
	case b == nil:
		return a
	}
	l := over(ahead(a, b.x.From), b.left)
	r := over(behind(a, end(b.x)), b.right)
	return b.between(l, r)
}

// between tells the tree of t's extent between two others, in which it is one
// with those beside it that can be one with it.
func (t *node) between(l, r *node) *node {
	x := t.x
	if o, ok := l.last(); ok {
		x = asOne(o, x)
	}
	if o, ok := r.near(0); ok {
		x = asOne(o, x)
	}
	return t.with(ahead(l, x.From), x, behind(r, end(x)))
}

// ahead tells the tree of what lies ahead of the block k.
func ahead(t *node, k int) *node {
	if t == nil {
		return nil
	}
	x := t.x
	switch {
	case k <= x.From:
		return ahead(t.left, k)
	case k < end(x):
		x = part(x, x.From, k)
		fallthrough
	default:
		return t.with(t.left, x, ahead(t.right, k))
	}
}

// behind tells the tree of what lies from the block k on.
func behind(t *node, k int) *node {
	if t == nil {
		return nil
	}
	x := t.x
	switch {
	case end(x) <= k:
		return behind(t.right, k)
	case x.From < k:
		x = part(x, k, end(x))
		fallthrough
	default:
		return t.with(behind(t.left, k), x, t.right)
	}
}

// with tells the tree of an extent between two others: t itself, if it is that.
func (t *node) with(l *node, x api.Extent, r *node) *node {
	if t.left == l && t.x == x && t.right == r {
		return t
	}
	return join(l, x, r)
}

// join makes the tree of an extent between two others, which may be as deep as they like.
func join(l *node, x api.Extent, r *node) *node {
	switch {
	case deep(l) > deep(r)+1:
		return level(l.left, l.x, join(l.right, x, r))
	case deep(r) > deep(l)+1:
		return level(join(l, x, r.left), r.x, r.right)
	default:
		return made(l, x, r)
	}
}

// level makes the tree of an extent between two others, of which one may be
// deeper by two nodes. What is deepest goes up: where it is the part that lies
// inward, that part is taken apart.
func level(l *node, x api.Extent, r *node) *node {
	switch {
	case deep(l) > deep(r)+1 && deep(l.left) < deep(l.right):
		m := l.right
		return made(made(l.left, l.x, m.left), m.x, made(m.right, x, r))
	case deep(l) > deep(r)+1:
		return made(l.left, l.x, made(l.right, x, r))
	case deep(r) > deep(l)+1 && deep(r.right) < deep(r.left):
		m := r.left
		return made(made(l, x, m.left), m.x, made(m.right, r.x, r.right))
	case deep(r) > deep(l)+1:
		return made(made(l, x, r.left), r.x, r.right)
	default:
		return made(l, x, r)
	}
}

// asOne tells x as one with another extent, which has none of its blocks, if the two can be one.
func asOne(o, x api.Extent) api.Extent {
	if l := extent.Set([]api.Extent{o}, x); len(l) == 1 {
		return l[0]
	}
	return x
}

// part tells what an extent says of the blocks from one on and ahead of another one.
func part(x api.Extent, from, to int) api.Extent {
	id, _ := extent.Find([]api.Extent{x}, from)
	return api.Extent{From: from, N: to - from, Id: id}
}

// end tells the block behind an extent.
func end(x api.Extent) int {
	return x.From + x.N
}
