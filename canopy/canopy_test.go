package canopy_test

import (
	"math"
	"math/bits"
	"slices"
	"testing"

	"emulsion/api"
	"emulsion/canopy"
	"emulsion/extent"
)

const most = api.MaxBlocks

func ex(from, n, id int) api.Extent { return api.Extent{From: from, N: n, Id: id} }

func sp(from, n int) api.Span { return api.Span{From: from, N: n} }

// bed has a canopy, and beside it what each of its roots has, as lists.
type bed struct {
	*testing.T
	c *canopy.Canopy
	// has is by the roots that were told and not swept; it has the empty map, too.
	has   map[int][]api.Extent
	swept []int
}

func newBed(t *testing.T) *bed {
	return &bed{T: t, c: &canopy.Canopy{}, has: map[int][]api.Extent{0: nil}}
}

// told holds an answer of a call that makes a map against the list that is wanted, and tells the root.
func (b *bed) told(what string, size, root int, err api.Errno, want []api.Extent) int {
	b.Helper()
	if err != api.OK || (root > 0) != (len(want) > 0) || root < 0 {
		b.Fatalf("%s: %d, error %d, not a root of %v", what, root, err, want)
	}
	if slices.Contains(b.swept, root) {
		b.Fatalf("%s: the root %d, which was swept", what, root)
	}
	if was, ok := b.has[root]; ok && !slices.Equal(was, want) {
		b.Fatalf("%s: the root %d of %v, not of %v", what, root, was, want)
	}
	b.has[root] = slices.Clone(want)
	if added := b.c.Size() - size; added < 0 || added > b.c.Nodes(root) {
		b.Fatalf("%s: %d nodes were added, it has %d", what, added, b.c.Nodes(root))
	}
	b.root(what, root)
	return root
}

// root holds a root that was not swept against what it has: all at once, and how large it is.
func (b *bed) root(what string, root int) {
	b.Helper()
	want := b.has[root]
	got := b.c.All(root)
	if !slices.Equal(got, want) || !extent.Valid(got, most) {
		b.Fatalf("%s: All(%d): %v, not %v", what, root, got, want)
	}
	// What was told is the reader's.
	got = got[:cap(got)]
	for i := range got {
		got[i] = ex(-9, -9, -9)
	}
	n := len(want)
	if nodes := b.c.Nodes(root); nodes > 2*n || nodes > b.c.Size() || (nodes > 0) != (n > 0) {
		b.Fatalf("%s: Nodes(%d): %d of %d extents, Size %d", what, root, nodes, n, b.c.Size())
	}
	if deep := b.c.Depth(root); deep > depthBound(n) || (deep > 0) != (n > 0) || deep > b.c.Nodes(root) {
		b.Fatalf("%s: Depth(%d): %d of %d extents", what, root, deep, n)
	}
}

// depthBound tells how deep a map of n extents may be.
func depthBound(n int) int { return 2 + 2*bits.Len(uint(n)) }

// roots tells those that were not swept, rising.
func (b *bed) roots() []int {
	var l []int
	for root := range b.has {
		l = append(l, root)
	}
	slices.Sort(l)
	return l
}

// every asks everything of each root, those that were swept, too.
func (b *bed) every(what string) {
	b.Helper()
	for _, root := range b.roots() {
		b.root(what, root)
		b.blocks(what, root)
	}
	if nodes := b.c.Nodes(b.roots()...); nodes != b.c.Size() {
		b.Fatalf("%s: %d nodes, but Size %d", what, nodes, b.c.Size())
	}
	for _, root := range b.swept {
		b.gone(what, root)
	}
}

// places has blocks that there are, and others.
func places() []int {
	l := []int{math.MinInt, -65, -64, -1, most, most + 1, 128, 1 << 32, math.MaxInt}
	for k := range most {
		l = append(l, k)
	}
	return l
}

// blocks holds Find and Near of a root against its list.
func (b *bed) blocks(what string, root int) {
	b.Helper()
	l := b.has[root]
	for _, k := range places() {
		wantId, wantIs := extent.Find(l, k)
		if id, is := b.c.Find(root, k); id != wantId || is != wantIs {
			b.Fatalf("%s: Find(%d, %d): %d %v, not %d %v of %v", what, root, k, id, is, wantId, wantIs, l)
		}
		var want api.Extent
		i := slices.IndexFunc(l, func(x api.Extent) bool { return x.From+x.N > k })
		if i >= 0 {
			want = l[i]
		}
		if x, is := b.c.Near(root, k); x != want || is != (i >= 0) {
			b.Fatalf("%s: Near(%d, %d): %v %v, not %v of %v", what, root, k, x, is, want, l)
		}
	}
}

// gone asks everything of a root that was swept.
func (b *bed) gone(what string, root int) {
	b.Helper()
	c, size := b.c, b.c.Size()
	if l, nodes, deep := c.All(root), c.Nodes(root), c.Depth(root); len(l) != 0 || nodes != 0 || deep != 0 {
		b.Fatalf("%s: the swept root %d: All %v, Nodes %d, Depth %d", what, root, l, nodes, deep)
	}
	for _, k := range []int{math.MinInt, -1, 0, 1, most / 2, most - 1, most, math.MaxInt} {
		if id, is := c.Find(root, k); id != 0 || is {
			b.Fatalf("%s: the swept root %d: Find(%d): %d %v", what, root, k, id, is)
		}
		if x, is := c.Near(root, k); x != (api.Extent{}) || is {
			b.Fatalf("%s: the swept root %d: Near(%d): %v %v", what, root, k, x, is)
		}
	}
	for call, answer := range map[string]func() (int, api.Errno){
		"Set":              func() (int, api.Errno) { return c.Set(root, ex(0, 1, 0)) },
		"Set of no extent": func() (int, api.Errno) { return c.Set(root, ex(0, 0, 0)) },
		"Cut":              func() (int, api.Errno) { return c.Cut(root, sp(0, most)) },
		"Cut of no span":   func() (int, api.Errno) { return c.Cut(root, sp(0, 0)) },
		"Over the empty":   func() (int, api.Errno) { return c.Over(0, root) },
		"the empty Over":   func() (int, api.Errno) { return c.Over(root, 0) },
		"Over itself":      func() (int, api.Errno) { return c.Over(root, root) },
	} {
		if r, err := answer(); r != 0 || err != api.ErrNone || c.Size() != size {
			b.Fatalf("%s: the swept root %d: %s: %d, error %d, Size %d behind %d", what, root, call, r, err, c.Size(), size)
		}
	}
}

// otherwise tells how many extents came or went from one list to the other one.
func otherwise(was, is []api.Extent) int {
	n := 0
	for _, x := range was {
		if !slices.Contains(is, x) {
			n++
		}
	}
	for _, x := range is {
		if !slices.Contains(was, x) {
			n++
		}
	}
	return n
}

// changed holds what Set or Cut told of a root against the list that is wanted.
func (b *bed) changed(what string, size, root, got int, err api.Errno, want []api.Extent) int {
	b.Helper()
	was := b.has[root]
	deep := max(b.c.Depth(root), b.c.Depth(got))
	b.told(what, size, got, err, want)
	n, added := otherwise(was, want), b.c.Size()-size
	if n == 0 && (got != root || added != 0) {
		b.Fatalf("%s: %d behind %d, and %d nodes, but nothing is otherwise", what, got, root, added)
	}
	if added > 8*(deep+1)*(n+1) {
		b.Fatalf("%s: %d nodes were added, %d deep, %d extents came or went", what, added, deep, n)
	}
	b.root(what+", ahead of it", root)
	return got
}

func (b *bed) set(root int, x api.Extent) int {
	b.Helper()
	size := b.c.Size()
	got, err := b.c.Set(root, x)
	return b.changed("Set", size, root, got, err, extent.Set(b.has[root], x))
}

func (b *bed) cut(root int, s api.Span) int {
	b.Helper()
	size := b.c.Size()
	got, err := b.c.Cut(root, s)
	return b.changed("Cut", size, root, got, err, extent.Cut(b.has[root], s))
}

func (b *bed) lay(l ...api.Extent) int {
	b.Helper()
	size := b.c.Size()
	got, err := b.c.Lay(l)
	return b.told("Lay", size, got, err, extent.Tidy(l))
}

func (b *bed) over(low, top int) int {
	b.Helper()
	size := b.c.Size()
	got, err := b.c.Over(low, top)
	b.told("Over", size, got, err, extent.Over(b.has[low], b.has[top]))
	b.root("Over, the lower one", low)
	b.root("Over, the upper one", top)
	return got
}

// sweep sweeps all but some roots, and holds how many nodes went against those that there were.
func (b *bed) sweep(roots ...int) int {
	b.Helper()
	size, stay := b.c.Size(), b.c.Nodes(roots...)
	gone := b.c.Sweep(roots...)
	if gone != size-stay || b.c.Size() != stay || b.c.Nodes(roots...) != stay {
		b.Fatalf("Sweep(%v): %d of %d nodes, %d stay, Size %d", roots, gone, size, stay, b.c.Size())
	}
	for _, root := range b.roots() {
		if root != 0 && !slices.Contains(roots, root) {
			delete(b.has, root)
			b.swept = append(b.swept, root)
		}
	}
	return gone
}

// refused holds calls that are to tell ErrFull against that.
func (b *bed) refused(what string, answer func() (int, api.Errno)) {
	b.Helper()
	size := b.c.Size()
	if root, err := answer(); root != 0 || err != api.ErrFull || b.c.Size() != size {
		b.Fatalf("%s: %d, error %d, Size %d behind %d, not ErrFull", what, root, err, b.c.Size(), size)
	}
}

// sequence makes numbers that are the same ones in each run.
type sequence uint64

func (q *sequence) below(n int) int {
	*q = *q*6364136223846793005 + 1442695040888963407
	return int(uint64(*q) >> 33 % uint64(n))
}

// of tells one of a list.
func of[T any](q *sequence, l []T) T { return l[q.below(len(l))] }

// extent makes one: mostly a short one, now and then a long one, or one that is not tidy by itself.
func (q *sequence) extent() api.Extent {
	longest := 4
	switch q.below(12) {
	case 0:
		return of(q, untidy())
	case 1:
		longest = most
	}
	from := q.below(most)
	n := 1 + q.below(min(longest, most-from))
	// Ids that hang on From come together often.
	id := from - 5*q.below(2)
	if n > api.MaxPool || q.below(4) == 0 || id < 1 || id+n > api.MaxPool+1 {
		return ex(from, n, 0)
	}
	return ex(from, n, id)
}

func (q *sequence) span() api.Span {
	if q.below(12) == 0 {
		return of(q, broken())
	}
	x := q.extent()
	return sp(x.From, x.N)
}

func (q *sequence) list(longest int) []api.Extent {
	var l []api.Extent
	for range q.below(longest + 1) {
		l = append(l, q.extent())
	}
	return l
}

// broken has spans that are not whole: each bound by one, and numbers that wrap round.
func broken() []api.Span {
	return []api.Span{
		{}, sp(0, -1), sp(3, 0), sp(most, 0), sp(8, -4), sp(-1, 2), sp(-1, most), sp(-5, 9),
		sp(most, 1), sp(most-1, 2), sp(1, most), sp(0, most+1), sp(most+1, -1),
		sp(1, math.MaxInt), sp(math.MaxInt, 1), sp(math.MaxInt, math.MaxInt),
		sp(math.MinInt, math.MaxInt), sp(0, math.MinInt), sp(math.MaxInt, math.MinInt), sp(math.MinInt, math.MinInt),
	}
}

// untidy has extents that are not tidy by themselves: of no whole span, or of Ids that may not be.
func untidy() []api.Extent {
	const pool = api.MaxPool
	l := []api.Extent{
		ex(3, 1, -1), ex(3, 4, -2), ex(3, most-3, math.MinInt), ex(3, 1, pool+1), ex(3, 2, pool),
		ex(0, pool+1, 1), ex(0, most, 1), ex(3, 2, math.MaxInt), ex(0, most, math.MaxInt),
	}
	for _, s := range broken() {
		l = append(l, ex(s.From, s.N, 0), ex(s.From, s.N, 1))
	}
	return l
}

// every64 is a map of as many extents as may be, of which no two can be one.
func every64() []api.Extent {
	var l []api.Extent
	for k := range most {
		l = append(l, ex(k, 1, 1+k*7%api.MaxPool))
	}
	return l
}

// maps has tidy maps: with gaps, with extents that touch and are not one, at both ends, of all blocks, of one each, of none.
func maps() [][]api.Extent {
	return [][]api.Extent{
		nil,
		{ex(0, most, 0)},
		{ex(0, 4, 1)},
		{ex(0, 1, 60), ex(most-1, 1, 60)},
		{ex(most-1, 1, 0)},
		{ex(0, 4, 1), ex(4, 2, 0), ex(9, 3, 20)},
		{ex(3, 2, 10), ex(5, 2, 10), ex(7, 2, 13), ex(9, 2, 14), ex(11, 2, 0), ex(13, 2, 2)},
		{ex(2, 2, 0), ex(5, 3, 7), ex(8, 3, 0), ex(11, 1, 8), ex(20, 20, 30), ex(41, 20, 10), ex(63, 1, 3)},
		{ex(0, 60, 1), ex(60, 4, 1)},
		{ex(0, 32, 1), ex(32, 3, 0), ex(35, 29, 32)},
		every64(),
	}
}

// P1101: the chapter's example, and that what a map was made of is as it was.
func TestP1101Example(t *testing.T) {
	b := newBed(t)
	one := b.set(0, ex(0, 4, 1))
	two := b.set(one, ex(1, 2, 0))
	if got, want := b.c.All(two), []api.Extent{ex(0, 1, 1), ex(1, 2, 0), ex(3, 1, 4)}; !slices.Equal(got, want) {
		t.Errorf("All: %v, not %v", got, want)
	}
	if got, want := b.c.All(one), []api.Extent{ex(0, 4, 1)}; !slices.Equal(got, want) || one == two {
		t.Errorf("All ahead of it: %v, not %v; the roots %d and %d", got, want, one, two)
	}
	b.every("the example")
}

// P1101, P1102: a zero Canopy is ready, and has nothing but the empty map.
func TestP1101Empty(t *testing.T) {
	b := newBed(t)
	b.every("a zero one")
	c := b.c
	if l, n, deep, size, gone := c.All(0), c.Nodes(0), c.Depth(0), c.Size(), c.Sweep(0); len(l) != 0 || n+deep+size+gone != 0 {
		t.Errorf("a zero one: All %v, Nodes %d, Depth %d, Size %d, Sweep %d", l, n, deep, size, gone)
	}
	for _, root := range []int{
		b.cut(0, sp(0, 1)), b.cut(0, sp(0, most)), b.lay(), b.lay(untidy()...), b.over(0, 0),
		b.set(0, ex(0, 0, 1)), b.set(0, ex(0, 1, -1)), b.cut(0, sp(-1, 2)),
	} {
		if root != 0 || c.Size() != 0 {
			t.Errorf("of nothing: the root %d, Size %d", root, c.Size())
		}
	}
	for _, x := range []api.Extent{ex(0, 1, 0), ex(0, most, 0), ex(0, api.MaxPool, 1), ex(most-1, 1, api.MaxPool), ex(most-2, 2, 5)} {
		if root := b.set(0, x); c.Depth(root) != 1 || c.Nodes(root) != 1 {
			t.Errorf("Set of the empty map and %v: Nodes %d, Depth %d", x, c.Nodes(root), c.Depth(root))
		}
	}
	b.every("maps of one extent")
}

// P1101: Set and Cut of every whole span in each map: within an extent, over its ends, over several, over none, beside one.
func TestP1101EverySpan(t *testing.T) {
	for _, l := range maps() {
		b := newBed(t)
		root := b.lay(l...)
		for from := range most {
			for n := 1; from+n <= most; n++ {
				b.cut(root, sp(from, n))
				for _, id := range idsFor(l, from, n) {
					b.set(root, ex(from, n, id))
				}
			}
			b.blocks("a map", root)
			b.sweep(root)
		}
	}
}

// idsFor tells the Ids that may matter for a span: zeros, the bounds, and those that come together with its neighbours, nearly too.
func idsFor(l []api.Extent, from, n int) []int {
	before, _ := extent.Find(l, from-1)
	at, _ := extent.Find(l, from)
	after, _ := extent.Find(l, from+n)
	ids := []int{0, 1, api.MaxPool + 1 - n, before, before + 1, at, after - n, after - n - 1}
	ids = slices.DeleteFunc(ids, func(id int) bool { return id < 0 || id > 0 && id+n > api.MaxPool+1 })
	slices.Sort(ids)
	return slices.Compact(ids)
}

// P1101: the same root where nothing is otherwise, and 0 where nothing is left.
func TestP1101SameRoot(t *testing.T) {
	for _, l := range maps() {
		b := newBed(t)
		root := b.lay(l...)
		size := b.c.Size()
		for _, x := range l {
			for from := range x.N {
				for n := 1; from+n <= x.N; n++ {
					part := ex(x.From+from, n, x.Id)
					if x.Id > 0 {
						part.Id += from
					}
					b.set(root, part)
				}
			}
		}
		for from := range most {
			for n := 1; from+n <= most && len(extent.Cut(l, sp(from, n))) == len(l); n++ {
				if near, is := b.c.Near(root, from); !is || near.From >= from+n {
					if got := b.cut(root, sp(from, n)); got != root {
						t.Errorf("Cut(%v, (%d, %d)): %d, not %d", l, from, n, got, root)
					}
				}
			}
		}
		for _, x := range untidy() {
			b.set(root, x)
		}
		for _, s := range broken() {
			b.cut(root, s)
		}
		if got := []int{b.set(root, ex(0, 0, 0)), b.cut(root, sp(0, 0)), b.over(root, 0), b.over(0, root), b.over(root, root)}; !slices.Equal(got, slices.Repeat([]int{root}, 5)) {
			t.Errorf("of %v: the roots %v, not %d", l, got, root)
		}
		// What is laid over it is in it already.
		for _, part := range []int{b.cut(root, sp(0, 9)), b.cut(root, sp(10, 30)), b.cut(root, sp(33, 31))} {
			if got := b.over(root, part); got != root {
				t.Errorf("%v, over it a part: the root %d, not %d", l, got, root)
			}
		}
		b.sweep(root)
		if got := []int{b.cut(root, sp(0, most)), b.cut(b.set(0, ex(3, 2, 9)), sp(2, 4))}; !slices.Equal(got, []int{0, 0}) {
			t.Errorf("nothing is left of %v: the roots %v", l, got)
		}
		if b.c.Size() != size+1 {
			t.Errorf("of %v: Size %d behind %d", l, b.c.Size(), size)
		}
		b.every("as it was")
	}
}

// P1101: Lay of lists by their numbers, in disorder, over one another, not tidy by themselves; what was handed in is as it was, and is not kept.
func TestP1101Lay(t *testing.T) {
	b := newBed(t)
	for _, c := range []struct{ l, want []api.Extent }{
		{nil, nil},
		{[]api.Extent{ex(9, 2, 0), ex(2, 3, 40), ex(9, 0, 0)}, []api.Extent{ex(2, 3, 40), ex(9, 2, 0)}},
		{[]api.Extent{ex(5, 1, 6), ex(3, 1, 4), ex(4, 1, 5), ex(2, 1, 3)}, []api.Extent{ex(2, 4, 3)}},
		{[]api.Extent{ex(2, 4, 3), ex(0, 64, 0), ex(63, 1, 60)}, []api.Extent{ex(0, 63, 0), ex(63, 1, 60)}},
		{[]api.Extent{ex(-1, 2, 2), ex(4, 2, 5), ex(0, 4, 1), ex(2, 1, 0)}, []api.Extent{ex(0, 2, 1), ex(2, 1, 0), ex(3, 3, 4)}},
	} {
		given := slices.Clone(c.l)
		root := b.lay(given...)
		if !slices.Equal(given, c.l) {
			t.Errorf("Lay(%v) turned it to %v", c.l, given)
		}
		clear(given)
		if got := b.c.All(root); !slices.Equal(got, c.want) {
			t.Errorf("Lay(%v): %v, not %v", c.l, got, c.want)
		}
	}
	q := sequence(1)
	for range 1000 {
		b.sweep(b.lay(q.list(20)...))
	}
	var long []api.Extent
	for range 20_000 {
		long = append(long, q.extent())
	}
	b.lay(long...)
	b.lay(every64()...)
	b.every("Lay")
}

// P1101: Over of each map and each other one, itself and the empty one, too, and by numbers.
func TestP1101Over(t *testing.T) {
	b := newBed(t)
	var roots []int
	for _, l := range maps() {
		roots = append(roots, b.lay(l...))
	}
	for _, low := range roots {
		for _, top := range roots {
			b.over(low, top)
			b.sweep(roots...)
		}
	}
	b.every("Over")
	two, one := b.lay(ex(0, 4, 1), ex(4, 2, 0), ex(9, 3, 20)), b.lay(ex(2, 8, 30))
	if got, want := b.c.All(b.over(two, one)), []api.Extent{ex(0, 2, 1), ex(2, 8, 30), ex(10, 2, 21)}; !slices.Equal(got, want) {
		t.Errorf("Over: %v, not %v", got, want)
	}
	if got, want := b.c.All(b.over(one, two)), []api.Extent{ex(0, 4, 1), ex(4, 2, 0), ex(6, 3, 34), ex(9, 3, 20)}; !slices.Equal(got, want) {
		t.Errorf("Over, changed over: %v, not %v", got, want)
	}
	// What was apart comes together: over a gap, and with what is left on both sides.
	if got, want := b.c.All(b.over(b.lay(ex(0, 2, 1), ex(4, 2, 5)), b.lay(ex(2, 2, 3)))), []api.Extent{ex(0, 6, 1)}; !slices.Equal(got, want) {
		t.Errorf("Over a gap: %v, not %v", got, want)
	}
	if got, want := b.c.All(b.over(b.lay(ex(0, 9, 0)), b.lay(ex(2, 2, 0), ex(5, 1, 0)))), []api.Extent{ex(0, 9, 0)}; !slices.Equal(got, want) {
		t.Errorf("Over of zeros on zeros: %v, not %v", got, want)
	}
}

// P1101: Find and Near by their numbers, at the first and the last block, below 0 and from MaxBlocks on.
func TestP1101FindNear(t *testing.T) {
	b := newBed(t)
	root := b.lay(ex(1, 3, 2), ex(4, 2, 0), ex(9, 3, 20), ex(62, 2, 59))
	for _, c := range []struct {
		k, id int
		is    bool
		near  api.Extent
	}{
		{math.MinInt, 0, false, ex(1, 3, 2)}, {-1, 0, false, ex(1, 3, 2)}, {0, 0, false, ex(1, 3, 2)},
		{1, 2, true, ex(1, 3, 2)}, {3, 4, true, ex(1, 3, 2)}, {4, 0, true, ex(4, 2, 0)}, {5, 0, true, ex(4, 2, 0)},
		{6, 0, false, ex(9, 3, 20)}, {8, 0, false, ex(9, 3, 20)}, {11, 22, true, ex(9, 3, 20)}, {12, 0, false, ex(62, 2, 59)},
		{62, 59, true, ex(62, 2, 59)}, {63, 60, true, ex(62, 2, 59)},
		{64, 0, false, api.Extent{}}, {65, 0, false, api.Extent{}}, {math.MaxInt, 0, false, api.Extent{}},
	} {
		if id, is := b.c.Find(root, c.k); id != c.id || is != c.is {
			t.Errorf("Find(%d): %d %v, not %d %v", c.k, id, is, c.id, c.is)
		}
		if x, is := b.c.Near(root, c.k); x != c.near || is != (c.near.N > 0) {
			t.Errorf("Near(%d): %v %v, not %v", c.k, x, is, c.near)
		}
	}
	for _, l := range append(maps(), []api.Extent{ex(0, 1, 1), ex(63, 1, 9)}) {
		b.blocks("a map", b.lay(l...))
	}
}

// P1101, P1102: many calls one behind the other, of any root that there is; now and then some are swept, and everything is asked.
func TestP1101ManyCalls(t *testing.T) {
	q := sequence(2)
	for range 8 {
		b := newBed(t)
		for i := range 1500 {
			roots := b.roots()
			switch root := of(&q, roots); q.below(9) {
			case 0, 1, 2:
				b.set(root, q.extent())
			case 3, 4:
				b.cut(root, q.span())
			case 5:
				b.lay(q.list(12)...)
			case 6, 7:
				b.over(root, of(&q, roots))
			default:
				if len(roots) > 30 {
					b.sweep(of(&q, roots), root, of(&q, roots), root)
				}
			}
			if i%50 == 0 {
				b.every("many calls")
			}
		}
		b.every("behind many calls")
	}
}

// orders has orders of all blocks: rising and falling, from both ends inward and from the middle outward, and with steps between.
func orders() [][]int {
	var rising, inward []int
	for k := range most {
		rising = append(rising, k)
		if k < most/2 {
			inward = append(inward, k, most-1-k)
		}
	}
	falling, outward := slices.Clone(rising), slices.Clone(inward)
	slices.Reverse(falling)
	slices.Reverse(outward)
	l := [][]int{rising, falling, inward, outward}
	for _, step := range []int{3, 7, 29, 37} {
		var order []int
		for k := range most {
			order = append(order, k*step%most)
		}
		l = append(l, order)
	}
	return l
}

// P1101, P1102: a map that grows and shrinks in each order, as deep as it may be behind each step.
func TestP1102Orders(t *testing.T) {
	l := every64()
	for _, grows := range orders() {
		b := newBed(t)
		full := 0
		for _, k := range grows {
			full = b.set(full, l[k])
		}
		if len(b.has[full]) != most {
			t.Fatalf("%d extents: %v", len(b.has[full]), b.has[full])
		}
		b.every("grown")
		for _, shrinks := range orders() {
			b.sweep(full)
			root := full
			for _, k := range shrinks {
				root = b.cut(root, sp(k, 1))
			}
			if root != 0 {
				t.Errorf("%v is left", b.has[root])
			}
		}
		b.every("shrunk")
	}
}

// P1102: maps of which the first blocks, the last ones or some in the middle went at once, and came back.
func TestP1102AtOnce(t *testing.T) {
	b := newBed(t)
	full := b.lay(every64()...)
	for from := range most {
		for n := 1; from+n <= most; n += 3 {
			part := b.cut(full, sp(from, n))
			b.over(part, full)
			b.over(full, part)
			b.over(b.set(part, ex(from, n, 0)), b.cut(full, sp(0, from+n)))
		}
		b.sweep(full)
	}
	b.every("at once")
}

// P1102: Nodes of none, of one several times, and of several that have much in common; the bounds by their numbers.
func TestP1102NodesShared(t *testing.T) {
	b := newBed(t)
	root := b.lay(every64()...)
	if n := []int{b.c.Nodes(), b.c.Nodes(0), b.c.Nodes(0, 0), b.c.Nodes(root) - b.c.Nodes(root, root, 0)}; !slices.Equal(n, []int{0, 0, 0, 0}) {
		t.Errorf("Nodes of none, of one several times: %v", n)
	}
	one := b.c.Nodes(root)
	roots := []int{root}
	for k := range most {
		other := b.set(root, ex(k, 1, 0))
		both := b.c.Nodes(root, other)
		if both != b.c.Nodes(other, root) || both <= one || both >= one+b.c.Nodes(other) {
			t.Errorf("Set of the block %d: Nodes %d of both, %d and %d each", k, both, one, b.c.Nodes(other))
		}
		roots = append(roots, other)
	}
	// Maps that are otherwise in one block each have most of their nodes in common.
	all := b.c.Nodes(roots...)
	if all != b.c.Size() || all > one*len(roots)/2 {
		t.Errorf("Nodes of %d roots: %d, Size %d, one has %d", len(roots), all, b.c.Size(), one)
	}
	b.every("shared")
}

// P1102: Size is as many as all roots have together, and nothing that is not otherwise makes it grow.
func TestP1102Size(t *testing.T) {
	b := newBed(t)
	one := b.lay(ex(0, 4, 1), ex(9, 3, 20))
	size := b.c.Size()
	if size != b.c.Nodes(one) || size < 1 {
		t.Errorf("Size %d, Nodes %d", size, b.c.Nodes(one))
	}
	two := b.set(one, ex(5, 1, 0))
	if b.c.Size() != b.c.Nodes(one, two) || b.c.Size() <= size {
		t.Errorf("Size %d behind %d, Nodes %d", b.c.Size(), size, b.c.Nodes(one, two))
	}
	size = b.c.Size()
	b.c.All(one)
	b.c.Find(two, 5)
	b.c.Near(two, 5)
	b.set(two, ex(5, 1, 0))
	b.set(two, ex(0, 0, 0))
	b.cut(two, sp(12, 52))
	b.cut(two, sp(0, most))
	b.lay()
	if b.c.Size() != size {
		t.Errorf("Size %d behind %d, where nothing was added", b.c.Size(), size)
	}
}

// P1102: Sweep of none, of some and of all; those that are named are as they were, the others are swept.
func TestP1102Sweep(t *testing.T) {
	b := newBed(t)
	first := b.lay(every64()...)
	var roots []int
	for k := range most {
		roots = append(roots, b.set(first, ex(k, 1, 0)))
	}
	if gone := b.sweep(append(roots, first)...); gone != 0 {
		t.Errorf("Sweep of all roots: %d nodes went", gone)
	}
	b.every("of all")
	if gone := b.sweep(roots[3], roots[40], roots[3], 0); gone == 0 {
		t.Error("Sweep of two roots: no nodes went")
	}
	b.every("of two")
	if gone := b.sweep(roots[40], first, roots[5], roots[40]); gone == 0 {
		t.Error("Sweep of one root and of roots that were swept: no nodes went")
	}
	b.every("of one, and of roots that were swept")
	if gone := b.sweep(roots[40]); gone != 0 {
		t.Errorf("Sweep of the one root: %d nodes went", gone)
	}
	b.every("of the one")
	made := b.over(roots[40], b.lay(ex(0, 9, 0), ex(20, 1, 60)))
	b.sweep(made)
	b.every("of one that was made behind it")
	if gone := b.sweep(); gone == 0 || b.c.Size() != 0 {
		t.Errorf("Sweep of none: %d nodes went, Size %d", gone, b.c.Size())
	}
	b.every("of none")
	if gone := b.sweep(made, 0); gone != 0 {
		t.Errorf("Sweep where there is nothing: %d nodes went", gone)
	}
	b.set(b.lay(every64()...), ex(2, 2, 0))
	b.every("behind it")
}

// P1102: roots that are a part of one that is named are swept, and stay so when the same part is a root again.
func TestP1102SweepParts(t *testing.T) {
	b := newBed(t)
	whole := b.lay(every64()...)
	parts, added := map[int]api.Span{}, 0
	cutAll := func() {
		for from := range most {
			for n := 1; from+n <= most; n += 3 {
				size := b.c.Size()
				if part := b.cut(whole, sp(from, n)); b.c.Size() == size && part != 0 {
					parts[part] = sp(from, n)
				}
			}
		}
		added = b.c.Size()
	}
	for range 3 {
		clear(parts)
		cutAll()
		if gone := b.sweep(whole); gone != added-b.c.Nodes(whole) || gone == 0 {
			t.Fatalf("Sweep of the whole: %d of %d nodes went", gone, added)
		}
		if len(parts) == 0 {
			t.Fatal("no root is a part of another one")
		}
		b.every("the parts are swept")
	}
	// Of parts that are named the whole is swept, and they stay.
	one, two := b.cut(whole, sp(0, 32)), b.cut(whole, sp(32, 32))
	b.sweep(two, one)
	b.every("the whole is swept")
	b.over(one, two)
	b.every("the parts are put together")
}

// fill lays maps of one extent until there are so many nodes.
func (b *bed) fill(size int) {
	b.Helper()
	for i := 0; b.c.Size() < size; i++ {
		was := b.c.Size()
		root, err := b.c.Lay([]api.Extent{ex(i%most, 1, 1+i%api.MaxPool)})
		if err != api.OK || b.c.Size() > was+1 || i > 3*canopy.Most {
			b.Fatalf("Lay: %d, error %d, Size %d behind %d", root, err, b.c.Size(), was)
		}
	}
}

// P1101: ErrFull where there would be more than Most nodes, of each call; nothing is added then, and there is room again behind Sweep.
func TestP1101Full(t *testing.T) {
	b := newBed(t)
	one := b.lay(ex(0, 64, 0))
	even := b.lay(ex(0, 2, 1), ex(4, 2, 9), ex(8, 2, 20), ex(12, 2, 30), ex(16, 2, 40))
	top := b.lay(ex(5, 1, 0))
	b.fill(canopy.Most)
	check := func() {
		b.refused("Set of the empty map", func() (int, api.Errno) { return b.c.Set(0, ex(0, 1, 1)) })
		b.refused("Set", func() (int, api.Errno) { return b.c.Set(one, ex(3, 1, 1)) })
		b.refused("Set of all", func() (int, api.Errno) { return b.c.Set(even, ex(0, 64, 0)) })
		b.refused("Cut", func() (int, api.Errno) { return b.c.Cut(one, sp(0, 1)) })
		b.refused("Cut in two", func() (int, api.Errno) { return b.c.Cut(one, sp(3, 1)) })
		b.refused("Lay", func() (int, api.Errno) { return b.c.Lay([]api.Extent{ex(0, 1, 1), ex(0, 2, 0)}) })
		b.refused("Lay of many", func() (int, api.Errno) { return b.c.Lay(every64()) })
		b.refused("Over", func() (int, api.Errno) { return b.c.Over(one, even) })
		b.refused("Over, changed over", func() (int, api.Errno) { return b.c.Over(even, top) })
	}
	check()
	// What adds nothing is done.
	if got := []int{b.set(one, ex(3, 1, 0)), b.set(one, ex(3, 0, 0)), b.cut(one, sp(0, 0)), b.cut(one, sp(0, 64)), b.lay(), b.over(0, 0)}; !slices.Equal(got, []int{one, one, one, 0, 0, 0}) {
		t.Errorf("nothing is otherwise: %v, not %d", got, one)
	}
	check()
	for _, root := range []int{one, even, top} {
		b.root("full", root)
		b.blocks("full", root)
	}
	b.sweep(one, even, top)
	b.set(one, ex(3, 1, 1))
	b.over(even, top)
	b.every("room again")
}

// P1101: just so many nodes as Most may there be: a map is taken where it fits, and not where one node is too many.
func TestP1101FullByOne(t *testing.T) {
	for _, call := range []func(c *canopy.Canopy, one, two int) (int, api.Errno){
		func(c *canopy.Canopy, one, two int) (int, api.Errno) { return c.Set(one, ex(30, 3, 0)) },
		func(c *canopy.Canopy, one, two int) (int, api.Errno) { return c.Cut(one, sp(30, 3)) },
		func(c *canopy.Canopy, one, two int) (int, api.Errno) { return c.Lay(every64()) },
		func(c *canopy.Canopy, one, two int) (int, api.Errno) { return c.Over(one, two) },
	} {
		wanted := 0
		for room := -1; room <= wanted; room++ {
			b := newBed(t)
			one, two := b.lay(every64()...), b.lay(ex(7, 9, 0), ex(40, 1, 60))
			if room >= 0 {
				b.fill(canopy.Most - room)
			}
			size := b.c.Size()
			root, err := call(b.c, one, two)
			if fits := room < 0 || room == wanted; fits != (err == api.OK) || fits != (root > 0) || !fits && err != api.ErrFull {
				t.Fatalf("%d nodes, and room for %d: %d, error %d", wanted, room, root, err)
			}
			switch added := b.c.Size() - size; {
			case room < 0:
				wanted = added
			case room < wanted && added != 0, room == wanted && b.c.Size() != canopy.Most:
				t.Fatalf("%d nodes, and room for %d: %d were added", wanted, room, added)
			}
			b.root("one", one)
			b.root("two", two)
		}
		if wanted < 1 {
			t.Error("no nodes were added")
		}
	}
}

// P1101: two of them are each by itself.
func TestP1101TwoOfThem(t *testing.T) {
	a, b := newBed(t), newBed(t)
	one := a.lay(every64()...)
	two := b.lay(ex(0, 64, 0))
	a.cut(one, sp(9, 9))
	b.set(two, ex(3, 3, 3))
	a.sweep()
	a.every("the first one")
	b.every("the second one")
}

// The rules of the document: of a nil one there is nothing, and it takes nothing; of numbers that were never told no call panics.
func TestNoCanopy(t *testing.T) {
	var c *canopy.Canopy
	strange := []int{0, 1, 7, -1, math.MinInt, math.MaxInt}
	for _, root := range strange {
		for what, answer := range map[string]func() (int, api.Errno){
			"Set":  func() (int, api.Errno) { return c.Set(root, ex(0, 1, 1)) },
			"Cut":  func() (int, api.Errno) { return c.Cut(root, sp(0, 1)) },
			"Lay":  func() (int, api.Errno) { return c.Lay(every64()) },
			"Over": func() (int, api.Errno) { return c.Over(root, root) },
		} {
			if got, err := answer(); got != 0 || err != api.ErrArg {
				t.Errorf("%s of a nil one, %d: %d, error %d", what, root, got, err)
			}
		}
		id, is := c.Find(root, 0)
		x, near := c.Near(root, 0)
		if id != 0 || is || x != (api.Extent{}) || near || len(c.All(root)) != 0 {
			t.Errorf("a nil one, %d: Find %d %v, Near %v %v, All %v", root, id, is, x, near, c.All(root))
		}
		if n, deep, gone, size := c.Nodes(root, 0), c.Depth(root), c.Sweep(root), c.Size(); n+deep+gone+size != 0 {
			t.Errorf("a nil one, %d: Nodes %d, Depth %d, Sweep %d, Size %d", root, n, deep, gone, size)
		}
	}
	b := newBed(t)
	one := b.lay(every64()...)
	for _, root := range strange {
		b.c.Set(root, ex(0, 1, 0))
		b.c.Cut(root, sp(0, 1))
		b.c.Over(root, one)
		b.c.Near(root, 0)
		b.c.Depth(root)
	}
	b.c.Nodes(strange...)
	b.c.Sweep(append(strange, one)...)
	b.root("beside strange numbers", one)
}
