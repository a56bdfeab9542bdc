package runs_test

import (
	"math"
	"slices"
	"testing"

	"emulsion/api"
	"emulsion/runs"
)

func sp(from, n int) api.Span { return api.Span{From: from, N: n} }

// set is blocks one by one: what the calls are held against.
type set [api.MaxBlocks]bool

// whole tells whether a span is, by the words of chapter 1.
func whole(s api.Span) bool {
	const most = api.MaxBlocks
	return s.From >= 0 && s.From <= most && s.N >= 1 && s.N <= most && s.From+s.N <= most
}

// turn makes the blocks of the whole spans of l be in it, or not; how many it turned.
func (m *set) turn(in bool, l ...api.Span) int {
	n := 0
	for _, s := range l {
		for k := range m {
			if whole(s) && s.From <= k && k < s.From+s.N && m[k] != in {
				m[k] = in
				n++
			}
		}
	}
	return n
}

// spans tells a set as spans, as few as may be, rising.
func (m *set) spans() []api.Span {
	var l []api.Span
	for k, in := range m {
		switch {
		case !in:
		case k > 0 && m[k-1]:
			l[len(l)-1].N++
		default:
			l = append(l, sp(k, 1))
		}
	}
	return l
}

func (m *set) count() int {
	n := 0
	for _, in := range m {
		if in {
			n++
		}
	}
	return n
}

// next tells what is wanted of Next.
func (m *set) next(from int) (api.Span, bool) {
	for _, s := range m.spans() {
		for k := s.From; k < s.From+s.N; k++ {
			if k >= from {
				return sp(k, s.From+s.N-k), true
			}
		}
	}
	return api.Span{}, false
}

// sequence makes numbers that are the same ones in each run.
type sequence uint64

func (q *sequence) below(n int) int {
	*q = *q*6364136223846793005 + 1442695040888963407
	return int(uint64(*q) >> 33 % uint64(n))
}

// spanOf makes a span: mostly a short one, now and then a long one, or one that is not whole.
func (q *sequence) spanOf() api.Span {
	switch q.below(8) {
	case 0:
		broken := brokenSpans()
		return broken[q.below(len(broken))]
	case 1:
		from := q.below(api.MaxBlocks)
		return sp(from, 1+q.below(api.MaxBlocks-from))
	default:
		from := q.below(api.MaxBlocks)
		return sp(from, 1+q.below(min(4, api.MaxBlocks-from)))
	}
}

func (q *sequence) spansOf() []api.Span {
	var l []api.Span
	for range q.below(4) {
		l = append(l, q.spanOf())
	}
	return l
}

// brokenSpans tells spans that are not whole: each bound by one, and numbers that wrap round.
func brokenSpans() []api.Span {
	const most = api.MaxBlocks
	return []api.Span{
		{},
		sp(0, -1), sp(3, 0), sp(most, 0), sp(3, -3), sp(8, -4),
		sp(-1, 1), sp(-1, 2), sp(-1, most), sp(-5, 9),
		sp(most, 1), sp(most-1, 2), sp(1, most), sp(0, most+1), sp(most+1, 1), sp(most+1, -1),
		sp(0, math.MaxInt), sp(1, math.MaxInt), sp(math.MaxInt, 1), sp(math.MaxInt, math.MaxInt),
		sp(math.MinInt, 1), sp(math.MinInt, math.MinInt), sp(math.MinInt, math.MaxInt),
		sp(0, math.MinInt), sp(1, math.MinInt), sp(math.MaxInt, math.MinInt),
	}
}

// check holds all that a set tells by itself against its blocks.
func check(t *testing.T, what string, r *runs.Runs, m *set) {
	t.Helper()
	if got, want := r.All(), m.spans(); !slices.Equal(got, want) {
		t.Errorf("%s: All: %v, not %v", what, got, want)
	}
	if got := r.Count(); got != m.count() {
		t.Errorf("%s: Count: %d, not %d", what, got, m.count())
	}
	for k := -2; k < api.MaxBlocks+2; k++ {
		want := k >= 0 && k < api.MaxBlocks && m[k]
		if got := r.Has(k); got != want {
			t.Errorf("%s: Has(%d): %v", what, k, got)
		}
		checkNext(t, what, r, m, k)
	}
	for _, k := range []int{math.MinInt, math.MaxInt} {
		if r.Has(k) {
			t.Errorf("%s: Has(%d): true", what, k)
		}
		checkNext(t, what, r, m, k)
	}
}

func checkNext(t *testing.T, what string, r *runs.Runs, m *set, from int) {
	t.Helper()
	got, ok := r.Next(from)
	if want, is := m.next(from); got != want || ok != is {
		t.Errorf("%s: Next(%d): %v %v, not %v %v", what, from, got, ok, want, is)
	}
}

// checkAll asks All alone.
func checkAll(t *testing.T, what string, r *runs.Runs, want ...api.Span) {
	t.Helper()
	if got := r.All(); !slices.Equal(got, want) {
		t.Errorf("%s: All: %v, not %v", what, got, want)
	}
}

// checkCount asks what Put or Cut told.
func checkCount(t *testing.T, what string, got, want int) {
	t.Helper()
	if got != want {
		t.Errorf("%s: %d, not %d", what, got, want)
	}
}

// P201: the chapter's example.
func TestP201Example(t *testing.T) {
	r := runs.Of(sp(0, 2), sp(2, 3))
	checkAll(t, "Of", r, sp(0, 5))
	checkCount(t, "Cut", r.Cut(sp(1, 1)), 1)
	checkAll(t, "Cut", r, sp(0, 1), sp(2, 3))
}

// P201: every whole span put in and cut out of sets with gaps: meeting, touching, apart, and over several at once.
func TestP201EverySpan(t *testing.T) {
	const most = api.MaxBlocks
	starts := [][]api.Span{
		nil, {sp(0, most)}, {sp(0, 1), sp(most-1, 1)}, {sp(1, most-2)},
		{sp(3, 2), sp(6, 1), sp(8, 4), sp(20, 20), sp(50, 13)},
	}
	for _, start := range starts {
		for from := range most {
			for n := 1; from+n <= most; n++ {
				for _, in := range []bool{true, false} {
					checkTurn(t, start, in, sp(from, n))
				}
			}
		}
	}
}

func checkTurn(t *testing.T, start []api.Span, in bool, s api.Span) {
	t.Helper()
	var m set
	m.turn(true, start...)
	r := runs.Of(start...)
	want := m.turn(in, s)
	got, what := 0, "Cut"
	if in {
		got, what = r.Put(s), "Put"
	} else {
		got = r.Cut(s)
	}
	if got != want || !slices.Equal(r.All(), m.spans()) || r.Count() != m.count() {
		t.Fatalf("%v, %s(%v): %d %v, not %d %v", start, what, s, got, r.All(), want, m.spans())
	}
}

// P201: many calls one behind the other, of several spans each, some of them not whole; each copy stays as it was.
func TestP201ManyCalls(t *testing.T) {
	q := sequence(1)
	for round := range 60 {
		var r runs.Runs
		var m set
		check(t, "a zero one", &r, &m)
		for range 40 {
			l := q.spansOf()
			given := slices.Clone(l)
			old, was := r.Copy(), m
			if q.below(5) < 3 {
				checkCount(t, "Put", r.Put(l...), m.turn(true, l...))
			} else {
				checkCount(t, "Cut", r.Cut(l...), m.turn(false, l...))
			}
			if !slices.Equal(l, given) {
				t.Errorf("the list %v was turned to %v", given, l)
			}
			check(t, "the set", &r, &m)
			check(t, "its old copy", old, &was)
			if t.Failed() {
				t.Fatalf("in round %d, of %v", round, given)
			}
		}
	}
}

// P201: Of, Both and Same of two sets, from either side.
func TestP201Pairs(t *testing.T) {
	q := sequence(2)
	for range 2000 {
		la, lb := append(q.spansOf(), q.spansOf()...), append(q.spansOf(), q.spansOf()...)
		a, b := runs.Of(la...), runs.Of(lb...)
		var ma, mb, both set
		ma.turn(true, la...)
		mb.turn(true, lb...)
		for k := range both {
			both[k] = ma[k] && mb[k]
		}
		check(t, "Both", a.Both(b), &both)
		check(t, "Both, turned", b.Both(a), &both)
		check(t, "the first one", a, &ma)
		check(t, "the second one", b, &mb)
		if a.Same(b) != (ma == mb) || b.Same(a) != (ma == mb) {
			t.Errorf("Same of %v and %v: %v, %v", a.All(), b.All(), a.Same(b), b.Same(a))
		}
		if t.Failed() {
			t.Fatalf("of %v and %v", la, lb)
		}
	}
}

// P201: sets are alike by their blocks, however these came in.
func TestP201Same(t *testing.T) {
	a := runs.Of(sp(4, 2), sp(6, 3), sp(0, 1))
	b := runs.Of(sp(0, 9))
	b.Cut(sp(1, 3))
	if !a.Same(b) || !b.Same(a) || !a.Same(a) || !a.Same(a.Copy()) {
		t.Errorf("%v and %v are not the same", a.All(), b.All())
	}
	for _, o := range []*runs.Runs{runs.Of(sp(0, 1)), runs.Of(sp(0, 1), sp(4, 4)), runs.Of(sp(0, 1), sp(4, 5), sp(20, 1)), runs.Of(sp(1, 1), sp(4, 5)), {}, nil} {
		if a.Same(o) || o.Same(a) {
			t.Errorf("%v and %v are the same", a.All(), o.All())
		}
	}
}

// P201: spans that are not whole are nothing, alone and among others.
func TestP201BrokenSpans(t *testing.T) {
	for _, s := range brokenSpans() {
		r := runs.Of(s)
		checkAll(t, "Of", r)
		checkCount(t, "Put", r.Put(s, sp(7, 2), s), 2)
		checkAll(t, "Put", r, sp(7, 2))
		checkCount(t, "Put", r.Put(s), 0)
		checkCount(t, "Cut", r.Cut(s), 0)
		checkAll(t, "Cut", r, sp(7, 2))
		checkCount(t, "Cut", r.Cut(s, sp(8, 56), s), 1)
		checkAll(t, "Cut", r, sp(7, 1))
		if t.Failed() {
			t.Fatalf("of %v", s)
		}
	}
}

// P201: a block that several spans of one call have is told once.
func TestP201OneCall(t *testing.T) {
	var r runs.Runs
	checkCount(t, "Put", r.Put(sp(2, 4), sp(2, 4), sp(0, 8)), 8)
	checkCount(t, "Put", r.Put(sp(0, 8)), 0)
	checkCount(t, "Cut", r.Cut(sp(2, 4), sp(3, 1), sp(5, 2)), 5)
	checkAll(t, "Cut", &r, sp(0, 2), sp(7, 1))
	checkCount(t, "Put of none", r.Put(), 0)
	checkCount(t, "Cut of none", r.Cut(), 0)
	checkAll(t, "none", &r, sp(0, 2), sp(7, 1))
}

// P201: lists that were answered, and copies, go on by themselves.
func TestP201Own(t *testing.T) {
	r := runs.Of(sp(0, 2), sp(10, 5))
	want := []api.Span{sp(0, 2), sp(10, 5)}
	all := r.All()
	clear(all)
	checkAll(t, "a list was cleared", r, want...)
	kept := r.All()
	c, both := r.Copy(), r.Both(runs.Of(sp(0, 64)))
	r.Put(sp(2, 8))
	r.Cut(sp(12, 1))
	if !slices.Equal(kept, want) {
		t.Errorf("a list that was answered became %v", kept)
	}
	checkAll(t, "a copy of before", c, want...)
	checkAll(t, "a Both of before", both, want...)
	c.Put(sp(20, 1))
	both.Cut(sp(0, 64))
	checkAll(t, "its copies were turned", r, sp(0, 12), sp(13, 2))
	self := r.Both(r)
	self.Cut(sp(0, 5))
	checkAll(t, "its Both with itself was turned", r, sp(0, 12), sp(13, 2))
	l := []api.Span{sp(1, 1), sp(30, 2)}
	o := runs.Of(l...)
	clear(l)
	checkAll(t, "what was handed in was cleared", o, sp(1, 1), sp(30, 2))
}

// P201: a zero one is ready, and is as an empty one.
func TestP201Zero(t *testing.T) {
	var z runs.Runs
	var none set
	check(t, "zero", &z, &none)
	checkCount(t, "Cut", z.Cut(sp(0, 64)), 0)
	if !z.Same(runs.Of()) || !runs.Of().Same(&z) || z.Both(runs.Of(sp(0, 64))).Count() != 0 || z.Copy().Count() != 0 {
		t.Error("a zero one is not an empty one")
	}
	checkCount(t, "Put", z.Put(sp(63, 1)), 1)
	checkAll(t, "Put", &z, sp(63, 1))
}

// P201: a nil one is as an empty one, and its Copy and its Both are ready.
func TestP201Nil(t *testing.T) {
	var r *runs.Runs
	var none set
	checkCount(t, "Put", r.Put(sp(0, 4)), 0)
	checkCount(t, "Cut", r.Cut(sp(0, 4)), 0)
	check(t, "nil", r, &none)
	full := runs.Of(sp(0, api.MaxBlocks))
	if !r.Same(nil) || !r.Same(&runs.Runs{}) || !full.Both(nil).Same(r) || r.Same(full) || full.Same(r) {
		t.Error("Same of a nil one is not that of an empty one")
	}
	for what, n := range map[string]*runs.Runs{
		"Copy": r.Copy(), "Both": r.Both(full), "Both, turned": full.Both(r), "Both of two": r.Both(nil), "Of": runs.Of(),
	} {
		if n == nil {
			t.Fatalf("%s: nil", what)
		}
		check(t, what, n, &none)
		checkCount(t, what+", Put", n.Put(sp(1, 2)), 2)
		checkAll(t, what, n, sp(1, 2))
	}
}
