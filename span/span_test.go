package span_test

import (
	"math"
	"slices"
	"testing"

	"emulsion/api"
	"emulsion/span"
)

func sp(from, n int) api.Span { return api.Span{From: from, N: n} }

// wholeSpans tells all whole spans, by the words of the chapter.
func wholeSpans() []api.Span {
	var l []api.Span
	for from := 0; from <= api.MaxBlocks; from++ {
		for n := 1; n <= api.MaxBlocks && from+n <= api.MaxBlocks; n++ {
			l = append(l, sp(from, n))
		}
	}
	return l
}

// brokenSpans tells spans that are not whole: each bound by one, and numbers that wrap round.
func brokenSpans() []api.Span {
	const most = api.MaxBlocks
	return []api.Span{
		{},
		sp(0, -1), sp(3, 0), sp(most, 0), sp(3, -3),
		sp(-1, 1), sp(-1, 2), sp(-1, most), sp(-5, 9),
		sp(most, 1), sp(most-1, 2), sp(1, most), sp(0, most+1), sp(most+1, 1), sp(most+1, -1),
		sp(0, math.MaxInt), sp(1, math.MaxInt), sp(math.MaxInt, 1), sp(math.MaxInt, math.MaxInt),
		sp(math.MinInt, 1), sp(math.MinInt, math.MinInt), sp(math.MinInt, math.MaxInt),
		sp(0, math.MinInt), sp(1, math.MinInt), sp(math.MaxInt, math.MinInt),
	}
}

// set is a span's blocks one by one: what the calls are held against.
type set [api.MaxBlocks]bool

func setOf(l ...api.Span) set {
	var m set
	for _, s := range l {
		for k := s.From; k < s.From+s.N; k++ {
			m[k] = true
		}
	}
	return m
}

// spansOf tells a set as spans, as few as may be, rising.
func spansOf(m set) []api.Span {
	var l []api.Span
	for k, in := range m {
		switch {
		case !in:
		case k > 0 && m[k-1]:
			l[len(l)-1].N++
		default:
			l = append(l, sp(k, 1))
		}
	}
	return l
}

func and(a, b set) set {
	for k := range a {
		a[k] = a[k] && b[k]
	}
	return a
}

func or(a, b set) set {
	for k := range a {
		a[k] = a[k] || b[k]
	}
	return a
}

func without(a, b set) set {
	for k := range a {
		a[k] = a[k] && !b[k]
	}
	return a
}

// P101: Valid, End and Has of every span that is whole.
func TestP101WholeSpans(t *testing.T) {
	for _, s := range wholeSpans() {
		end := s.From + s.N
		if got := span.End(s); got != end {
			t.Errorf("End(%v): %d, not %d", s, got, end)
		}
		for _, blocks := range []int{math.MinInt, -1, 0, end - 1, end, end + 1, api.MaxBlocks, math.MaxInt} {
			if got := span.Valid(s, blocks); got != (end <= blocks) {
				t.Errorf("Valid(%v, %d): %v", s, blocks, got)
			}
		}
		m := setOf(s)
		for k := range m {
			if got := span.Has(s, k); got != m[k] {
				t.Errorf("Has(%v, %d): %v", s, k, got)
			}
		}
		for _, k := range []int{math.MinInt, -1, api.MaxBlocks, math.MaxInt} {
			if span.Has(s, k) {
				t.Errorf("Has(%v, %d): true", s, k)
			}
		}
	}
}

// P101: Meet, Touch, Join and Less of whole spans, each from several begins and of several lengths, with every other one.
func TestP101Pairs(t *testing.T) {
	all := wholeSpans()
	for i, a := range all {
		if i%7 != 0 && a.From != 0 && span.End(a) != api.MaxBlocks {
			continue
		}
		for _, b := range all {
			checkPair(t, a, b)
		}
		if t.Failed() {
			return
		}
	}
}

func checkPair(t *testing.T, a, b api.Span) {
	t.Helper()
	x, y := setOf(a), setOf(b)
	checkOne(t, "Meet", a, b, span.Meet, spansOf(and(x, y)))
	joined := spansOf(or(x, y))
	if len(joined) > 1 {
		joined = nil
	}
	checkOne(t, "Join", a, b, span.Join, joined)
	if got := span.Touch(a, b); got != (joined != nil) {
		t.Errorf("Touch(%v, %v): %v", a, b, got)
	}
	if got, want := span.Less(a, b), spansOf(without(x, y)); !slices.Equal(got, want) {
		t.Errorf("Less(%v, %v): %v, not %v", a, b, got, want)
	}
}

// checkOne holds a call that answers one span, or false, against the spans that are wanted: one, or none.
func checkOne(t *testing.T, name string, a, b api.Span, call func(a, b api.Span) (api.Span, bool), want []api.Span) {
	t.Helper()
	got, ok := call(a, b)
	var s api.Span
	if len(want) > 0 {
		s = want[0]
	}
	if got != s || ok != (len(want) > 0) {
		t.Errorf("%s(%v, %v): %v %v, not %v", name, a, b, got, ok, want)
	}
}

// P101: spans that are not whole have no blocks: false, none, 0.
func TestP101BrokenSpans(t *testing.T) {
	for _, s := range brokenSpans() {
		for _, blocks := range []int{math.MinInt, -1, 0, 1, api.MaxBlocks, math.MaxInt} {
			if span.Valid(s, blocks) {
				t.Errorf("Valid(%v, %d): true", s, blocks)
			}
		}
		if got := span.End(s); got != 0 {
			t.Errorf("End(%v): %d", s, got)
		}
		for _, k := range []int{math.MinInt, s.From - 1, s.From, s.From + 1, -1, 0, 1, api.MaxBlocks, math.MaxInt} {
			if span.Has(s, k) {
				t.Errorf("Has(%v, %d): true", s, k)
			}
		}
	}
}

// P101: with a span that is not whole nothing is met, touched or joined, and nothing is taken away by it.
func TestP101BrokenPairs(t *testing.T) {
	wholes := []api.Span{sp(0, 1), sp(0, api.MaxBlocks), sp(2, 6), sp(api.MaxBlocks-1, 1)}
	for _, s := range brokenSpans() {
		for _, w := range wholes {
			checkNothing(t, s, w)
			checkNothing(t, w, s)
			if got := span.Less(s, w); len(got) != 0 {
				t.Errorf("Less(%v, %v): %v", s, w, got)
			}
			if got := span.Less(w, s); !slices.Equal(got, []api.Span{w}) {
				t.Errorf("Less(%v, %v): %v", w, s, got)
			}
		}
		for _, o := range brokenSpans() {
			checkNothing(t, s, o)
			if got := span.Less(s, o); len(got) != 0 {
				t.Errorf("Less(%v, %v): %v", s, o, got)
			}
		}
	}
}

func checkNothing(t *testing.T, a, b api.Span) {
	t.Helper()
	checkOne(t, "Meet", a, b, span.Meet, nil)
	checkOne(t, "Join", a, b, span.Join, nil)
	if span.Touch(a, b) {
		t.Errorf("Touch(%v, %v): true", a, b)
	}
}

// P101: what Less answers is new each time.
func TestP101LessIsNew(t *testing.T) {
	for _, b := range []api.Span{sp(4, 2), sp(20, 2), {}} {
		first := span.Less(sp(2, 6), b)
		want := slices.Clone(first)
		clear(first)
		if got := span.Less(sp(2, 6), b); !slices.Equal(got, want) {
			t.Errorf("Less((2, 6), %v) after the first answer was cleared: %v, not %v", b, got, want)
		}
	}
}

// P101: the chapter's example, and the edges of two spans beside each other.
func TestP101Examples(t *testing.T) {
	less := []struct {
		a, b api.Span
		want []api.Span
	}{
		{sp(2, 6), sp(4, 2), []api.Span{sp(2, 2), sp(6, 2)}},
		{sp(2, 6), sp(2, 6), nil},
		{sp(2, 6), sp(8, 1), []api.Span{sp(2, 6)}},
		{sp(2, 6), sp(0, 3), []api.Span{sp(3, 5)}},
		{sp(2, 6), sp(7, 9), []api.Span{sp(2, 5)}},
	}
	for _, c := range less {
		if got := span.Less(c.a, c.b); !slices.Equal(got, c.want) {
			t.Errorf("Less(%v, %v): %v, not %v", c.a, c.b, got, c.want)
		}
	}
	checkOne(t, "Meet", sp(2, 6), sp(8, 2), span.Meet, nil)
	checkOne(t, "Join", sp(2, 6), sp(8, 2), span.Join, []api.Span{sp(2, 8)})
	checkOne(t, "Join", sp(8, 2), sp(2, 6), span.Join, []api.Span{sp(2, 8)})
	checkOne(t, "Join", sp(2, 6), sp(9, 2), span.Join, nil)
}

// P102: all places and lengths that a volume has.
func TestP102AllBytes(t *testing.T) {
	const bytes = api.MaxBlocks * api.BlockSize
	for at := range bytes {
		for n := 1; at+n <= bytes; n++ {
			got, ok := span.Blocks(at, n)
			if want := blocksOf(at, n); got != want || !ok {
				t.Fatalf("Blocks(%d, %d): %v %v, not %v", at, n, got, ok, want)
			}
		}
	}
}

// blocksOf asks each block whether it has one of the bytes.
func blocksOf(at, n int) api.Span {
	var m set
	for k := range m {
		m[k] = k*api.BlockSize < at+n && at < (k+1)*api.BlockSize
	}
	return spansOf(m)[0]
}

// P102: the chapter's example, and both ends of a block and of a volume.
func TestP102Examples(t *testing.T) {
	for _, c := range []struct {
		at, n int
		want  api.Span
	}{
		{7, 2, sp(0, 2)}, {0, 1, sp(0, 1)}, {0, 8, sp(0, 1)}, {0, 9, sp(0, 2)}, {8, 8, sp(1, 1)},
		{7, 10, sp(0, 3)}, {511, 1, sp(63, 1)}, {0, 512, sp(0, 64)},
	} {
		if got, ok := span.Blocks(c.at, c.n); got != c.want || !ok {
			t.Errorf("Blocks(%d, %d): %v %v, not %v", c.at, c.n, got, ok, c.want)
		}
	}
}

// P102: bytes that no volume has.
func TestP102Wrong(t *testing.T) {
	const bytes = api.MaxBlocks * api.BlockSize
	for _, c := range [][2]int{
		{-1, 1}, {-1, 2}, {-8, 16}, {math.MinInt, 1}, {math.MinInt, math.MinInt}, {math.MinInt, math.MaxInt},
		{0, 0}, {3, 0}, {3, -1}, {bytes, 0}, {0, math.MinInt}, {1, math.MinInt}, {math.MaxInt, math.MinInt},
		{0, bytes + 1}, {1, bytes}, {bytes - 1, 2}, {bytes, 1}, {bytes + 1, 1}, {bytes + 1, -1},
		{0, math.MaxInt}, {1, math.MaxInt}, {math.MaxInt, 1}, {math.MaxInt, math.MaxInt},
	} {
		if got, ok := span.Blocks(c[0], c[1]); ok || got != (api.Span{}) {
			t.Errorf("Blocks(%d, %d): %v %v", c[0], c[1], got, ok)
		}
	}
}
