package extent_test

import (
	"math"
	"slices"
	"testing"

	"emulsion/api"
	"emulsion/extent"
)

const (
	most    = api.MaxBlocks
	nothing = -1
)

func ex(from, n, id int) api.Extent { return api.Extent{From: from, N: n, Id: id} }

func sp(from, n int) api.Span { return api.Span{From: from, N: n} }

// says is a map block by block, the Id of each one, or nothing: what the calls are held against.
type says [most]int

// of makes one of a list, extent by extent; those that are not tidy by themselves are nothing.
func of(l ...api.Extent) says {
	var m says
	for k := range m {
		m[k] = nothing
	}
	for _, x := range l {
		m.set(x)
	}
	return m
}

func (m *says) set(x api.Extent) {
	if !tidyAlone(x) {
		return
	}
	for i := range x.N {
		m[x.From+i] = 0
		if x.Id != 0 {
			m[x.From+i] = x.Id + i
		}
	}
}

func (m *says) cut(s api.Span) {
	if !whole(s) {
		return
	}
	for i := range s.N {
		m[s.From+i] = nothing
	}
}

// over has what o says, and what m says where o says nothing.
func (m says) over(o says) says {
	for k, id := range o {
		if id != nothing {
			m[k] = id
		}
	}
	return m
}

// list tells it as the tidy map, which is the only one that says just this.
func (m *says) list() []api.Extent {
	var l []api.Extent
	for k, id := range m {
		switch {
		case id == nothing:
		case k > 0 && id == 0 && m[k-1] == 0, k > 0 && id > 0 && m[k-1] > 0 && id == m[k-1]+1:
			l[len(l)-1].N++
		default:
			l = append(l, ex(k, 1, id))
		}
	}
	return l
}

func (m *says) spans() []api.Span {
	var l []api.Span
	for k, id := range m {
		switch {
		case id == nothing:
		case k > 0 && m[k-1] != nothing:
			l[len(l)-1].N++
		default:
			l = append(l, sp(k, 1))
		}
	}
	return l
}

func (m *says) ids() []int {
	var l []int
	for _, id := range m {
		if id > 0 {
			l = append(l, id)
		}
	}
	return l
}

// whole tells whether a span is, by the words of chapter 1.
func whole(s api.Span) bool {
	return s.From >= 0 && s.From <= most && s.N >= 1 && s.N <= most && s.From+s.N <= most
}

// tidyAlone tells whether an extent is tidy by itself, by the words of the chapter.
func tidyAlone(x api.Extent) bool {
	if !whole(sp(x.From, x.N)) {
		return false
	}
	return x.Id == 0 || x.Id >= 1 && x.Id <= api.MaxPool && x.Id+x.N <= api.MaxPool+1
}

// valid tells what is wanted of Valid, by the words of the chapter.
func valid(l []api.Extent, blocks int) bool {
	for _, x := range l {
		if !tidyAlone(x) || x.From+x.N > blocks {
			return false
		}
	}
	for i := 1; i < len(l); i++ {
		a, b := l[i-1], l[i]
		if a.From >= b.From || a.From+a.N > b.From {
			return false
		}
		zeros := a.Id == 0 && b.Id == 0
		on := a.Id > 0 && b.Id > 0 && b.Id == a.Id+a.N
		if a.From+a.N == b.From && (zeros || on) {
			return false
		}
	}
	return true
}

// sequence makes numbers that are the same ones in each run.
type sequence uint64

func (q *sequence) below(n int) int {
	*q = *q*6364136223846793005 + 1442695040888963407
	return int(uint64(*q) >> 33 % uint64(n))
}

// extentOf makes an extent: mostly a short one, now and then a long one, or one that is not tidy by itself.
func (q *sequence) extentOf() api.Extent {
	longest := 4
	switch q.below(10) {
	case 0:
		l := untidy()
		return l[q.below(len(l))]
	case 1:
		longest = most
	}
	from := q.below(most)
	n := 1 + q.below(min(longest, most-from))
	if n > api.MaxPool || q.below(3) == 0 {
		return ex(from, n, 0)
	}
	// Ids that hang on From come together often.
	if id := from - 5; q.below(2) == 0 && id >= 1 && id+n <= api.MaxPool+1 {
		return ex(from, n, id)
	}
	return ex(from, n, 1+q.below(api.MaxPool+1-n))
}

func (q *sequence) listOf(most int) []api.Extent {
	var l []api.Extent
	for range q.below(most + 1) {
		l = append(l, q.extentOf())
	}
	return l
}

func (q *sequence) spanOf() api.Span {
	l := broken()
	if q.below(10) == 0 {
		return l[q.below(len(l))]
	}
	x := q.extentOf()
	return sp(x.From, x.N)
}

// broken has spans that are not whole: each bound by one, and numbers that wrap round.
func broken() []api.Span {
	return []api.Span{
		{},
		sp(0, -1), sp(3, 0), sp(most, 0), sp(3, -3), sp(8, -4),
		sp(-1, 1), sp(-1, 2), sp(-1, most), sp(-5, 9),
		sp(most, 1), sp(most-1, 2), sp(1, most), sp(0, most+1), sp(most+1, 1), sp(most+1, -1),
		sp(0, math.MaxInt), sp(1, math.MaxInt), sp(math.MaxInt, 1), sp(math.MaxInt, math.MaxInt),
		sp(math.MinInt, 1), sp(math.MinInt, math.MinInt), sp(math.MinInt, math.MaxInt),
		sp(0, math.MinInt), sp(1, math.MinInt), sp(math.MaxInt, math.MinInt),
	}
}

// untidy has extents that are not tidy by themselves.
func untidy() []api.Extent {
	var l []api.Extent
	for _, s := range broken() {
		l = append(l, ex(s.From, s.N, 0), ex(s.From, s.N, 1))
	}
	const pool = api.MaxPool
	return append(l,
		ex(3, 1, -1), ex(3, 2, -1), ex(3, 4, -2), ex(3, 1, math.MinInt), ex(3, most-3, math.MinInt),
		ex(3, 1, pool+1), ex(3, 1, pool+2), ex(3, 2, pool), ex(0, pool, 2), ex(0, pool+1, 1), ex(0, most, 1),
		ex(3, 1, math.MaxInt), ex(3, 2, math.MaxInt), ex(0, most, math.MaxInt), ex(3, 30, 32),
	)
}

// maps has tidy maps: with gaps, with extents that touch and are not one, at both ends, of all blocks, of none.
func maps() [][]api.Extent {
	return [][]api.Extent{
		nil,
		{},
		{ex(0, most, 0)},
		{ex(0, 4, 1)},
		{ex(0, 4, 0)},
		{ex(0, 1, 60), ex(most-1, 1, 60)},
		{ex(most-1, 1, 0)},
		{ex(0, 4, 1), ex(4, 2, 0), ex(9, 3, 20)},
		{ex(3, 2, 10), ex(5, 2, 10), ex(7, 2, 13), ex(9, 2, 14), ex(11, 2, 0), ex(13, 2, 2)},
		{ex(2, 2, 0), ex(5, 3, 7), ex(8, 3, 0), ex(11, 1, 8), ex(20, 20, 30), ex(41, 20, 10), ex(63, 1, 3)},
		{ex(0, 60, 1), ex(60, 4, 1)},
		{ex(0, 32, 1), ex(32, 3, 0), ex(35, 29, 32)},
	}
}

// guard is what stands behind a list in its memory.
var guard = ex(7, 7, 7)

// guarded lays a list in memory that goes on behind it.
func guarded(l []api.Extent) []api.Extent {
	memory := slices.Repeat([]api.Extent{guard}, len(l)+8)
	copy(memory, l)
	return memory[:len(l)]
}

// checkGuarded tells whether a list is as it was, and what stands behind it.
func checkGuarded(t *testing.T, what string, l, was []api.Extent) {
	t.Helper()
	if !slices.Equal(l, was) {
		t.Errorf("%s: the list %v was turned to %v", what, was, l)
	}
	for _, x := range l[len(l):cap(l)] {
		if x != guard {
			t.Errorf("%s: behind the list %v there is %v", what, was, x)
		}
	}
}

// checkList holds a map against what is wanted, and then clears it, which may change nothing else.
func checkList(t *testing.T, what string, got []api.Extent, want says) {
	t.Helper()
	if !slices.Equal(got, want.list()) || !extent.Valid(got, most) {
		t.Fatalf("%s: %v, not %v", what, got, want.list())
	}
	spoil(got)
}

// spoil writes into a list that was answered, and into all memory behind it.
func spoil(l []api.Extent) {
	l = l[:cap(l)]
	for i := range l {
		l[i] = ex(-9, -9, -9)
	}
}

// check asks everything of a map.
func check(t *testing.T, what string, l []api.Extent) {
	t.Helper()
	m, given := of(l...), guarded(l)
	for k := -2; k < most+2; k++ {
		checkFind(t, what, given, &m, k)
	}
	for _, k := range []int{math.MinInt, math.MaxInt} {
		checkFind(t, what, given, &m, k)
	}
	spans, ids := extent.Spans(given), extent.Ids(given)
	if !slices.Equal(spans, m.spans()) {
		t.Fatalf("%s: Spans(%v): %v, not %v", what, l, spans, m.spans())
	}
	if !slices.Equal(ids, m.ids()) {
		t.Fatalf("%s: Ids(%v): %v, not %v", what, l, ids, m.ids())
	}
	clear(spans)
	clear(ids)
	if !slices.Equal(extent.Spans(given), m.spans()) || !slices.Equal(extent.Ids(given), m.ids()) {
		t.Fatalf("%s: Spans and Ids of %v are not new each time", what, l)
	}
	for _, blocks := range []int{math.MinInt, -1, 0, 1, end(l) - 1, end(l), end(l) + 1, most, most + 1, math.MaxInt} {
		checkValid(t, what, given, blocks)
	}
	checkList(t, what+": Tidy", extent.Tidy(given), m)
	checkGuarded(t, what, given, l)
}

// end tells where a map ends.
func end(l []api.Extent) int {
	if len(l) == 0 {
		return 0
	}
	x := l[len(l)-1]
	return x.From + x.N
}

func checkFind(t *testing.T, what string, l []api.Extent, m *says, k int) {
	t.Helper()
	id, is := 0, false
	if k >= 0 && k < most && m[k] != nothing {
		id, is = m[k], true
	}
	if got, ok := extent.Find(l, k); got != id || ok != is {
		t.Fatalf("%s: Find(%v, %d): %d %v, not %d %v", what, l, k, got, ok, id, is)
	}
}

func checkValid(t *testing.T, what string, l []api.Extent, blocks int) {
	t.Helper()
	if got := extent.Valid(l, blocks); got != valid(l, blocks) {
		t.Errorf("%s: Valid(%v, %d): %v", what, l, blocks, got)
	}
}

// checkSet holds Set of a map and an extent against the map block by block.
func checkSet(t *testing.T, l []api.Extent, x api.Extent) {
	t.Helper()
	given, want := guarded(l), of(l...)
	want.set(x)
	checkList(t, "Set", extent.Set(given, x), want)
	checkGuarded(t, "Set", given, l)
	if t.Failed() {
		t.Fatalf("Set(%v, %v)", l, x)
	}
}

func checkCut(t *testing.T, l []api.Extent, s api.Span) {
	t.Helper()
	given, want := guarded(l), of(l...)
	want.cut(s)
	checkList(t, "Cut", extent.Cut(given, s), want)
	checkGuarded(t, "Cut", given, l)
	if t.Failed() {
		t.Fatalf("Cut(%v, %v)", l, s)
	}
}

func checkOver(t *testing.T, a, b []api.Extent) {
	t.Helper()
	x, y := guarded(a), guarded(b)
	checkList(t, "Over", extent.Over(x, y), of(a...).over(of(b...)))
	checkGuarded(t, "Over", x, a)
	checkGuarded(t, "Over", y, b)
	if t.Failed() {
		t.Fatalf("Over(%v, %v)", a, b)
	}
}

func checkTidy(t *testing.T, l []api.Extent) {
	t.Helper()
	given := guarded(l)
	checkList(t, "Tidy", extent.Tidy(given), of(l...))
	checkGuarded(t, "Tidy", given, l)
	if t.Failed() {
		t.Fatalf("Tidy(%v)", l)
	}
}

// P1001: the chapter's example.
func TestP1001Example(t *testing.T) {
	got := extent.Set([]api.Extent{ex(0, 4, 1)}, ex(1, 2, 0))
	if want := []api.Extent{ex(0, 1, 1), ex(1, 2, 0), ex(3, 1, 4)}; !slices.Equal(got, want) {
		t.Errorf("Set: %v, not %v", got, want)
	}
}

// P1001: Valid of each fault that the words name, and of what is just none.
func TestP1001Valid(t *testing.T) {
	for _, c := range []struct {
		what string
		want bool
		l    []api.Extent
	}{
		{"none", true, nil},
		{"rising, apart", true, []api.Extent{ex(0, 2, 0), ex(3, 2, 0), ex(7, 1, 3), ex(9, 1, 4)}},
		{"not rising", false, []api.Extent{ex(3, 2, 5), ex(0, 2, 9)}},
		{"not rising, at last", false, []api.Extent{ex(0, 1, 5), ex(8, 2, 9), ex(3, 2, 0)}},
		{"twice the same one", false, []api.Extent{ex(3, 2, 5), ex(3, 2, 5)}},
		{"over one another", false, []api.Extent{ex(0, 3, 5), ex(2, 2, 20)}},
		{"within one another", false, []api.Extent{ex(0, 5, 5), ex(2, 1, 20)}},
		{"over one another, of zeros", false, []api.Extent{ex(0, 3, 0), ex(2, 2, 0)}},
		{"over one another, with their Ids", false, []api.Extent{ex(0, 3, 5), ex(2, 2, 7)}},
		{"from one block on", false, []api.Extent{ex(2, 1, 5), ex(2, 2, 20)}},
		{"no blocks", false, []api.Extent{ex(0, 1, 5), ex(4, 0, 9)}},
		{"no blocks, of zeros", false, []api.Extent{ex(4, 0, 0)}},
		{"From below 0", false, []api.Extent{ex(-1, 2, 5)}},
		{"Id below 0", false, []api.Extent{ex(0, 1, -1)}},
		{"Id below 0, ending above it", false, []api.Extent{ex(0, 4, -2)}},
		{"Id and N at MaxPool and 1", true, []api.Extent{ex(0, 1, api.MaxPool), ex(4, api.MaxPool, 1)}},
		{"Id and N above MaxPool and 1", false, []api.Extent{ex(0, 1, api.MaxPool+1)}},
		{"Id and N above it by N", false, []api.Extent{ex(0, api.MaxPool+1, 1)}},
		{"all blocks, of zeros", true, []api.Extent{ex(0, most, 0)}},
		{"touching, both of zeros", false, []api.Extent{ex(0, 2, 0), ex(2, 2, 0)}},
		{"touching, one Id going on", false, []api.Extent{ex(0, 2, 5), ex(2, 2, 7)}},
		{"touching, one Id going on at last", false, []api.Extent{ex(0, 2, 0), ex(2, 2, 7), ex(4, 1, 9)}},
		{"touching, the Id a hole", true, []api.Extent{ex(0, 2, 5), ex(2, 2, 8)}},
		{"touching, the same Id", true, []api.Extent{ex(0, 2, 5), ex(2, 2, 5)}},
		{"touching, the Id below", true, []api.Extent{ex(0, 2, 5), ex(2, 2, 6), ex(4, 1, 1)}},
		{"touching, zeros behind", true, []api.Extent{ex(0, 2, 5), ex(2, 2, 0)}},
		{"touching, zeros ahead", true, []api.Extent{ex(0, 2, 0), ex(2, 2, 2)}},
		{"touching, zeros ahead, Id as N", true, []api.Extent{ex(0, 3, 0), ex(3, 1, 3), ex(4, 1, 0)}},
	} {
		if got := extent.Valid(c.l, most); got != c.want {
			t.Errorf("%s: Valid(%v): %v", c.what, c.l, got)
		}
		for _, blocks := range []int{math.MinInt, -1, 0, end(c.l) - 1, end(c.l), most + 1, math.MaxInt} {
			checkValid(t, c.what, c.l, blocks)
		}
	}
	for _, blocks := range []int{math.MinInt, -1, 0, 1, most, math.MaxInt} {
		if !extent.Valid(nil, blocks) || !extent.Valid([]api.Extent{}, blocks) {
			t.Errorf("Valid of an empty one, %d: false", blocks)
		}
	}
}

// P1001: an extent that is not tidy by itself, alone, ahead of and behind others.
func TestP1001ValidUntidy(t *testing.T) {
	for _, x := range untidy() {
		for _, l := range [][]api.Extent{{x}, {x, ex(40, 1, 1)}, {ex(0, 1, 9), x}, {ex(0, 1, 9), x, ex(50, 2, 0)}} {
			for _, blocks := range []int{math.MinInt, 0, most, most + 1, math.MaxInt} {
				if extent.Valid(l, blocks) {
					t.Errorf("Valid(%v, %d): true", l, blocks)
				}
			}
		}
	}
}

// P1001: Valid of any two extents of a few blocks.
func TestP1001ValidPairs(t *testing.T) {
	var all []api.Extent
	for from := -1; from <= 5; from++ {
		for n := 0; n <= 3; n++ {
			for _, id := range []int{-1, 0, 1, 2, 3, 4, 57, 58, 59, 60, 61} {
				all = append(all, ex(from, n, id))
			}
		}
	}
	for _, a := range all {
		for _, b := range all {
			l := []api.Extent{a, b}
			checkValid(t, "a pair", l, 6)
			checkValid(t, "a pair", l, most)
		}
		if t.Failed() {
			return
		}
	}
}

// P1001, P1002: Valid, Find, Spans, Ids and Tidy of maps of each kind.
func TestP1001Maps(t *testing.T) {
	for _, l := range maps() {
		if !extent.Valid(l, most) {
			t.Fatalf("Valid(%v): false", l)
		}
		check(t, "a map", l)
	}
}

// P1001: Find at the edges, by their numbers.
func TestP1001Find(t *testing.T) {
	l := []api.Extent{ex(0, 4, 1), ex(4, 2, 0), ex(9, 3, 20), ex(62, 2, 59)}
	for _, c := range []struct {
		k, id int
		is    bool
	}{
		{0, 1, true}, {3, 4, true}, {4, 0, true}, {5, 0, true}, {6, 0, false}, {8, 0, false},
		{9, 20, true}, {11, 22, true}, {12, 0, false}, {61, 0, false}, {62, 59, true}, {63, 60, true},
		{-1, 0, false}, {64, 0, false}, {65, 0, false}, {math.MinInt, 0, false}, {math.MaxInt, 0, false},
	} {
		if id, is := extent.Find(l, c.k); id != c.id || is != c.is {
			t.Errorf("Find(%d): %d %v, not %d %v", c.k, id, is, c.id, c.is)
		}
		if id, is := extent.Find(nil, c.k); id != 0 || is {
			t.Errorf("Find of none, %d: %d %v", c.k, id, is)
		}
	}
}

// P1001: Set and Cut of every whole span in each map: within an extent, over its ends, over several, over none, beside one.
func TestP1001EverySpan(t *testing.T) {
	for _, l := range maps() {
		m := of(l...)
		for from := range most {
			for n := 1; from+n <= most; n++ {
				checkCut(t, l, sp(from, n))
				for _, id := range idsFor(&m, from, n) {
					checkSet(t, l, ex(from, n, id))
				}
			}
		}
	}
}

// idsFor tells the Ids that may matter for a span: zeros, the bounds, and those that come together with its neighbours, nearly too.
func idsFor(m *says, from, n int) []int {
	l := []int{0, 1, 2, api.MaxPool + 1 - n}
	if from > 0 {
		l = append(l, m[from-1], m[from-1]+1, m[from-1]+2)
	}
	if from+n < most {
		l = append(l, m[from+n]-n, m[from+n]-n-1, m[from+n]-n+1)
	}
	l = slices.DeleteFunc(l, func(id int) bool { return !tidyAlone(ex(from, n, id)) })
	slices.Sort(l)
	return slices.Compact(l)
}

// P1001: Set where it comes together with one or two others, by its numbers.
func TestP1001SetTogether(t *testing.T) {
	for _, c := range []struct {
		what string
		l    []api.Extent
		x    api.Extent
		want []api.Extent
	}{
		{"in none", nil, ex(4, 2, 6), []api.Extent{ex(4, 2, 6)}},
		{"as it is", []api.Extent{ex(0, 4, 1)}, ex(1, 2, 2), []api.Extent{ex(0, 4, 1)}},
		{"behind one", []api.Extent{ex(0, 4, 1)}, ex(4, 2, 5), []api.Extent{ex(0, 6, 1)}},
		{"ahead of one", []api.Extent{ex(4, 4, 5)}, ex(2, 2, 3), []api.Extent{ex(2, 6, 3)}},
		{"between two", []api.Extent{ex(0, 2, 1), ex(4, 2, 5)}, ex(2, 2, 3), []api.Extent{ex(0, 6, 1)}},
		{"between two, with the first one", []api.Extent{ex(0, 2, 1), ex(4, 2, 6)}, ex(2, 2, 3), []api.Extent{ex(0, 4, 1), ex(4, 2, 6)}},
		{"between two, with the last one", []api.Extent{ex(0, 2, 9), ex(4, 2, 5)}, ex(2, 2, 3), []api.Extent{ex(0, 2, 9), ex(2, 4, 3)}},
		{"between two, with none", []api.Extent{ex(0, 2, 9), ex(4, 2, 9)}, ex(2, 2, 3), []api.Extent{ex(0, 2, 9), ex(2, 2, 3), ex(4, 2, 9)}},
		{"between two of zeros", []api.Extent{ex(0, 2, 0), ex(4, 2, 0)}, ex(2, 2, 0), []api.Extent{ex(0, 6, 0)}},
		{"with what it leaves of two", []api.Extent{ex(0, 3, 1), ex(3, 3, 10)}, ex(2, 2, 0), []api.Extent{ex(0, 2, 1), ex(2, 2, 0), ex(4, 2, 11)}},
		{"over its end, going on", []api.Extent{ex(0, 4, 1)}, ex(3, 3, 4), []api.Extent{ex(0, 6, 1)}},
		{"over its beginning, going on", []api.Extent{ex(4, 4, 5)}, ex(2, 3, 3), []api.Extent{ex(2, 6, 3)}},
		{"over several", []api.Extent{ex(0, 2, 1), ex(3, 2, 0), ex(6, 2, 20)}, ex(1, 6, 2), []api.Extent{ex(0, 7, 1), ex(7, 1, 21)}},
		{"over all", []api.Extent{ex(0, 2, 1), ex(3, 2, 0), ex(6, 2, 7)}, ex(0, 64, 0), []api.Extent{ex(0, 64, 0)}},
		{"zeros in zeros", []api.Extent{ex(0, 9, 0)}, ex(2, 2, 0), []api.Extent{ex(0, 9, 0)}},
		{"zeros and an Id", []api.Extent{ex(0, 2, 0)}, ex(2, 2, 2), []api.Extent{ex(0, 2, 0), ex(2, 2, 2)}},
		{"an Id and zeros", []api.Extent{ex(2, 1, 2)}, ex(0, 2, 0), []api.Extent{ex(0, 2, 0), ex(2, 1, 2)}},
	} {
		if got := extent.Set(c.l, c.x); !slices.Equal(got, c.want) {
			t.Errorf("%s: Set(%v, %v): %v, not %v", c.what, c.l, c.x, got, c.want)
		}
	}
}

// P1001: Set of what is not tidy by itself, and Cut of what is not whole, tell the map as it is, in memory of its own.
func TestP1001NotTidy(t *testing.T) {
	for _, l := range maps() {
		for _, x := range untidy() {
			checkSet(t, l, x)
		}
		for _, s := range broken() {
			checkCut(t, l, s)
		}
	}
}

// P1001: Over with each map on either side, itself, too.
func TestP1001Over(t *testing.T) {
	for _, a := range maps() {
		for _, b := range maps() {
			checkOver(t, a, b)
		}
	}
	for _, a := range maps() {
		got := extent.Over(a, a)
		if !slices.Equal(got, a) {
			t.Errorf("Over(%v, itself): %v", a, got)
		}
		everywhere := []api.Extent{ex(0, 32, 9), ex(32, 32, 9)}
		if got := extent.Over(a, everywhere); !slices.Equal(got, everywhere) {
			t.Errorf("Over(%v, %v): %v", a, everywhere, got)
		}
	}
	two, one := []api.Extent{ex(0, 4, 1), ex(4, 2, 0), ex(9, 3, 20)}, []api.Extent{ex(2, 8, 30)}
	if got, want := extent.Over(two, one), []api.Extent{ex(0, 2, 1), ex(2, 8, 30), ex(10, 2, 21)}; !slices.Equal(got, want) {
		t.Errorf("Over(%v, %v): %v, not %v", two, one, got, want)
	}
	if got, want := extent.Over(one, two), []api.Extent{ex(0, 4, 1), ex(4, 2, 0), ex(6, 3, 34), ex(9, 3, 20)}; !slices.Equal(got, want) {
		t.Errorf("Over(%v, %v): %v, not %v", one, two, got, want)
	}
}

// P1001: Over of one map from both sides at once, one list or two in one memory.
func TestP1001OverShared(t *testing.T) {
	memory := []api.Extent{ex(0, 2, 5), ex(4, 2, 0), ex(6, 2, 1), ex(10, 1, 3)}
	was := slices.Clone(memory)
	checkList(t, "Over of itself", extent.Over(memory[:2], memory[:2]), of(was[:2]...))
	checkList(t, "Over of a piece", extent.Over(memory[:1], memory[:3]), of(was[:3]...))
	checkList(t, "Over of what is behind", extent.Over(memory[:2], memory[2:]), of(was...))
	if !slices.Equal(memory, was) {
		t.Errorf("the lists %v were turned to %v", was, memory)
	}
}

// P1001, P1002: many calls one behind the other; behind each of them everything is asked.
func TestP1001ManyCalls(t *testing.T) {
	q := sequence(1)
	for range 60 {
		var l []api.Extent
		m := of()
		for range 40 {
			var got []api.Extent
			switch given := slices.Clone(l); q.below(4) {
			case 0:
				s := q.spanOf()
				got = extent.Cut(given, s)
				m.cut(s)
			case 1:
				b := extent.Tidy(q.listOf(5))
				got = extent.Over(given, b)
				m = m.over(of(b...))
			default:
				x := q.extentOf()
				got = extent.Set(given, x)
				m.set(x)
			}
			l = slices.Clone(got)
			checkList(t, "behind a call", got, m)
			check(t, "behind a call", l)
		}
	}
}

// P1002: Spans and Ids at the edges, by their numbers.
func TestP1002SpansIds(t *testing.T) {
	for _, c := range []struct {
		l     []api.Extent
		spans []api.Span
		ids   []int
	}{
		{nil, nil, nil},
		{[]api.Extent{ex(3, 2, 0)}, []api.Span{sp(3, 2)}, nil},
		{[]api.Extent{ex(0, 4, 1), ex(4, 2, 0), ex(9, 3, 20)}, []api.Span{sp(0, 6), sp(9, 3)}, []int{1, 2, 3, 4, 20, 21, 22}},
		{[]api.Extent{ex(1, 2, 30), ex(3, 2, 29), ex(5, 1, 30), ex(7, 1, 2)}, []api.Span{sp(1, 5), sp(7, 1)}, []int{30, 31, 29, 30, 30, 2}},
		{[]api.Extent{ex(0, 60, 1), ex(60, 4, 0)}, []api.Span{sp(0, 64)}, upTo(60)},
	} {
		if got := extent.Spans(c.l); !slices.Equal(got, c.spans) {
			t.Errorf("Spans(%v): %v, not %v", c.l, got, c.spans)
		}
		if got := extent.Ids(c.l); !slices.Equal(got, c.ids) {
			t.Errorf("Ids(%v): %v, not %v", c.l, got, c.ids)
		}
	}
}

func upTo(n int) []int {
	var l []int
	for i := range n {
		l = append(l, i+1)
	}
	return l
}

// P1002: Tidy of lists by their numbers: none, in disorder, over one another, not tidy by themselves.
func TestP1002Tidy(t *testing.T) {
	for _, c := range []struct {
		l, want []api.Extent
	}{
		{nil, nil},
		{[]api.Extent{ex(9, 0, 1), ex(-1, 2, 2), ex(3, 1, 61)}, nil},
		{[]api.Extent{ex(4, 2, 5), ex(0, 4, 1), ex(9, 0, 1), ex(2, 1, 0), ex(-1, 2, 2), ex(50, 10, 55)}, []api.Extent{ex(0, 2, 1), ex(2, 1, 0), ex(3, 3, 4)}},
		{[]api.Extent{ex(0, 1, 0), ex(1, 1, 0), ex(0, 1, 4)}, []api.Extent{ex(0, 1, 4), ex(1, 1, 0)}},
		{[]api.Extent{ex(5, 1, 6), ex(3, 1, 4), ex(4, 1, 5), ex(2, 1, 3)}, []api.Extent{ex(2, 4, 3)}},
		{[]api.Extent{ex(2, 4, 3), ex(2, 4, 9), ex(2, 4, 3)}, []api.Extent{ex(2, 4, 3)}},
		{[]api.Extent{ex(2, 4, 3), ex(0, 64, 0), ex(63, 1, 60)}, []api.Extent{ex(0, 63, 0), ex(63, 1, 60)}},
	} {
		if got := extent.Tidy(c.l); !slices.Equal(got, c.want) {
			t.Errorf("Tidy(%v): %v, not %v", c.l, got, c.want)
		}
	}
	for _, x := range untidy() {
		checkTidy(t, []api.Extent{x})
		checkTidy(t, []api.Extent{ex(0, 4, 1), x, ex(4, 1, 5), x, ex(2, 1, 0)})
	}
}

// P1002: Tidy of any lists, some of them long.
func TestP1002TidyAny(t *testing.T) {
	q := sequence(2)
	for range 2000 {
		checkTidy(t, q.listOf(12))
	}
	checkTidy(t, append(q.listOf(3), untidy()...))
	var long []api.Extent
	for range 20_000 {
		long = append(long, q.extentOf())
	}
	checkTidy(t, long)
}

// P1001, P1002: a map that is answered is new each time.
func TestP1001Own(t *testing.T) {
	for _, l := range maps() {
		for what, call := range map[string]func() []api.Extent{
			"Set":              func() []api.Extent { return extent.Set(l, ex(1, 2, 7)) },
			"Set, as it is":    func() []api.Extent { return extent.Set(l, ex(1, 0, 7)) },
			"Cut":              func() []api.Extent { return extent.Cut(l, sp(1, 2)) },
			"Cut, as it is":    func() []api.Extent { return extent.Cut(l, sp(1, 0)) },
			"Over none":        func() []api.Extent { return extent.Over(nil, l) },
			"Over, none on it": func() []api.Extent { return extent.Over(l, nil) },
			"Tidy":             func() []api.Extent { return extent.Tidy(l) },
		} {
			was, first := slices.Clone(l), call()
			want := slices.Clone(first)
			second := call()
			spoil(first)
			if !slices.Equal(l, was) || !slices.Equal(second, want) || !slices.Equal(call(), want) {
				t.Errorf("%s of %v: an answer that was cleared changed another list", what, was)
			}
		}
	}
}

// The rules of the document: whatever list is handed in, each call comes to an end and turns nothing.
func TestAnyListEnds(t *testing.T) {
	q := sequence(3)
	lists := [][]api.Extent{untidy(), {ex(0, math.MaxInt, 1)}, {ex(1, math.MaxInt, math.MaxInt), ex(math.MinInt, 1, 1)}}
	for range 300 {
		lists = append(lists, q.listOf(9))
	}
	for _, l := range lists {
		given := guarded(l)
		for _, x := range append(untidy(), ex(2, 9, 0), ex(0, 3, 58)) {
			extent.Find(given, x.From)
			extent.Set(given, x)
			extent.Cut(given, sp(x.From, x.N))
		}
		extent.Valid(given, most)
		extent.Over(given, untidy())
		extent.Over(untidy(), given)
		extent.Spans(given)
		extent.Ids(given)
		checkGuarded(t, "any list", given, l)
	}
}
