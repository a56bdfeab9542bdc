package shelf_test

import (
	"math"
	"slices"
	"testing"

	"emulsion/print"
	"emulsion/shelf"
)

// pair is an id under a fingerprint.
type pair struct {
	x  uint32
	id int
}

// model is a shelf by the words of the chapter: pairs in no order, and a number of buckets.
type model struct {
	pairs   []pair
	buckets int
}

// nearer tells the number of buckets that is made when n are asked for.
func nearer(n int) int {
	if n < 1 {
		return 1
	}
	if n > 100 {
		return 100
	}
	return n
}

func (m *model) put(p pair) bool {
	if slices.Contains(m.pairs, p) {
		return false
	}
	m.pairs = append(m.pairs, p)
	return true
}

func (m *model) cut(p pair) bool {
	at := slices.Index(m.pairs, p)
	if at < 0 {
		return false
	}
	m.pairs = append(m.pairs[:at], m.pairs[at+1:]...)
	return true
}

func (m *model) find(x uint32) []int {
	var ids []int
	for _, p := range m.pairs {
		if p.x == x {
			ids = append(ids, p.id)
		}
	}
	slices.Sort(ids)
	return ids
}

func (m *model) sizes() []int {
	l := make([]int, m.buckets)
	for _, p := range m.pairs {
		l[print.Bucket(p.x, m.buckets)]++
	}
	return l
}

func wantPut(t *testing.T, s *shelf.Shelf, x uint32, id int, want bool) {
	t.Helper()
	if got := s.Put(x, id); got != want {
		t.Errorf("Put(%#x, %d): %v, not %v", x, id, got, want)
	}
}

func wantCut(t *testing.T, s *shelf.Shelf, x uint32, id int, want bool) {
	t.Helper()
	if got := s.Cut(x, id); got != want {
		t.Errorf("Cut(%#x, %d): %v, not %v", x, id, got, want)
	}
}

func wantFind(t *testing.T, s *shelf.Shelf, x uint32, want ...int) {
	t.Helper()
	if got := s.Find(x); !slices.Equal(got, want) {
		t.Errorf("Find(%#x): %v, not %v", x, got, want)
	}
}

func wantSizes(t *testing.T, s *shelf.Shelf, want ...int) {
	t.Helper()
	if got := s.Sizes(); !slices.Equal(got, want) {
		t.Errorf("Sizes(): %v, not %v", got, want)
	}
	n := 0
	for _, k := range want {
		n += k
	}
	if got := s.Len(); got != n {
		t.Errorf("Len(): %d, not %d", got, n)
	}
}

// filled makes a shelf of so many buckets with these pairs.
func filled(t *testing.T, buckets int, pairs ...pair) *shelf.Shelf {
	t.Helper()
	s := shelf.New(buckets)
	for _, p := range pairs {
		wantPut(t, s, p.x, p.id, true)
	}
	return s
}

// asked has numbers of buckets, those inside the limits, at both ends, and beyond them.
func asked() []int {
	return []int{math.MinInt, -100, -1, 0, 1, 2, 3, 7, 64, 99, 100, 101, 1000, math.MaxInt32, math.MaxInt}
}

func TestP801Example(t *testing.T) {
	s := filled(t, 10, pair{9, 2}, pair{9, 1})
	wantFind(t, s, 9, 1, 2)
	wantFind(t, s, 1)
}

func TestP801NewIsEmpty(t *testing.T) {
	for _, n := range asked() {
		s := shelf.New(n)
		wantSizes(t, s, make([]int, nearer(n))...)
		for _, x := range []uint32{0, 1, 100, math.MaxUint32} {
			wantFind(t, s, x)
			wantCut(t, s, x, 0, false)
		}
		wantPut(t, s, 7, 7, true)
		wantFind(t, s, 7, 7)
	}
}

func TestP801NewIsAnotherEachTime(t *testing.T) {
	s, o := shelf.New(2), shelf.New(2)
	wantPut(t, s, 4, 1, true)
	wantSizes(t, o, 0, 0)
	wantPut(t, o, 4, 1, true)
	wantCut(t, s, 4, 1, true)
	wantFind(t, o, 4, 1)
}

func TestP801PutTwice(t *testing.T) {
	s := filled(t, 3, pair{5, 8})
	wantPut(t, s, 5, 8, false)
	wantFind(t, s, 5, 8)
	wantSizes(t, s, 0, 0, 1)
	wantPut(t, s, 5, 9, true)
	wantPut(t, s, 5, 8, false)
	wantFind(t, s, 5, 8, 9)
	wantSizes(t, s, 0, 0, 2)
}

// TestP801OneIdUnderSeveral: an id stands under each fingerprint by itself, in one bucket and in another.
func TestP801OneIdUnderSeveral(t *testing.T) {
	s := filled(t, 3, pair{5, 8}, pair{2, 8}, pair{8, 8}, pair{6, 8})
	wantSizes(t, s, 1, 0, 3)
	wantCut(t, s, 5, 8, true)
	wantFind(t, s, 5)
	for _, x := range []uint32{2, 8, 6} {
		wantFind(t, s, x, 8)
		wantPut(t, s, x, 8, false)
	}
	wantPut(t, s, 5, 8, true)
	wantSizes(t, s, 1, 0, 3)
}

// TestP801AnyId: ids below 0, 0, and those at both ends, under fingerprints at both ends.
func TestP801AnyId(t *testing.T) {
	ids := []int{0, -1, math.MaxInt, 1, math.MinInt, -7, math.MinInt + 1, math.MaxUint32, -math.MaxUint32}
	rising := slices.Sorted(slices.Values(ids))
	for _, x := range []uint32{0, 1, math.MaxInt32, 1 << 31, math.MaxUint32} {
		s := shelf.New(4)
		for _, id := range ids {
			wantPut(t, s, x, id, true)
			wantPut(t, s, x, id, false)
		}
		wantFind(t, s, x, rising...)
		wantFind(t, s, x+4)
		wantFind(t, s, x-4)
		for k, id := range rising {
			wantCut(t, s, x, id, true)
			wantCut(t, s, x, id, false)
			wantFind(t, s, x, rising[k+1:]...)
		}
		wantSizes(t, s, 0, 0, 0, 0)
	}
}

func TestP801Cut(t *testing.T) {
	s := filled(t, 4, pair{9, 2}, pair{9, 1}, pair{1, 1}, pair{13, 7})
	wantCut(t, s, 9, 3, false)
	wantCut(t, s, 5, 1, false)
	wantCut(t, s, 2, 1, false)
	wantCut(t, s, 13, 1, false)
	wantSizes(t, s, 0, 4, 0, 0)
	wantCut(t, s, 9, 1, true)
	wantCut(t, s, 9, 1, false)
	wantFind(t, s, 9, 2)
	wantFind(t, s, 1, 1)
	wantFind(t, s, 13, 7)
	wantSizes(t, s, 0, 3, 0, 0)
	wantCut(t, s, 9, 2, true)
	wantCut(t, s, 9, 2, false)
	wantFind(t, s, 9)
	wantPut(t, s, 9, 1, true)
	wantFind(t, s, 9, 1)
	wantSizes(t, s, 0, 3, 0, 0)
}

// orders tells all orders of a list.
func orders(l []int) [][]int {
	if len(l) == 0 {
		return [][]int{nil}
	}
	var all [][]int
	for k := range l {
		rest := slices.Concat(l[:k], l[k+1:])
		for _, o := range orders(rest) {
			all = append(all, append([]int{l[k]}, o...))
		}
	}
	return all
}

func TestP801FindIsRisingHoweverPut(t *testing.T) {
	for _, o := range orders([]int{-3, 0, 2, 10, 11}) {
		s := shelf.New(6)
		for _, id := range o {
			wantPut(t, s, 20, id, true)
			// Another of the same bucket, put between them.
			wantPut(t, s, 14, -id, true)
		}
		wantFind(t, s, 20, -3, 0, 2, 10, 11)
		wantFind(t, s, 14, -11, -10, -2, 0, 3)
		wantSizes(t, s, 0, 0, 10, 0, 0, 0)
	}
}

// TestP801FindOfSharedBucket: just those under x itself are told, not those of the bucket, nor those of near fingerprints.
func TestP801FindOfSharedBucket(t *testing.T) {
	for _, n := range []int{1, 2, 10, 100} {
		step := uint32(n)
		s := filled(t, n, pair{1000, 4}, pair{1000 + step, 5}, pair{1000 - step, 6}, pair{1000 + 2*step, 4})
		wantFind(t, s, 1000, 4)
		wantFind(t, s, 1000+step, 5)
		wantFind(t, s, 1000-step, 6)
		wantFind(t, s, 1000+2*step, 4)
		wantFind(t, s, 1000-2*step)
		wantFind(t, s, 1000+3*step)
		wantCut(t, s, 1000, 5, false)
		wantCut(t, s, 1000, 4, true)
		wantFind(t, s, 1000)
		if got := s.Sizes()[1000%n]; got != 3 {
			t.Errorf("bucket %d of %d: %d, not 3", 1000%n, n, got)
		}
	}
}

// TestP801SizesAreByBucket: fingerprints above 2^31 have their bucket as those below.
func TestP801SizesAreByBucket(t *testing.T) {
	s := filled(t, 10, pair{0, 1}, pair{10, 1}, pair{9, 1}, pair{math.MaxUint32, 1}, pair{1 << 31, 1}, pair{1<<31 - 1, 1}, pair{1<<31 - 1, 2})
	wantSizes(t, s, 2, 0, 0, 0, 0, 1, 0, 2, 1, 1)
	one := filled(t, 1, pair{0, 1}, pair{math.MaxUint32, 1}, pair{7, 1})
	wantSizes(t, one, 3)
}

func TestP801Grow(t *testing.T) {
	s := filled(t, 4, pair{9, 2}, pair{1, 1}, pair{13, 7}, pair{9, -2})
	wantSizes(t, s, 0, 4, 0, 0)
	for _, c := range []struct {
		n     int
		sizes []int
	}{
		{7, []int{0, 1, 2, 0, 0, 0, 1}}, {2, []int{0, 4}}, {3, []int{2, 2, 0}}, {3, []int{2, 2, 0}},
		{1, []int{4}}, {0, []int{4}}, {5, []int{0, 1, 0, 1, 2}}, {-1, []int{4}}, {4, []int{0, 4, 0, 0}},
	} {
		s.Grow(c.n)
		wantSizes(t, s, c.sizes...)
		wantFind(t, s, 9, -2, 2)
		wantFind(t, s, 1, 1)
		wantFind(t, s, 13, 7)
		wantFind(t, s, 2)
		wantPut(t, s, 9, 2, false)
		wantCut(t, s, 9, 7, false)
	}
	wantCut(t, s, 9, 2, true)
	wantPut(t, s, 2, 2, true)
	s.Grow(3)
	wantSizes(t, s, 1, 2, 1)
	wantFind(t, s, 9, -2)
}

// TestP801GrowToTheEnds goes from each number of buckets to each other one.
func TestP801GrowToTheEnds(t *testing.T) {
	for _, from := range asked() {
		for _, to := range asked() {
			m := model{buckets: nearer(to)}
			s := shelf.New(from)
			for k := range 40 {
				p := pair{uint32(k*k*k) * 0x9E3779B1, k%5 - 2}
				s.Put(p.x, p.id)
				m.put(p)
			}
			s.Grow(to)
			wantSizes(t, s, m.sizes()...)
			for _, p := range m.pairs {
				wantFind(t, s, p.x, m.find(p.x)...)
			}
		}
	}
}

func TestP801GrowOfEmpty(t *testing.T) {
	s := shelf.New(3)
	s.Grow(5)
	wantSizes(t, s, 0, 0, 0, 0, 0)
	wantPut(t, s, 6, 1, true)
	wantCut(t, s, 6, 1, true)
	s.Grow(2)
	wantSizes(t, s, 0, 0)
	wantFind(t, s, 6)
}

// TestP801AnswersAreNew: what is done to an answer is seen neither in the shelf nor in the next answer, and what is done to the shelf is not seen in an answer.
func TestP801AnswersAreNew(t *testing.T) {
	s := filled(t, 2, pair{4, 1}, pair{4, 2}, pair{6, 3})
	ids, sizes := s.Find(4), s.Sizes()
	ids[0], sizes[0] = 99, 99
	_ = append(ids[:1], 98)
	wantFind(t, s, 4, 1, 2)
	wantFind(t, s, 6, 3)
	wantSizes(t, s, 3, 0)
	ids, sizes = s.Find(4), s.Sizes()
	wantCut(t, s, 4, 1, true)
	wantPut(t, s, 5, 1, true)
	if !slices.Equal(ids, []int{1, 2}) || !slices.Equal(sizes, []int{3, 0}) {
		t.Errorf("answers of before: %v, %v", ids, sizes)
	}
}

// TestP801NoShelf: a nil one has nothing and takes nothing, and a zero one is as a nil one.
func TestP801NoShelf(t *testing.T) {
	for _, s := range []*shelf.Shelf{nil, {}} {
		for _, n := range asked() {
			s.Grow(n)
			for _, x := range []uint32{0, 1, math.MaxUint32} {
				wantPut(t, s, x, 1, false)
				wantPut(t, s, x, 1, false)
				wantCut(t, s, x, 1, false)
				wantFind(t, s, x)
			}
			wantSizes(t, s)
		}
	}
}

// TestP801AgainstModel does many things in an order without a pattern, and holds all answers against those of the model.
func TestP801AgainstModel(t *testing.T) {
	s, m := shelf.New(4), &model{buckets: 4}
	draw := uint32(1)
	next := func(n uint32) uint32 {
		draw = draw*1664525 + 1013904223
		return (draw >> 8) % n
	}
	for range 20000 {
		p := pair{next(12) * 0x15555555, int(next(9)) - 4}
		switch next(20) {
		case 0:
			n := int(next(120)) - 8
			s.Grow(n)
			m.buckets = nearer(n)
		case 1, 2, 3, 4, 5, 6, 7, 8, 9, 10:
			wantPut(t, s, p.x, p.id, m.put(p))
		default:
			wantCut(t, s, p.x, p.id, m.cut(p))
		}
		wantFind(t, s, p.x, m.find(p.x)...)
		wantSizes(t, s, m.sizes()...)
		if t.Failed() {
			return
		}
	}
}
