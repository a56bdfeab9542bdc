package dirt_test

import (
	"math"
	"slices"
	"testing"

	"emulsion/api"
	"emulsion/dirt"
)

func sp(from, n int) api.Span { return api.Span{From: from, N: n} }

// marks is a bool for each block that there is: what the calls are held against.
type marks []bool

// whole tells whether a span is, by the words of chapter 1.
func whole(s api.Span) bool {
	const most = api.MaxBlocks
	return s.From >= 0 && s.From <= most && s.N >= 1 && s.N <= most && s.From+s.N <= most
}

// mark marks the blocks of a whole span; how many were not.
func (m marks) mark(s api.Span) int {
	n := 0
	for k := range m {
		if whole(s) && s.From <= k && k < s.From+s.N && !m[k] {
			m[k] = true
			n++
		}
	}
	return n
}

// or marks those of another one; how many were not.
func (m marks) or(o marks) int {
	n := 0
	for k := range m {
		if k < len(o) && o[k] {
			n += m.mark(sp(k, 1))
		}
	}
	return n
}

func (m marks) count() int {
	n := 0
	for _, is := range m {
		if is {
			n++
		}
	}
	return n
}

// spans tells the marks as spans, as few as may be, rising.
func (m marks) spans() []api.Span {
	var l []api.Span
	for k, is := range m {
		switch {
		case !is:
		case k > 0 && m[k-1]:
			l[len(l)-1].N++
		default:
			l = append(l, sp(k, 1))
		}
	}
	return l
}

// bytes tells the marks by sums, eight to a byte.
func (m marks) bytes() string {
	var b []byte
	worth := 0
	for k, is := range m {
		if k%8 == 0 {
			b = append(b, 0)
			worth = 1
		}
		if is {
			b[len(b)-1] += byte(worth)
		}
		worth *= 2
	}
	return string(b)
}

// sequence makes numbers that are the same ones in each run.
type sequence uint64

func (q *sequence) below(n int) int {
	*q = *q*6364136223846793005 + 1442695040888963407
	return int(uint64(*q) >> 33 % uint64(n))
}

// spanOf makes a span: mostly a short one, now and then a long one, or one that is not whole.
func (q *sequence) spanOf() api.Span {
	from := q.below(api.MaxBlocks)
	switch q.below(8) {
	case 0:
		broken := brokenSpans()
		return broken[q.below(len(broken))]
	case 1:
		return sp(from, 1+q.below(api.MaxBlocks-from))
	default:
		return sp(from, 1+q.below(min(4, api.MaxBlocks-from)))
	}
}

// pair makes one of some blocks with some marks, and what it is held against.
func (q *sequence) pair(spans int) (*dirt.Dirt, marks) {
	blocks := q.below(api.MaxBlocks + 1)
	d, m := dirt.New(blocks), make(marks, blocks)
	for range spans {
		s := q.spanOf()
		d.Mark(s)
		m.mark(s)
	}
	return d, m
}

// brokenSpans tells spans that are not whole: each bound by one, and numbers that wrap round.
func brokenSpans() []api.Span {
	const most = api.MaxBlocks
	return []api.Span{
		{},
		sp(0, -1), sp(3, 0), sp(most, 0), sp(3, -3), sp(8, -4),
		sp(-1, 1), sp(-1, 2), sp(-1, most), sp(-5, 9),
		sp(most, 1), sp(most-1, 2), sp(1, most), sp(0, most+1), sp(most+1, 1), sp(most+1, -1),
		sp(0, math.MaxInt), sp(1, math.MaxInt), sp(math.MaxInt, 1), sp(math.MaxInt, math.MaxInt),
		sp(math.MinInt, 1), sp(math.MinInt, math.MinInt), sp(math.MinInt, math.MaxInt),
		sp(0, math.MinInt), sp(1, math.MinInt), sp(math.MaxInt, math.MinInt),
	}
}

// check holds all that one tells by itself against its marks.
func check(t *testing.T, what string, d *dirt.Dirt, m marks) {
	t.Helper()
	if got := d.Blocks(); got != len(m) {
		t.Errorf("%s: Blocks: %d, not %d", what, got, len(m))
	}
	if got := d.Count(); got != m.count() {
		t.Errorf("%s: Count: %d, not %d", what, got, m.count())
	}
	r := d.Runs()
	if r == nil {
		t.Fatalf("%s: Runs: nil", what)
	}
	if got, want := r.All(), m.spans(); !slices.Equal(got, want) {
		t.Errorf("%s: Runs: %v, not %v", what, got, want)
	}
	if got, want := d.Bytes(), m.bytes(); got != want {
		t.Errorf("%s: Bytes: %q, not %q", what, got, want)
	}
	for k := -2; k < 4*api.MaxBlocks+2; k++ {
		if got, want := d.Has(k), k >= 0 && k < len(m) && m[k]; got != want {
			t.Errorf("%s: Has(%d): %v", what, k, got)
		}
	}
	for _, k := range []int{math.MinInt, -api.MaxBlocks, math.MaxInt} {
		if d.Has(k) {
			t.Errorf("%s: Has(%d): true", what, k)
		}
	}
}

// checkCount asks what Mark or Or told.
func checkCount(t *testing.T, what string, got, want int) {
	t.Helper()
	if got != want {
		t.Errorf("%s: %d, not %d", what, got, want)
	}
}

// checkRead asks for marks of bytes.
func checkRead(t *testing.T, b string, m marks) *dirt.Dirt {
	t.Helper()
	d, e := dirt.Read(b, len(m))
	if e != api.OK || d == nil {
		t.Fatalf("Read(%q, %d): %v %d", b, len(m), d, e)
	}
	check(t, "Read", d, m)
	return d
}

// checkRefused asks for an error, with nothing beside it.
func checkRefused(t *testing.T, b string, blocks int, want api.Errno) {
	t.Helper()
	if d, e := dirt.Read(b, blocks); e != want || d != nil {
		t.Errorf("Read(%q, %d): %v %d, not nil %d", b, blocks, d, e, want)
	}
}

// P301, P302: the chapter's example.
func TestP301Example(t *testing.T) {
	d := dirt.New(10)
	checkCount(t, "Mark", d.Mark(sp(1, 3)), 3)
	if got := d.Bytes(); got != "\x0e\x00" {
		t.Errorf("Bytes: %q", got)
	}
}

// P301: New takes the nearer end, and has no marks.
func TestP301New(t *testing.T) {
	for blocks := -3; blocks <= api.MaxBlocks+3; blocks++ {
		check(t, "New", dirt.New(blocks), make(marks, min(max(blocks, 0), api.MaxBlocks)))
	}
	check(t, "New of the least", dirt.New(math.MinInt), nil)
	check(t, "New of the most", dirt.New(math.MaxInt), make(marks, api.MaxBlocks))
}

// P301: every whole span, for every number of blocks: those that there are, once.
func TestP301EverySpan(t *testing.T) {
	const most = api.MaxBlocks
	for blocks := range most + 1 {
		for from := range most {
			for n := 1; from+n <= most; n++ {
				d, m := dirt.New(blocks), make(marks, blocks)
				before, s := sp(from/2, 3), sp(from, n)
				d.Mark(before)
				m.mark(before)
				got, want := d.Mark(s), m.mark(s)
				if got != want || d.Count() != m.count() || d.Bytes() != m.bytes() || d.Mark(s) != 0 {
					t.Fatalf("New(%d), Mark(%v), Mark(%v): %d %q, not %d %q", blocks, before, s, got, d.Bytes(), want, m.bytes())
				}
			}
		}
	}
}

// P301: spans that are not whole, or that begin past the blocks that there are, mark nothing.
func TestP301BrokenSpans(t *testing.T) {
	for _, blocks := range []int{0, 1, 9, api.MaxBlocks} {
		d, m := dirt.New(blocks), make(marks, blocks)
		for _, s := range brokenSpans() {
			checkCount(t, "Mark of a span that is not whole", d.Mark(s), 0)
			check(t, "Mark of a span that is not whole", d, m)
		}
		if blocks < api.MaxBlocks {
			checkCount(t, "Mark past the end", d.Mark(sp(blocks, api.MaxBlocks-blocks)), 0)
			check(t, "Mark past the end", d, m)
		}
		d.Mark(sp(0, 3))
		m.mark(sp(0, 3))
		for _, s := range brokenSpans() {
			checkCount(t, "Mark beside others", d.Mark(s), 0)
			check(t, "Mark beside others", d, m)
		}
	}
}

// P301, P302: many calls one behind the other, and what was answered ahead of them stays.
func TestP301ManyCalls(t *testing.T) {
	q := sequence(1)
	for round := range 80 {
		d, m := q.pair(0)
		for range 30 {
			r, was, b, told := d.Runs(), m.spans(), d.Bytes(), m.bytes()
			switch q.below(12) {
			case 0:
				d.Wipe()
				clear(m)
			case 1, 2, 3:
				o, mo := q.pair(3)
				checkCount(t, "Or", d.Or(o), m.or(mo))
				check(t, "the other one of Or", o, mo)
			default:
				s := q.spanOf()
				checkCount(t, "Mark", d.Mark(s), m.mark(s))
			}
			check(t, "the marks", d, m)
			if !slices.Equal(r.All(), was) || b != told {
				t.Error("what was answered is another one")
			}
			if t.Failed() {
				t.Fatalf("in round %d", round)
			}
		}
	}
}

// P301: Wipe leaves none, and what is marked behind it counts anew.
func TestP301Wipe(t *testing.T) {
	for _, blocks := range []int{0, 1, 8, 9, api.MaxBlocks} {
		d, m := dirt.New(blocks), make(marks, blocks)
		d.Mark(sp(0, api.MaxBlocks))
		d.Wipe()
		check(t, "Wipe", d, m)
		checkCount(t, "Mark behind it", d.Mark(sp(0, api.MaxBlocks)), blocks)
	}
}

// P301: Or of each number of blocks with each other one: those that there are.
func TestP301Or(t *testing.T) {
	for a := range api.MaxBlocks + 1 {
		for b := range api.MaxBlocks + 1 {
			d, o := dirt.New(a), dirt.New(b)
			m, mo := make(marks, a), make(marks, b)
			d.Mark(sp(2, 9))
			m.mark(sp(2, 9))
			o.Mark(sp(1, 63))
			mo.mark(sp(1, 63))
			got, want := d.Or(o), m.or(mo)
			if got != want || d.Bytes() != m.bytes() || o.Bytes() != mo.bytes() || d.Or(o) != 0 || d.Or(d) != 0 {
				t.Fatalf("%d blocks, Or of %d: %d %q, not %d %q", a, b, got, d.Bytes(), want, m.bytes())
			}
		}
	}
}

// P301: two that were put together go on by themselves.
func TestP301Own(t *testing.T) {
	d, o := dirt.New(20), dirt.New(20)
	o.Mark(sp(4, 2))
	d.Or(o)
	o.Mark(sp(8, 1))
	d.Mark(sp(0, 1))
	m, mo := make(marks, 20), make(marks, 20)
	m.mark(sp(4, 2))
	m.mark(sp(0, 1))
	mo.mark(sp(4, 2))
	mo.mark(sp(8, 1))
	check(t, "the one", d, m)
	check(t, "the other one", o, mo)
	r := d.Runs()
	r.Put(sp(10, 3))
	r.Cut(sp(0, 5))
	check(t, "its Runs were turned", d, m)
	d.Wipe()
	check(t, "the one was wiped", o, mo)
}

// P301, P302: a nil one answers zero values and an empty Runs.
func TestP302Nil(t *testing.T) {
	var d *dirt.Dirt
	o := dirt.New(api.MaxBlocks)
	o.Mark(sp(0, 5))
	m := make(marks, api.MaxBlocks)
	m.mark(sp(0, 5))
	d.Wipe()
	checkCount(t, "Mark", d.Mark(sp(0, 1)), 0)
	checkCount(t, "Or", d.Or(o), 0)
	checkCount(t, "Or of a nil one", o.Or(d), 0)
	checkCount(t, "Or of two nil ones", d.Or(nil), 0)
	check(t, "nil", d, nil)
	check(t, "the other one", o, m)
	checkCount(t, "Put into its Runs", d.Runs().Put(sp(0, 1)), 1)
	check(t, "nil", d, nil)
}

// P301, P302: a zero one is as a nil one.
func TestP302Zero(t *testing.T) {
	var z dirt.Dirt
	o := dirt.New(api.MaxBlocks)
	o.Mark(sp(0, 5))
	z.Wipe()
	checkCount(t, "Mark", z.Mark(sp(0, 1)), 0)
	checkCount(t, "Or", z.Or(o), 0)
	checkCount(t, "Or of a zero one", o.Or(&z), 0)
	check(t, "zero", &z, nil)
}

// P302: each mark alone, and all of them, there and back, for every number of blocks.
func TestP302Bytes(t *testing.T) {
	for blocks := range api.MaxBlocks + 1 {
		checkRead(t, make(marks, blocks).bytes(), make(marks, blocks))
		all := make(marks, blocks)
		for k := range blocks {
			m := make(marks, blocks)
			m[k], all[k] = true, true
			d := dirt.New(blocks)
			d.Mark(sp(k, 1))
			check(t, "one mark", d, m)
			checkRead(t, d.Bytes(), m)
		}
		checkRead(t, all.bytes(), all)
	}
	if got := dirt.New(17).Bytes(); got != "\x00\x00\x00" {
		t.Errorf("Bytes of 17 blocks: %q", got)
	}
}

// P302: what is read is as what was told, and goes on by itself.
func TestP302ThereAndBack(t *testing.T) {
	q := sequence(2)
	for range 400 {
		d, m := q.pair(6)
		was := slices.Clone(m)
		r := checkRead(t, d.Bytes(), m)
		s := q.spanOf()
		checkCount(t, "Mark of what was read", r.Mark(s), m.mark(s))
		check(t, "what was read", r, m)
		check(t, "what was told", d, was)
		if t.Failed() {
			t.FailNow()
		}
	}
}

// P302: a number of blocks that may not be, ahead of what the bytes are.
func TestP302ReadBlocks(t *testing.T) {
	eight := "\xff\xff\xff\xff\xff\xff\xff\xff"
	for _, blocks := range []int{-1, -8, api.MaxBlocks + 1, api.MaxBlocks + 8, math.MinInt, math.MaxInt} {
		for _, b := range []string{"", "\x00", eight, eight + "\x00", eight + "\x01"} {
			checkRefused(t, b, blocks, api.ErrArg)
		}
	}
	all := dirt.New(api.MaxBlocks)
	all.Mark(sp(0, api.MaxBlocks))
	if all.Bytes() != eight {
		t.Errorf("Bytes of all: %q", all.Bytes())
	}
}

// P302: bytes that are too few or too many, or have a bit of a block that there is not.
func TestP302ReadForm(t *testing.T) {
	for blocks := range api.MaxBlocks + 1 {
		m := make(marks, blocks)
		for k := range m {
			m[k] = k%3 == 0
		}
		b := m.bytes()
		checkRead(t, b, m)
		for n := range len(b) {
			checkRefused(t, b[:n], blocks, api.ErrForm)
		}
		checkRefused(t, b+"\x00", blocks, api.ErrForm)
		checkRefused(t, b+"\x01", blocks, api.ErrForm)
		checkRefused(t, b+"\x00\x00\x00\x00\x00\x00\x00\x00", blocks, api.ErrForm)
		for k := blocks; k < 8*len(b); k++ {
			bad := []byte(b)
			bad[k/8] += 1 << (k % 8)
			checkRefused(t, string(bad), blocks, api.ErrForm)
		}
	}
}
