package plate_test

import (
	"math"
	"slices"
	"strings"
	"testing"

	"emulsion/api"
	"emulsion/plate"
)

// sequence draws the same numbers in each run.
type sequence uint64

func (q *sequence) below(n int) int {
	*q = *q*6364136223846793005 + 1442695040888963407
	return int(uint64(*q) >> 33 % uint64(n))
}

// bools draws so many of them.
func (q *sequence) bools(n int) []bool {
	l := make([]bool, n)
	for i := range l {
		l[i] = q.below(2) == 1
	}
	return l
}

// full is a page of one byte, over and over.
func full(c byte) string { return strings.Repeat(string([]byte{c}), api.PageSize) }

// zeros is a page of a new disk.
var zeros = full(0)

// mixed is a page that tells its number and which version of it this is, of which all bytes are unlike those beside them.
func mixed(k, version int) string {
	b := make([]byte, api.PageSize)
	for i := range b {
		b[i] = byte(7*i + 31*version + k + 1)
	}
	b[0], b[api.PageSize-1] = byte(k), byte(version)
	return string(b)
}

// diskSizes has numbers of pages that there may be: the ends, those about a word's 64 bits, and some between.
func diskSizes() []int { return []int{1, 2, 3, 31, 63, 64, 65, 127, 128, 129, 192, 249, 250} }

// outer has numbers that are no page of a disk of so many.
func outer(pages int) []int {
	l := []int{-1, -2, -63, -64, -65, -250, -256, math.MinInt, math.MinInt + 1, math.MinInt32}
	l = append(l, math.MaxInt, math.MaxInt-1, math.MaxInt32, 1<<32, 1<<62, 256, 1<<16)
	return append(l, pages, pages+1, pages+64, pages+256)
}

// wrongPages has bytes that are no page.
func wrongPages() []string {
	return []string{"", "x", full('w')[1:], full('w') + "x", full('w') + full('w'), strings.Repeat("w", 256), strings.Repeat("w", 256+api.PageSize), strings.Repeat("w", 1<<16+api.PageSize)}
}

func wantErr(t *testing.T, what string, got, want api.Errno) {
	t.Helper()
	if got != want {
		t.Errorf("%s: error %d, not %d", what, got, want)
	}
}

func wantBool(t *testing.T, what string, got, want bool) {
	t.Helper()
	if got != want {
		t.Errorf("%s: %v, not %v", what, got, want)
	}
}

func wantLay(t *testing.T, p *plate.Plate, k int, b string, want api.Errno) {
	t.Helper()
	if got := p.Lay(k, b); got != want {
		t.Errorf("Lay(%d, %q): error %d, not %d", k, b, got, want)
	}
}

func wantFix(t *testing.T, p *plate.Plate, want api.Errno) {
	t.Helper()
	wantErr(t, "Fix()", p.Fix(), want)
}

func wantGet(t *testing.T, p *plate.Plate, k int, want string, wantErr api.Errno) {
	t.Helper()
	if got, err := p.Get(k); got != want || err != wantErr {
		t.Errorf("Get(%d): %q, error %d, not %q, error %d", k, got, err, want, wantErr)
	}
}

// wantPages holds all pages, of a disk with power.
func wantPages(t *testing.T, p *plate.Plate, want ...string) {
	t.Helper()
	if p.Pages() != len(want) {
		t.Errorf("Pages(): %d, not %d", p.Pages(), len(want))
	}
	for k, b := range want {
		wantGet(t, p, k, b, api.OK)
	}
}

func wantWet(t *testing.T, p *plate.Plate, want ...int) {
	t.Helper()
	if got := p.Wet(); !slices.Equal(got, want) {
		t.Errorf("Wet(): %v, not %v", got, want)
	}
}

func wantFall(t *testing.T, p *plate.Plate, keep []bool, want ...int) {
	t.Helper()
	if got := p.Fall(keep...); !slices.Equal(got, want) {
		t.Errorf("Fall(%v): %v, not %v", keep, got, want)
	}
	wantBool(t, "On() behind Fall", p.On(), false)
	wantWet(t, p)
}

func wantPower(t *testing.T, p *plate.Plate, want bool) {
	t.Helper()
	wantBool(t, "Power()", p.Power(), want)
}

// wantFixed holds all pages, and that none of them is wet: the power falls and comes again, and they stay.
func wantFixed(t *testing.T, p *plate.Plate, want ...string) {
	t.Helper()
	wantPages(t, p, want...)
	wantWet(t, p)
	wantFall(t, p, nil)
	wantPower(t, p, true)
	wantPages(t, p, want...)
}

// made makes a disk of these pages, all of them fixed.
func made(t *testing.T, pages ...string) *plate.Plate {
	t.Helper()
	p := plate.New(len(pages))
	for k, b := range pages {
		wantLay(t, p, k, b, api.OK)
	}
	wantFix(t, p, api.OK)
	return p
}

// numbered has so many pages of that version.
func numbered(pages, version int) []string {
	var l []string
	for k := range pages {
		l = append(l, mixed(k, version))
	}
	return l
}

func TestP1401New(t *testing.T) {
	for _, c := range []struct{ asked, pages int }{
		{0, 0}, {1, 1}, {2, 2}, {3, 3}, {63, 63}, {64, 64}, {65, 65}, {128, 128}, {249, 249}, {250, 250},
		{251, 250}, {252, 250}, {256, 250}, {1 << 16, 250}, {1 << 32, 250}, {1<<32 + 3, 250}, {math.MaxInt, 250}, {math.MaxInt - 1, 250},
		{-1, 0}, {-2, 0}, {-250, 0}, {-1 << 32, 0}, {-1<<32 + 3, 0}, {math.MinInt, 0}, {math.MinInt + 1, 0}, {math.MinInt + 3, 0},
	} {
		p := plate.New(c.asked)
		if p == nil || p.Pages() != c.pages || !p.On() {
			t.Fatalf("New(%d): %d pages, with power %v", c.asked, p.Pages(), p.On())
		}
		wantWet(t, p)
		for k := range c.pages {
			wantGet(t, p, k, zeros, api.OK)
		}
		wantGet(t, p, c.pages, "", api.ErrArg)
		wantFix(t, p, api.OK)
		// Zeros are what is fixed, too.
		wantFixed(t, p, slices.Repeat([]string{zeros}, c.pages)...)
	}
}

func TestP1401NewOnesAreApart(t *testing.T) {
	p, q := plate.New(2), plate.New(2)
	wantLay(t, p, 0, full('p'), api.OK)
	p.Fall(true)
	wantBool(t, "On()", q.On(), true)
	wantPages(t, q, zeros, zeros)
	wantWet(t, q)
}

func TestP1401NoPages(t *testing.T) {
	p := plate.New(0)
	for _, k := range append(outer(0), 0, 1) {
		wantLay(t, p, k, full('a'), api.ErrArg)
		wantGet(t, p, k, "", api.ErrArg)
		wantBool(t, "Rot", p.Rot(k, full('a')), false)
	}
	wantFix(t, p, api.OK)
	wantFixed(t, p)
	p.Snag(0)
	wantFix(t, p, api.ErrOff)
	wantLay(t, p, 0, full('a'), api.ErrOff)
	wantPower(t, p, true)
}

func TestP1401LayAndGetOfEachPage(t *testing.T) {
	for _, n := range diskSizes() {
		p := plate.New(n)
		for k := range n {
			wantLay(t, p, k, mixed(k, 1), api.OK)
		}
		wantPages(t, p, numbered(n, 1)...)
		wantFix(t, p, api.OK)
		wantFixed(t, p, numbered(n, 1)...)
	}
}

// TestP1401LayOfOnePage: all others stay as they were.
func TestP1401LayOfOnePage(t *testing.T) {
	for _, n := range diskSizes() {
		for _, k := range []int{0, n / 2, n - 1} {
			p, want := made(t, numbered(n, 1)...), numbered(n, 1)
			wantLay(t, p, k, mixed(k, 2), api.OK)
			want[k] = mixed(k, 2)
			wantWet(t, p, k)
			wantPages(t, p, want...)
		}
	}
}

func TestP1401BytesOfAllKinds(t *testing.T) {
	p := plate.New(8)
	var want []string
	for k := range 8 {
		b := make([]byte, api.PageSize)
		for i := range b {
			b[i] = byte(k*api.PageSize + i)
		}
		want = append(want, string(b))
		wantLay(t, p, k, string(b), api.OK)
	}
	wantFix(t, p, api.OK)
	wantFixed(t, p, want...)
}

func TestP1401NoSuchPage(t *testing.T) {
	for _, n := range diskSizes() {
		p := made(t, numbered(n, 1)...)
		for _, k := range outer(n) {
			if k >= 0 && k < n {
				continue
			}
			for _, b := range append(wrongPages(), full('w')) {
				wantLay(t, p, k, b, api.ErrArg)
			}
			wantGet(t, p, k, "", api.ErrArg)
		}
		wantWet(t, p)
		wantPages(t, p, numbered(n, 1)...)
	}
}

func TestP1401LayOfNoPage(t *testing.T) {
	p := made(t, numbered(4, 1)...)
	wantLay(t, p, 2, mixed(2, 2), api.OK)
	for k := range 4 {
		for _, b := range wrongPages() {
			wantLay(t, p, k, b, api.ErrArg)
		}
	}
	wantWet(t, p, 2)
	wantPages(t, p, mixed(0, 1), mixed(1, 1), mixed(2, 2), mixed(3, 1))
}

// TestP1401WithoutPower: ErrOff stands ahead of ErrArg.
func TestP1401WithoutPower(t *testing.T) {
	p := made(t, numbered(3, 1)...)
	wantFall(t, p, nil)
	for _, k := range append(outer(3), 0, 1, 2) {
		for _, b := range append(wrongPages(), full('w')) {
			wantLay(t, p, k, b, api.ErrOff)
		}
		wantGet(t, p, k, "", api.ErrOff)
	}
	wantFix(t, p, api.ErrOff)
	wantWet(t, p)
	wantPower(t, p, true)
	wantWet(t, p)
	wantFixed(t, p, numbered(3, 1)...)
}

func TestP1401LaidTwiceAheadOfOneFix(t *testing.T) {
	p := made(t, full('a'), full('b'))
	wantLay(t, p, 1, full('c'), api.OK)
	wantLay(t, p, 1, full('d'), api.OK)
	wantWet(t, p, 1)
	wantPages(t, p, full('a'), full('d'))
	lost, kept := p.Twin(), p.Twin()
	wantFix(t, p, api.OK)
	wantFixed(t, p, full('a'), full('d'))
	wantFall(t, lost, nil, 1)
	wantPower(t, lost, true)
	wantPages(t, lost, full('a'), full('b'))
	wantFall(t, kept, []bool{true})
	wantPower(t, kept, true)
	wantPages(t, kept, full('a'), full('d'))
}

func TestP1401LaidAheadOfAFixAndBehindIt(t *testing.T) {
	p := plate.New(2)
	wantLay(t, p, 0, full('a'), api.OK)
	wantFix(t, p, api.OK)
	wantWet(t, p)
	wantLay(t, p, 0, full('b'), api.OK)
	wantWet(t, p, 0)
	wantPages(t, p, full('b'), zeros)
	wantFall(t, p, nil, 0)
	wantPower(t, p, true)
	wantFixed(t, p, full('a'), zeros)
}

// TestP1401LaidAsItWas: such a page is wet, and lost, too.
func TestP1401LaidAsItWas(t *testing.T) {
	p := made(t, full('a'), full('b'), full('c'))
	wantLay(t, p, 0, full('a'), api.OK)
	wantLay(t, p, 2, full('c'), api.OK)
	wantWet(t, p, 0, 2)
	wantFall(t, p, []bool{false, true}, 0)
	wantPower(t, p, true)
	wantFixed(t, p, full('a'), full('b'), full('c'))
	q := plate.New(1)
	wantLay(t, q, 0, zeros, api.OK)
	wantWet(t, q, 0)
}

func TestP1401FixOfNothing(t *testing.T) {
	p := made(t, numbered(3, 1)...)
	wantFix(t, p, api.OK)
	wantFix(t, p, api.OK)
	wantFixed(t, p, numbered(3, 1)...)
}

func TestP1401Wet(t *testing.T) {
	for _, n := range diskSizes() {
		p := plate.New(n)
		wantWet(t, p)
		var all []int
		// From the last one on: what is told is rising all the same.
		for k := n - 1; k >= 0; k-- {
			wantLay(t, p, k, full('a'), api.OK)
			all = append([]int{k}, all...)
			wantWet(t, p, all...)
		}
		wantFix(t, p, api.OK)
		wantWet(t, p)
	}
	p := plate.New(250)
	for _, k := range []int{64, 249, 0, 63, 191, 192, 7, 249, 64} {
		wantLay(t, p, k, full('a'), api.OK)
	}
	wantWet(t, p, 0, 7, 63, 64, 191, 192, 249)
	p.Fall(true, true)
	wantWet(t, p)
	wantPower(t, p, true)
	wantWet(t, p)
}

func TestP1401WetIsNew(t *testing.T) {
	p := plate.New(3)
	wantLay(t, p, 0, full('a'), api.OK)
	wantLay(t, p, 2, full('b'), api.OK)
	wet := p.Wet()
	wet[0], wet[1] = 1, 1
	_ = append(wet[:0], 9, 9)
	wantWet(t, p, 0, 2)
	wet = p.Wet()
	wantFix(t, p, api.OK)
	if !slices.Equal(wet, []int{0, 2}) {
		t.Errorf("a later call is seen in a list that was told: %v", wet)
	}
}

func TestP1401AnswersStand(t *testing.T) {
	p := made(t, full('a'))
	b, _ := p.Get(0)
	wantLay(t, p, 0, full('b'), api.OK)
	c, _ := p.Get(0)
	p.Rot(0, full('c'))
	if b != full('a') || c != full('b') {
		t.Errorf("later calls are seen in %q, %q", b, c)
	}
}

func TestP1402Example(t *testing.T) {
	p := plate.New(2)
	wantLay(t, p, 0, full('x'), api.OK)
	wantLay(t, p, 1, full('y'), api.OK)
	wantFall(t, p, []bool{false, true}, 0)
	wantPower(t, p, true)
	wantFixed(t, p, zeros, full('y'))
}

// TestP1402FallOfEachMixture: some pages are wet, and others are not; keeps of each mixture, fewer than those pages, as many, and more.
func TestP1402FallOfEachMixture(t *testing.T) {
	wet := []int{0, 63, 64, 130, 249}
	p := made(t, numbered(250, 1)...)
	for _, k := range wet {
		wantLay(t, p, k, mixed(k, 2), api.OK)
	}
	for n := range 8 {
		for mask := range 1 << n {
			keep, want := make([]bool, n), numbered(250, 1)
			var lost []int
			for i := range keep {
				keep[i] = mask>>i&1 == 1
			}
			for i, k := range wet {
				if i < n && keep[i] {
					want[k] = mixed(k, 2)
				} else {
					lost = append(lost, k)
				}
			}
			q, handed := p.Twin(), slices.Clone(keep)
			wantFall(t, q, handed, lost...)
			if !slices.Equal(handed, keep) {
				t.Errorf("Fall wrote into its keeps: %v, not %v", handed, keep)
			}
			wantPower(t, q, true)
			wantFixed(t, q, want...)
		}
		if t.Failed() {
			t.FailNow()
		}
	}
}

// TestP1402FallOfAllPages: the keep of each place, also of the last one, and ones behind all places.
func TestP1402FallOfAllPages(t *testing.T) {
	q := sequence(1)
	for _, n := range diskSizes() {
		for _, keeps := range []int{0, 1, n - 1, n, n + 1, 250, 251, 256, 320, 1 << 16} {
			p, keep, want := made(t, numbered(n, 1)...), q.bools(keeps), numbered(n, 1)
			var lost []int
			for k := range n {
				wantLay(t, p, k, mixed(k, 2), api.OK)
				if k < keeps && keep[k] {
					want[k] = mixed(k, 2)
				} else {
					lost = append(lost, k)
				}
			}
			p.Fall(keep...)
			wantPower(t, p, true)
			wantFixed(t, p, want...)
			for k := range n {
				wantLay(t, p, k, mixed(k, 3), api.OK)
			}
			wantFall(t, p, keep, lost...)
		}
	}
}

// TestP1402KeepsAreByPlace: a keep stands for the place among the wet pages, not for the page's number, nor for when it was laid.
func TestP1402KeepsAreByPlace(t *testing.T) {
	p := made(t, numbered(6, 1)...)
	for _, k := range []int{5, 1, 3} {
		wantLay(t, p, k, mixed(k, 2), api.OK)
	}
	wantFall(t, p, []bool{true, false, false, true, true, true}, 3, 5)
	wantPower(t, p, true)
	wantFixed(t, p, mixed(0, 1), mixed(1, 2), mixed(2, 1), mixed(3, 1), mixed(4, 1), mixed(5, 1))
}

// TestP1402FallMakesItFixed: what is laid behind a Fall is lost to what that one left.
func TestP1402FallMakesItFixed(t *testing.T) {
	p := made(t, numbered(2, 1)...)
	for k := range 2 {
		wantLay(t, p, k, mixed(k, 2), api.OK)
	}
	wantFall(t, p, []bool{true}, 1)
	wantPower(t, p, true)
	for k := range 2 {
		wantLay(t, p, k, mixed(k, 3), api.OK)
	}
	wantFall(t, p, nil, 0, 1)
	wantPower(t, p, true)
	wantFixed(t, p, mixed(0, 2), mixed(1, 1))
}

func TestP1402FallOfNothing(t *testing.T) {
	p := made(t, numbered(3, 1)...)
	for _, keep := range [][]bool{nil, {}, {true}, {false, true, true, true}} {
		wantFall(t, p, keep)
		// Without power nothing is done.
		wantFall(t, p, keep)
		wantPower(t, p, true)
		wantPages(t, p, numbered(3, 1)...)
	}
	wantLay(t, p, 0, mixed(0, 2), api.OK)
	wantLay(t, p, 1, mixed(1, 2), api.OK)
	wantFall(t, p, []bool{true}, 1)
	wantFall(t, p, nil)
	wantFall(t, p, []bool{false, false, false})
	wantFall(t, p, []bool{true, true, true})
	wantPower(t, p, true)
	wantFixed(t, p, mixed(0, 2), mixed(1, 1), mixed(2, 1))
}

func TestP1402LostIsNew(t *testing.T) {
	p := plate.New(3)
	wantLay(t, p, 0, full('a'), api.OK)
	wantLay(t, p, 2, full('b'), api.OK)
	lost := p.Fall()
	lost[0], lost[1] = 1, 1
	wantPower(t, p, true)
	wantWet(t, p)
	wantPages(t, p, zeros, zeros, zeros)
	wantLay(t, p, 2, full('b'), api.OK)
	wantFall(t, p, nil, 2)
	if !slices.Equal(lost, []int{1, 1}) {
		t.Errorf("a later call is seen in a list that was told: %v", lost)
	}
}

func TestP1402PowerAndOn(t *testing.T) {
	p := plate.New(2)
	wantLay(t, p, 1, full('a'), api.OK)
	for range 2 {
		wantPower(t, p, false)
		wantBool(t, "On()", p.On(), true)
	}
	// Power with power changes nothing.
	wantWet(t, p, 1)
	wantPages(t, p, zeros, full('a'))
	wantFall(t, p, nil, 1)
	if p.Pages() != 2 {
		t.Errorf("Pages() without power: %d", p.Pages())
	}
	wantPower(t, p, true)
	wantBool(t, "On()", p.On(), true)
	wantPower(t, p, false)
	wantLay(t, p, 1, full('b'), api.OK)
	wantFix(t, p, api.OK)
	wantGet(t, p, 1, full('b'), api.OK)
}

func TestP1402Pages(t *testing.T) {
	for n := range api.MaxPages + 1 {
		p := plate.New(n)
		for range 2 {
			if p.Pages() != n {
				t.Errorf("Pages() of %d: %d", n, p.Pages())
			}
			p.Fall()
		}
	}
}

// uncounted makes each call that no snag counts, of a disk with power.
func uncounted(t *testing.T, p *plate.Plate) {
	t.Helper()
	wantLay(t, p, -1, full('w'), api.ErrArg)
	wantLay(t, p, p.Pages(), full('w'), api.ErrArg)
	for _, b := range wrongPages() {
		wantLay(t, p, 0, b, api.ErrArg)
	}
	if b, err := p.Get(0); len(b) != api.PageSize || err != api.OK {
		t.Errorf("Get(0): %q, error %d", b, err)
	}
	wantGet(t, p, p.Pages(), "", api.ErrArg)
	p.Wet()
	last := p.Pages() - 1
	wantBool(t, "Rot", p.Rot(last, full('r')), true)
	wantBool(t, "Rot", p.Rot(last, "r"), false)
	wantBool(t, "Rot", p.Rot(-1, full('r')), false)
	wantPower(t, p, false)
	wantBool(t, "On()", p.On(), true)
	p.Twin().Fix()
}

// TestP1402SnagCountsWrites: each mixture of Lay and Fix, with all that is not counted between them.
func TestP1402SnagCountsWrites(t *testing.T) {
	for n := range 6 {
		for mask := range 1 << (n + 1) {
			p := plate.New(9)
			p.Snag(n)
			for i := range n + 1 {
				uncounted(t, p)
				want := api.OK
				if i == n {
					want = api.ErrOff
				}
				if mask>>i&1 == 1 {
					wantLay(t, p, i, full('a'), want)
				} else {
					wantFix(t, p, want)
				}
				wantBool(t, "On()", p.On(), i < n)
			}
			wantPower(t, p, true)
			wantFreeOfSnags(t, p)
		}
		if t.Failed() {
			t.Fatalf("Snag(%d)", n)
		}
	}
}

// wantFreeOfSnags makes many writes, of a disk with power.
func wantFreeOfSnags(t *testing.T, p *plate.Plate) {
	t.Helper()
	for range 20 {
		wantLay(t, p, 0, full('f'), api.OK)
		wantFix(t, p, api.OK)
	}
	wantBool(t, "On()", p.On(), true)
}

// TestP1402SnagAtALay: its page is wet, and is kept or lost as the others are.
func TestP1402SnagAtALay(t *testing.T) {
	for mask := range 1 << 3 {
		p, want := made(t, numbered(4, 1)...), numbered(4, 1)
		var keep []bool
		for i := range 3 {
			keep = append(keep, mask>>i&1 == 1)
			if keep[i] {
				want[i+1] = mixed(i+1, 2)
			}
		}
		p.Snag(2, keep...)
		wantLay(t, p, 3, mixed(3, 2), api.OK)
		wantLay(t, p, 1, mixed(1, 2), api.OK)
		wantLay(t, p, 2, mixed(2, 2), api.ErrOff)
		wantBool(t, "On()", p.On(), false)
		wantWet(t, p)
		wantGet(t, p, 2, "", api.ErrOff)
		wantPower(t, p, true)
		wantFixed(t, p, want...)
	}
}

// TestP1402SnagAtALayOfAWetPage: it is what this Lay laid, or what was fixed; not what was laid ahead of it.
func TestP1402SnagAtALayOfAWetPage(t *testing.T) {
	for _, keep := range []bool{false, true} {
		p := made(t, full('a'))
		wantLay(t, p, 0, full('b'), api.OK)
		p.Snag(0, keep)
		wantLay(t, p, 0, full('c'), api.ErrOff)
		wantPower(t, p, true)
		if keep {
			wantFixed(t, p, full('c'))
		} else {
			wantFixed(t, p, full('a'))
		}
	}
}

// TestP1402SnagAtAFix: it is not done; what is kept is by the keeps alone.
func TestP1402SnagAtAFix(t *testing.T) {
	for mask := range 1 << 3 {
		p, want := made(t, numbered(4, 1)...), numbered(4, 1)
		var keep []bool
		for i := range 3 {
			wantLay(t, p, 3-i, mixed(3-i, 2), api.OK)
			keep = append(keep, mask>>i&1 == 1)
			if keep[i] {
				want[i+1] = mixed(i+1, 2)
			}
		}
		p.Snag(0, keep...)
		wantFix(t, p, api.ErrOff)
		wantBool(t, "On()", p.On(), false)
		wantFix(t, p, api.ErrOff)
		wantPower(t, p, true)
		wantFixed(t, p, want...)
	}
}

// TestP1402SnagWithoutKeeps: all that is wet is lost, that which an earlier Fix fixed is not.
func TestP1402SnagWithoutKeeps(t *testing.T) {
	p := plate.New(3)
	p.Snag(3)
	wantLay(t, p, 0, full('a'), api.OK)
	wantFix(t, p, api.OK)
	wantLay(t, p, 1, full('b'), api.OK)
	wantLay(t, p, 2, full('c'), api.ErrOff)
	wantPower(t, p, true)
	wantFixed(t, p, full('a'), zeros, zeros)
}

// TestP1402SnagKeepsOfAllPlaces: the keep of the last place, and ones behind all places.
func TestP1402SnagKeepsOfAllPlaces(t *testing.T) {
	for _, keeps := range []int{250, 251, 256, 1 << 16} {
		p, want := plate.New(250), slices.Repeat([]string{zeros}, 250)
		keep := make([]bool, keeps)
		for _, k := range []int{0, 63, 64, 127, 128, 249} {
			keep[k], want[k] = true, mixed(k, 1)
		}
		if keeps > 250 {
			keep[250] = true
		}
		p.Snag(249, keep...)
		for k := range 249 {
			wantLay(t, p, k, mixed(k, 1), api.OK)
		}
		wantLay(t, p, 249, mixed(249, 1), api.ErrOff)
		wantPower(t, p, true)
		wantFixed(t, p, want...)
	}
}

// TestP1402SnagKeepsAreItsOwn: the list that was handed in stays as it was, and what its caller makes of it later counts for nothing.
func TestP1402SnagKeepsAreItsOwn(t *testing.T) {
	p := plate.New(3)
	keep := []bool{false, true, false}
	p.Snag(3, keep...)
	keep[0], keep[1], keep[2] = true, false, true
	for k := range 3 {
		wantLay(t, p, k, full('a'), api.OK)
	}
	wantFix(t, p, api.ErrOff)
	if !slices.Equal(keep, []bool{true, false, true}) {
		t.Errorf("the keeps of a Snag were written into: %v", keep)
	}
	wantPower(t, p, true)
	wantFixed(t, p, zeros, full('a'), zeros)
}

func TestP1402SnagOfMany(t *testing.T) {
	for _, n := range []int{math.MaxInt, math.MaxInt32, 1 << 32, 1 << 62} {
		p := plate.New(1)
		p.Snag(n, true)
		wantFreeOfSnags(t, p)
	}
	p := plate.New(1)
	p.Snag(1000)
	for i := range 1000 {
		if err := p.Lay(0, full(byte(i))); err != api.OK {
			t.Fatalf("the write %d of 1000: error %d", i, err)
		}
	}
	wantLay(t, p, 0, full('z'), api.ErrOff)
}

func TestP1402SnagTakenBack(t *testing.T) {
	for _, n := range []int{-1, -2, -64, math.MinInt, math.MinInt + 1, math.MinInt32} {
		p := plate.New(2)
		// Nothing is snagged: there is nothing to take back.
		p.Snag(n)
		wantFreeOfSnags(t, p)
		for _, ahead := range []int{0, 1, 7} {
			p.Snag(ahead, true, true)
			p.Snag(n)
			wantFreeOfSnags(t, p)
			p.Snag(ahead)
			p.Snag(n, true, true)
			wantFreeOfSnags(t, p)
		}
		// Of the keeps nothing is left, either.
		p.Snag(0)
		wantLay(t, p, 1, full('b'), api.ErrOff)
		wantPower(t, p, true)
		wantFixed(t, p, full('f'), zeros)
	}
}

// TestP1402SnagTwice: the later one counts, with its own keeps.
func TestP1402SnagTwice(t *testing.T) {
	for _, c := range []struct{ first, second int }{{0, 2}, {2, 0}, {5, 3}, {1, 1}, {0, 0}, {math.MaxInt, 1}} {
		for _, keep := range []bool{false, true} {
			p := plate.New(1)
			p.Snag(c.first, !keep)
			p.Snag(c.second, keep)
			for range c.second {
				wantLay(t, p, 0, full('a'), api.OK)
			}
			wantLay(t, p, 0, full('b'), api.ErrOff)
			wantPower(t, p, true)
			if keep {
				wantFixed(t, p, full('b'))
			} else {
				wantFixed(t, p, zeros)
			}
			wantFreeOfSnags(t, p)
		}
	}
	p := plate.New(1)
	p.Snag(2, true)
	wantFix(t, p, api.OK)
	p.Snag(1)
	wantFix(t, p, api.OK)
	wantLay(t, p, 0, full('b'), api.ErrOff)
	wantPower(t, p, true)
	wantFixed(t, p, zeros)
}

// TestP1402SnagWithoutPower: it counts from when there is power again.
func TestP1402SnagWithoutPower(t *testing.T) {
	p := plate.New(1)
	wantFall(t, p, nil)
	p.Snag(1, true)
	wantLay(t, p, 0, full('a'), api.ErrOff)
	wantFix(t, p, api.ErrOff)
	wantBool(t, "On()", p.On(), false)
	wantPower(t, p, true)
	wantLay(t, p, 0, full('b'), api.OK)
	wantFix(t, p, api.ErrOff)
	wantPower(t, p, true)
	wantFixed(t, p, full('b'))
	wantFall(t, p, nil)
	p.Snag(0)
	p.Snag(-1)
	wantPower(t, p, true)
	wantFreeOfSnags(t, p)
}

// TestP1402FallTakesTheSnagBack: one that does something; by its own keeps.
func TestP1402FallTakesTheSnagBack(t *testing.T) {
	for _, n := range []int{0, 1, 5} {
		p := plate.New(2)
		wantLay(t, p, 0, full('a'), api.OK)
		p.Snag(n, true, true)
		wantFall(t, p, nil, 0)
		wantPower(t, p, true)
		wantFreeOfSnags(t, p)
		// One with nothing wet does something, too: the power goes.
		p.Snag(n, true, true)
		wantFall(t, p, nil)
		wantPower(t, p, true)
		wantFreeOfSnags(t, p)
		wantFixed(t, p, full('f'), zeros)
	}
}

// TestP1402FallOfNothingLeavesTheSnag: one without power does nothing.
func TestP1402FallOfNothingLeavesTheSnag(t *testing.T) {
	p := plate.New(2)
	wantFall(t, p, nil)
	p.Snag(1, false, true)
	wantFall(t, p, nil)
	wantFall(t, p, []bool{true, true})
	wantPower(t, p, true)
	wantPower(t, p, false)
	wantLay(t, p, 0, full('a'), api.OK)
	wantLay(t, p, 1, full('b'), api.ErrOff)
	wantPower(t, p, true)
	wantFixed(t, p, zeros, full('b'))
}

// TestP1402Rot: of each page, wet or not, with power and without; behind it the page stays.
func TestP1402Rot(t *testing.T) {
	for _, n := range diskSizes() {
		for _, k := range []int{0, n / 2, n - 1} {
			p, want := made(t, numbered(n, 1)...), numbered(n, 1)
			wantBool(t, "Rot of one that is not wet", p.Rot(k, full('r')), true)
			want[k] = full('r')
			wantFixed(t, p, want...)
			wantFall(t, p, nil)
			wantBool(t, "Rot without power", p.Rot(k, full('s')), true)
			wantBool(t, "On()", p.On(), false)
			wantGet(t, p, k, "", api.ErrOff)
			wantPower(t, p, true)
			want[k] = full('s')
			wantFixed(t, p, want...)
			wantFix(t, p, api.OK)
			wantFixed(t, p, want...)
		}
	}
}

func TestP1402RotOfAWetPage(t *testing.T) {
	p := made(t, numbered(70, 1)...)
	want := numbered(70, 1)
	for _, k := range []int{1, 63, 64, 65, 69} {
		wantLay(t, p, k, mixed(k, 2), api.OK)
	}
	wantBool(t, "Rot", p.Rot(64, full('r')), true)
	wantWet(t, p, 1, 63, 65, 69)
	wantGet(t, p, 64, full('r'), api.OK)
	wantBool(t, "Rot", p.Rot(1, full('s')), true)
	wantWet(t, p, 63, 65, 69)
	fixed := p.Twin()
	// The places of the keeps are among those that are wet still.
	wantFall(t, p, []bool{false, true}, 63, 69)
	wantPower(t, p, true)
	want[1], want[64], want[65] = full('s'), full('r'), mixed(65, 2)
	wantFixed(t, p, want...)
	wantFix(t, fixed, api.OK)
	want[63], want[69] = mixed(63, 2), mixed(69, 2)
	wantFixed(t, fixed, want...)
}

// TestP1402LayBehindRot: what is fixed then is what the Rot made.
func TestP1402LayBehindRot(t *testing.T) {
	p := made(t, full('a'))
	wantBool(t, "Rot", p.Rot(0, full('r')), true)
	wantLay(t, p, 0, full('b'), api.OK)
	wantWet(t, p, 0)
	wantFall(t, p, nil, 0)
	wantPower(t, p, true)
	wantFixed(t, p, full('r'))
}

func TestP1402RotOfWhatMayNotBe(t *testing.T) {
	for _, n := range diskSizes() {
		p, want := made(t, numbered(n, 1)...), numbered(n, 1)
		wantLay(t, p, n-1, mixed(n-1, 2), api.OK)
		want[n-1] = mixed(n-1, 2)
		wantNoRot(t, p)
		wantWet(t, p, n-1)
		wantPages(t, p, want...)
		wantFall(t, p, nil, n-1)
		wantNoRot(t, p)
		wantPower(t, p, true)
		wantFixed(t, p, numbered(n, 1)...)
	}
}

// wantNoRot asks for all Rots that may not be.
func wantNoRot(t *testing.T, p *plate.Plate) {
	t.Helper()
	for _, b := range wrongPages() {
		for _, k := range append(outer(p.Pages()), 0, p.Pages()/2, p.Pages()-1) {
			wantBool(t, "Rot of no page", p.Rot(k, b), false)
		}
	}
	for _, k := range outer(p.Pages()) {
		if k < 0 || k >= p.Pages() {
			wantBool(t, "Rot where there is none", p.Rot(k, full('w')), false)
		}
	}
}

// TestP1402TwinIsAlike: with pages that are wet and with a snag; then each goes on by itself.
func TestP1402TwinIsAlike(t *testing.T) {
	p := made(t, numbered(3, 1)...)
	wantLay(t, p, 0, mixed(0, 2), api.OK)
	wantLay(t, p, 2, mixed(2, 2), api.OK)
	p.Snag(1, false, true, true)
	q := p.Twin()
	if q == nil || q == p {
		t.Fatal("Twin is not another one")
	}
	for _, one := range []*plate.Plate{q, p} {
		other := p
		if one == p {
			other = q
		}
		on := other.On()
		wantPages(t, one, mixed(0, 2), mixed(1, 1), mixed(2, 2))
		wantWet(t, one, 0, 2)
		wantLay(t, one, 1, mixed(1, 2), api.OK)
		wantLay(t, one, 1, mixed(1, 3), api.ErrOff)
		wantBool(t, "On() of the other one", other.On(), on)
		wantPower(t, one, true)
		wantFixed(t, one, mixed(0, 1), mixed(1, 3), mixed(2, 2))
	}
}

func TestP1402TwinWithoutPower(t *testing.T) {
	for range 2 {
		p := made(t, numbered(2, 1)...)
		wantFall(t, p, nil)
		q := p.Twin()
		for range 2 {
			wantBool(t, "On()", q.On(), false)
			wantGet(t, q, 0, "", api.ErrOff)
			wantPower(t, q, true)
			wantPages(t, q, numbered(2, 1)...)
			p, q = q, p
		}
	}
}

// TestP1402TwinGoesOnByItself: each call that changes one leaves the other one, whichever is changed.
func TestP1402TwinGoesOnByItself(t *testing.T) {
	calls := map[string]func(*plate.Plate){
		"Lay":       func(p *plate.Plate) { p.Lay(1, full('x')) },
		"Lay again": func(p *plate.Plate) { p.Lay(0, full('x')) },
		"Fix":       func(p *plate.Plate) { p.Fix() },
		"Fall":      func(p *plate.Plate) { p.Fall() },
		"Fall kept": func(p *plate.Plate) { p.Fall(true) },
		"Rot":       func(p *plate.Plate) { p.Rot(0, full('x')) },
		"Rot dry":   func(p *plate.Plate) { p.Rot(2, full('x')) },
		"Snag":      func(p *plate.Plate) { p.Snag(0) },
		"no Snag":   func(p *plate.Plate) { p.Snag(-1) },
		"Snag more": func(p *plate.Plate) { p.Snag(9, true, true, true) },
	}
	for name, call := range calls {
		for side := range 2 {
			p := made(t, numbered(3, 1)...)
			wantLay(t, p, 0, mixed(0, 2), api.OK)
			p.Snag(2, false, true)
			q := p.Twin()
			if side == 1 {
				p, q = q, p
			}
			call(p)
			wantWet(t, q, 0)
			wantPages(t, q, mixed(0, 2), mixed(1, 1), mixed(2, 1))
			wantLay(t, q, 0, mixed(0, 2), api.OK)
			wantLay(t, q, 1, mixed(1, 2), api.OK)
			wantFix(t, q, api.ErrOff)
			wantPower(t, q, true)
			wantFixed(t, q, mixed(0, 1), mixed(1, 2), mixed(2, 1))
			if t.Failed() {
				t.Fatalf("%s of one is seen in the other one", name)
			}
		}
	}
}

// TestP1402NilOnes: a nil one, and one that New did not make.
func TestP1402NilOnes(t *testing.T) {
	for _, none := range []*plate.Plate{nil, {}} {
		// Nothing makes it another one: all is asked again, behind each of the calls.
		for range 2 {
			for _, n := range []int{0, 1, -1, math.MaxInt, math.MinInt} {
				none.Snag(n, true)
				none.Snag(n)
				for _, b := range append(wrongPages(), full('a')) {
					wantLay(t, none, n, b, api.ErrArg)
					wantBool(t, "Rot", none.Rot(n, b), false)
				}
				wantFix(t, none, api.ErrArg)
				wantGet(t, none, n, "", api.ErrArg)
			}
			wantFall(t, none, nil)
			wantFall(t, none, []bool{true, true})
			wantPower(t, none, false)
			wantBool(t, "On()", none.On(), false)
			wantWet(t, none)
			if none.Pages() != 0 || none.Twin() != nil {
				t.Errorf("a nil one: %d, %v", none.Pages(), none.Twin())
			}
		}
	}
}

// model is a disk in plain lists.
type model struct {
	on, snagged bool
	laid, fixed []string
	wet         []bool
	left        int
	keep        []bool
}

func newModel(pages int) *model {
	l := slices.Repeat([]string{zeros}, pages)
	return &model{on: true, laid: l, fixed: slices.Clone(l), wet: make([]bool, pages)}
}

func (m *model) copied() *model {
	c := *m
	c.laid, c.fixed, c.wet, c.keep = slices.Clone(m.laid), slices.Clone(m.fixed), slices.Clone(m.wet), slices.Clone(m.keep)
	return &c
}

func (m *model) mayBe(k int, b string) bool {
	return k >= 0 && k < len(m.laid) && len(b) == api.PageSize
}

func (m *model) wetOnes() []int {
	var l []int
	for k, wet := range m.wet {
		if wet {
			l = append(l, k)
		}
	}
	return l
}

func (m *model) lay(k int, b string) api.Errno {
	switch {
	case !m.on:
		return api.ErrOff
	case !m.mayBe(k, b):
		return api.ErrArg
	}
	m.laid[k], m.wet[k] = b, true
	return m.counted()
}

func (m *model) fix() api.Errno {
	if !m.on {
		return api.ErrOff
	}
	err := m.counted()
	if err == api.OK {
		for k := range m.laid {
			m.fixed[k], m.wet[k] = m.laid[k], false
		}
	}
	return err
}

func (m *model) counted() api.Errno {
	if !m.snagged {
		return api.OK
	}
	if m.left == 0 {
		m.fall(m.keep)
		return api.ErrOff
	}
	m.left--
	return api.OK
}

func (m *model) fall(keep []bool) []int {
	if !m.on {
		return nil
	}
	var lost []int
	for i, k := range m.wetOnes() {
		if i >= len(keep) || !keep[i] {
			lost = append(lost, k)
			m.laid[k] = m.fixed[k]
		}
		m.fixed[k], m.wet[k] = m.laid[k], false
	}
	m.on, m.snagged = false, false
	return lost
}

func (m *model) power() bool {
	was := m.on
	m.on = true
	return !was
}

func (m *model) snag(n int, keep []bool) {
	m.snagged, m.left, m.keep = n >= 0, n, slices.Clone(keep)
}

func (m *model) rot(k int, b string) bool {
	if !m.mayBe(k, b) {
		return false
	}
	m.laid[k], m.fixed[k], m.wet[k] = b, b, false
	return true
}

// wantModel holds all that a disk shows, and what is fixed of it, against the model.
func wantModel(t *testing.T, p *plate.Plate, m *model) {
	t.Helper()
	wantBool(t, "On()", p.On(), m.on)
	wantWet(t, p, m.wetOnes()...)
	fixed := p.Twin()
	fixed.Fall()
	fixed.Power()
	if p.Pages() != len(m.laid) {
		t.Fatalf("Pages(): %d, not %d", p.Pages(), len(m.laid))
	}
	for k := range m.laid {
		if m.on {
			wantGet(t, p, k, m.laid[k], api.OK)
		} else {
			wantGet(t, p, k, "", api.ErrOff)
		}
		wantGet(t, fixed, k, m.fixed[k], api.OK)
	}
}

// call makes one call that is drawn of a disk and of its model.
func call(t *testing.T, q *sequence, p *plate.Plate, m *model) {
	t.Helper()
	k, b := q.below(len(m.laid)+3)-1, mixed(q.below(4), q.below(4))
	if q.below(8) == 0 {
		b = b[:q.below(api.PageSize)]
	}
	switch q.below(16) {
	case 0, 1:
		wantFix(t, p, m.fix())
	case 2:
		keep := q.bools(q.below(len(m.laid) + 4))
		wantLost := m.fall(keep)
		if got := p.Fall(keep...); !slices.Equal(got, wantLost) {
			t.Errorf("Fall(%v): %v, not %v", keep, got, wantLost)
		}
	case 3, 4, 5:
		wantPower(t, p, m.power())
	case 6, 7:
		n, keep := q.below(12)-1, q.bools(q.below(len(m.laid)+4))
		p.Snag(n, keep...)
		m.snag(n, keep)
	case 8:
		wantBool(t, "Rot", p.Rot(k, b), m.rot(k, b))
	default:
		wantLay(t, p, k, b, m.lay(k, b))
	}
}

// TestP1402ManyCalls holds many calls, in any order, and twins made between them, against the model.
func TestP1402ManyCalls(t *testing.T) {
	for seed := range 300 {
		q := sequence(seed)
		pages := 1 + q.below(8)
		if seed%10 == 0 {
			pages = 1 + q.below(api.MaxPages)
		}
		p, m := plate.New(pages), newModel(pages)
		other, otherModel := p.Twin(), m.copied()
		for range 120 {
			call(t, &q, p, m)
			if q.below(10) == 0 {
				other, otherModel = p.Twin(), m.copied()
			}
			if q.below(6) == 0 {
				p, m, other, otherModel = other, otherModel, p, m
			}
			wantModel(t, p, m)
			if t.Failed() {
				t.Fatalf("seed %d, %d pages", seed, pages)
			}
		}
		wantModel(t, other, otherModel)
	}
}
