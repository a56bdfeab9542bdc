package binder_test

import (
	"fmt"
	"testing"

	"emulsion/api"
	"emulsion/binder"
	"emulsion/plate"
)

// keeps tells the n-th way to keep some of so many pages.
func keeps(n, of int) []bool {
	l := make([]bool, of)
	for i := range l {
		l[i] = n>>i&1 == 1
	}
	return l
}

// step is some commits, and then one in which the power falls.
type step struct {
	pages int
	ahead [][]binder.Change
	last  []binder.Change
}

func steps() []step {
	five := []binder.Change{put(5, "five")}
	some := []binder.Change{put(1, "old"), put(2, rep(60, 's')), put(3, "")}
	return []step{
		{4, nil, nil},
		{6, nil, five},
		{6, [][]binder.Change{nil}, five},
		{6, [][]binder.Change{five}, []binder.Change{put(5, "other")}},
		{6, [][]binder.Change{five}, []binder.Change{gone(5)}},
		{8, [][]binder.Change{five, {put(5, "5")}}, five},
		{20, [][]binder.Change{some}, []binder.Change{put(1, "new")}},
		{20, [][]binder.Change{some}, []binder.Change{put(2, rep(50, 'n')), gone(1), put(4, "four")}},
		{20, [][]binder.Change{some, {gone(2)}, {put(7, rep(30, '7'))}}, []binder.Change{put(1, "new"), put(7, ""), put(8, "eight")}},
		{60, [][]binder.Change{some, all(20, "x")}, []binder.Change{put(1, rep(28, 'y')), gone(20)}},
		{60, [][]binder.Change{all(60, "")}, []binder.Change{gone(60)}},
	}
}

// prepare opens a binder ahead of the last commit of a step.
func (s step) prepare(t *testing.T) *bench {
	t.Helper()
	x := newBench(t, s.pages)
	for _, l := range s.ahead {
		x.commit(api.OK, l...)
	}
	return x
}

// fall lets the power fall at the n-th write of a commit: the binder and the disk are as the words say. What is there behind it, by the words.
func (x *bench) fall(n int, keep []bool, l ...binder.Change) *model {
	x.t.Helper()
	what := fmt.Sprint("the power falls at ", n, ", ", keep, " are kept")
	err, writes, next := x.m.commit(len(x.disk), l)
	if err != api.OK || n >= len(writes) {
		x.t.Fatalf("%s: error %d, %d writes", what, err, len(writes))
	}
	x.p.Snag(n, keep...)
	wantErr(x.t, what, x.b.Commit(l...), api.ErrOff)
	if x.p.On() {
		x.t.Errorf("%s: there is power", what)
	}
	x.disk = fallen(x.disk, writes, n, keep)
	x.wantOff(what)
	x.p.Power()
	x.wantOff(what + ", power again")
	// The slot is the last page that is laid: it lasts, if it is kept.
	if n >= len(writes)-2 && len(keep) > 0 && keep[0] {
		return next
	}
	return x.m
}

// wantModel holds a binder that is opened anew against what it has by the words.
func (x *bench) wantModel(what string, m *model) *bench {
	x.t.Helper()
	y := benchOn(x.t, x.p)
	wantKept(x.t, what, y.b, m, len(x.disk))
	for key := range 92 {
		if size, is := m.sizes[key]; is {
			text, ok := textOn(x.disk, m.where[key], size)
			if !ok {
				x.t.Errorf("%s: of the thing %d something is lost", what, key)
			}
			wantGet(x.t, what, y.b, key, text, api.OK)
		} else {
			wantGet(x.t, what, y.b, key, "", api.ErrNone)
		}
	}
	wantList(x.t, what+": Check", y.b.Check(), nil)
	return y
}

func TestP1602HowManyWritesThereAre(t *testing.T) {
	for _, s := range steps() {
		x := s.prepare(t)
		_, writes, _ := x.m.commit(s.pages, s.last)
		x.p.Snag(len(writes))
		x.commit(api.OK, s.last...)
		wantErr(t, "the next write", x.p.Fix(), api.ErrOff)
		x.p.Power()
		x.wantModel("all is done", x.m)
	}
}

func TestP1602P1603TheDiskAtEachWrite(t *testing.T) {
	for _, s := range steps() {
		_, writes, _ := s.prepare(t).m.commit(s.pages, s.last)
		for n := range writes {
			wet := len(wetAt(writes, n))
			for mask := range 1 << min(wet, 6) {
				x := s.prepare(t)
				keep := keeps(mask, wet)
				m := x.fall(n, keep, s.last...)
				y := x.wantModel(fmt.Sprint("opened behind the write ", n, " ", keep), m)
				y.commit(api.OK)
				y.wantModel("gone on with", y.m)
			}
			for _, keep := range [][]bool{nil, keeps(-1, wet), keeps(-1, 60)} {
				x := s.prepare(t)
				x.wantModel(fmt.Sprint("opened behind the write ", n), x.fall(n, keep, s.last...))
			}
		}
	}
}

func TestP1602P1603ACommitAfterAFall(t *testing.T) {
	for _, s := range steps() {
		_, writes, _ := s.prepare(t).m.commit(s.pages, s.last)
		for n := range writes {
			for again := range writes {
				for mask := range 4 {
					x := s.prepare(t)
					m := x.fall(n, keeps(mask, 4), s.last...)
					if m != x.m {
						continue
					}
					y := x.wantModel("once", m)
					m = y.fall(again, keeps(mask/2, 4), s.last...)
					y.wantModel("twice", m).commit(api.OK)
				}
			}
		}
	}
}

func TestP1602WithoutPowerAheadOfIt(t *testing.T) {
	for _, l := range [][]binder.Change{nil, {put(5, "other")}, {gone(5)}, {put(6, "")}} {
		x := newBench(t, 20)
		x.commit(api.OK, put(5, "five"))
		x.p.Fall()
		wantErr(t, "without power", x.b.Commit(l...), api.ErrOff)
		x.wantOff("without power")
		x.p.Power()
		x.wantOff("power again")
		x.p.Fall()
		x.wantOff("and none again")
		x.p.Power()
		x.wantModel("opened anew", x.m).commit(api.OK, put(5, "new"))
	}
}

func TestP1602WithPowerAgainAheadOfIt(t *testing.T) {
	x := newBench(t, 20)
	x.commit(api.OK, put(5, "five"))
	x.p.Fall()
	x.p.Power()
	x.commit(api.OK, put(5, "other"))
	wantGet(t, "it goes on", x.b, 5, "other", api.OK)
}

func TestP1602OffWritesNothing(t *testing.T) {
	x := newBench(t, 20)
	x.commit(api.OK, put(5, "five"))
	x.fall(0, nil, put(5, "other"))
	x.p.Snag(0)
	x.wantOff("off, and snagged")
	if !x.p.On() {
		t.Error("something was written")
	}
	wantList(t, "Wet", x.p.Wet(), nil)
}

func TestP1602ANewBinderThatIsOff(t *testing.T) {
	x := newBench(t, 20)
	x.fall(1, []bool{true, true}, put(5, "five"))
	wantInt(t, "Gen", x.b.Gen(), 0)
	wantList(t, "Used", x.b.Used(), nil)
	wantInt(t, "Free", x.b.Free(), 18)
	wantGet(t, "off", x.b, 5, "", api.ErrOff)
	x.wantModel("opened anew", x.m).commit(api.OK, put(5, "five"))
}

func TestP1603AfterOKAllOfBehind(t *testing.T) {
	var q sequence = 1603
	for range 100 {
		x := newBench(t, 40)
		for range 6 {
			x.commit(api.OK, q.changes(x.m, 3)...)
			if q.below(2) == 0 {
				wantList(t, "nothing is lost", x.p.Fall(q.bools(3)...), nil)
				x.p.Power()
			}
			x = x.wantModel("opened anew", x.m)
		}
	}
}

func TestP1603ManyFalls(t *testing.T) {
	var q sequence = 16031
	for range 150 {
		x := newBench(t, 10+q.below(60))
		for range 20 {
			l := q.changes(x.m, 4)
			err, writes, _ := x.m.commit(len(x.disk), l)
			if err != api.OK || q.below(3) == 0 {
				x.commit(err, l...)
				continue
			}
			m := x.fall(q.below(len(writes)), q.bools(q.below(20)), l...)
			x = x.wantModel("opened anew", m)
		}
	}
}

func TestP1601P1602P1603ManyCalls(t *testing.T) {
	var q sequence = 16032
	for range 300 {
		x := newBench(t, 4+q.below(30))
		for range 40 {
			if x = x.any(&q); x == nil {
				break
			}
		}
	}
}

// any does one thing or another: the bench that goes on, nil, if nothing can be opened any more.
func (x *bench) any(q *sequence) *bench {
	x.t.Helper()
	l := q.changes(x.m, 3)
	if q.below(6) == 0 {
		l = append(l, binder.Change{Key: q.below(100), Bytes: q.some(q.below(320)), Gone: q.below(3) == 0})
	}
	err, writes, _ := x.m.commit(len(x.disk), l)
	switch n := q.below(10); {
	case n == 0 && err == api.OK:
		x.fall(q.below(len(writes)), q.bools(q.below(20)), l...)
		return x.again()
	case n <= 6:
		x.commit(err, l...)
	case n == 7:
		return x.again()
	case n == 8:
		x.p.Fall()
		x.p.Power()
		x.wantAll("the power fell")
	default:
		x.rot(q.below(len(x.disk)), q.page(x.disk))
		x.wantAll("a page is another")
	}
	return x
}

// page draws a page: one of the disk's, or of other bytes.
func (q *sequence) page(disk []string) string {
	switch q.below(5) {
	case 0:
		return rotten
	case 1:
		return laid(q.some(q.below(28)))
	case 2:
		return slotted(1+q.below(40), 2+q.below(20))
	case 3:
		return laid(emptyThings(1+q.below(50), 51+q.below(50)))
	}
	return disk[q.below(len(disk))]
}

// again opens anew what stands on the disk; nil, if that is ErrCorrupt, as it is by the words.
func (x *bench) again() *bench {
	x.t.Helper()
	_, ok := opened(x.disk)
	if ok {
		return benchOn(x.t, x.p)
	}
	if b, err := binder.Open(x.p); b != nil || err != api.ErrCorrupt {
		x.t.Errorf("Open: %v, error %d, not %d", b != nil, err, api.ErrCorrupt)
	}
	return nil
}

func TestP1603WhateverIsKeptOfAllThatIsWet(t *testing.T) {
	// Ten pages are wet ahead of the first Fix: each way to keep some of them.
	p := plate.New(30)
	s := step{30, [][]binder.Change{{put(1, rep(100, 'o')), put(2, "stays")}}, []binder.Change{put(1, rep(120, 'n')), put(3, rep(100, 'm'))}}
	x := s.prepare(t)
	_, writes, _ := x.m.commit(30, s.last)
	for n, w := range writes {
		if w.page != fix {
			continue
		}
		wet := len(wetAt(writes, n))
		for mask := range 1 << wet {
			y := &bench{t: t, p: x.p.Twin(), m: x.m, disk: x.disk}
			y.b, _ = binder.Open(y.p)
			keep := keeps(mask, wet)
			y.p.Snag(n, keep...)
			wantErr(t, "the power falls", y.b.Commit(s.last...), api.ErrOff)
			y.p.Power()
			wantDisk(t, fmt.Sprint("kept ", keep), y.p, fallen(x.disk, writes, n, keep))
			c, err := binder.Open(y.p)
			wantErr(t, "opened anew", err, api.OK)
			one, three, three0 := rep(100, 'o'), "", api.ErrNone
			if n == len(writes)-1 && mask == 1 {
				one, three, three0 = rep(120, 'n'), rep(100, 'm'), api.OK
			}
			wantGet(t, "kept", c, 1, one, api.OK)
			wantGet(t, "kept", c, 2, "stays", api.OK)
			wantGet(t, "kept", c, 3, three, three0)
		}
	}
	wantInt(t, "a plate of so many", p.Pages(), 30)
}
