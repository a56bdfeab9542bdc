package track_test

import (
	"math"
	"slices"
	"testing"

	"emulsion/api"
	"emulsion/runs"
	"emulsion/track"
)

// sequence draws the same numbers in each run.
type sequence uint64

func (q *sequence) below(n int) int {
	*q = *q*6364136223846793005 + 1442695040888963407
	return int(uint64(*q) >> 33 % uint64(n))
}

func sp(from, n int) api.Span { return api.Span{From: from, N: n} }

// made makes a new one, which is lost.
func made(t *testing.T, blocks int) *track.Track {
	t.Helper()
	k, err := track.New(blocks)
	if k == nil || err != api.OK {
		t.Fatalf("New(%d): %v, %d", blocks, k, err)
	}
	return k
}

// known makes one that is not lost, with the given marks.
func known(t *testing.T, blocks int, l ...api.Span) *track.Track {
	t.Helper()
	k := made(t, blocks)
	wantErr(t, "Freeze", k.Freeze(), api.OK)
	wantErr(t, "Commit", k.Commit(), api.OK)
	for _, s := range l {
		k.Mark(s)
	}
	return k
}

func wantErr(t *testing.T, what string, got, want api.Errno) {
	t.Helper()
	if got != want {
		t.Errorf("%s: %d, not %d", what, got, want)
	}
}

func wantMark(t *testing.T, k *track.Track, s api.Span, want int) {
	t.Helper()
	if got := k.Mark(s); got != want {
		t.Errorf("Mark(%v): %d, not %d", s, got, want)
	}
}

func wantSet(t *testing.T, what string, got *runs.Runs, want ...api.Span) {
	t.Helper()
	if got == nil || !slices.Equal(got.All(), want) {
		t.Errorf("%s: %v, not %v", what, got.All(), want)
	}
}

func wantNow(t *testing.T, k *track.Track, want ...api.Span) {
	t.Helper()
	wantSet(t, "Now", k.Now(), want...)
}

func wantFrozen(t *testing.T, k *track.Track, want ...api.Span) {
	t.Helper()
	wantSet(t, "Frozen", k.Frozen(), want...)
}

func wantState(t *testing.T, k *track.Track, lost, busy bool) {
	t.Helper()
	if k.Lost() != lost || k.Busy() != busy {
		t.Errorf("Lost %v, Busy %v, not %v, %v", k.Lost(), k.Busy(), lost, busy)
	}
}

func TestP601Example(t *testing.T) {
	k := made(t, 4)
	wantErr(t, "Freeze", k.Freeze(), api.OK)
	wantErr(t, "Commit", k.Commit(), api.OK)
	wantMark(t, k, sp(1, 1), 1)
	wantErr(t, "Freeze", k.Freeze(), api.OK)
	wantFrozen(t, k, sp(1, 1))
}

func TestP601NewOfEachNumber(t *testing.T) {
	for blocks := 1; blocks <= api.MaxBlocks; blocks++ {
		k := made(t, blocks)
		wantState(t, k, true, false)
		wantNow(t, k, sp(0, blocks))
		wantFrozen(t, k)
		wantMark(t, k, sp(0, api.MaxBlocks), blocks)
	}
	for _, blocks := range []int{0, -1, -64, math.MinInt, api.MaxBlocks + 1, 128, 1 << 61, 1 << 62, math.MaxInt} {
		if k, err := track.New(blocks); k != nil || err != api.ErrArg {
			t.Errorf("New(%d): %v, %d", blocks, k, err)
		}
	}
}

// TestP601NewHasNoMarks: a new one counts all blocks, but none is marked itself.
func TestP601NewHasNoMarks(t *testing.T) {
	k := made(t, 4)
	wantMark(t, k, sp(1, 2), 2)
	wantMark(t, k, sp(1, 3), 1)
	wantNow(t, k, sp(0, 4))
	wantState(t, k, true, false)
}

// TestP601MarkEachSpan marks each span, whole or not, of blocks that there are and are not.
func TestP601MarkEachSpan(t *testing.T) {
	for _, blocks := range []int{1, 5, 63, 64} {
		for from := -2; from <= api.MaxBlocks+1; from++ {
			for n := -1; n <= api.MaxBlocks+1; n++ {
				k := known(t, blocks)
				var want []api.Span
				count := 0
				if from >= 0 && n >= 1 && from+n <= api.MaxBlocks && from < blocks {
					count = min(from+n, blocks) - from
					want = append(want, sp(from, count))
				}
				wantMark(t, k, sp(from, n), count)
				wantMark(t, k, sp(from, n), 0)
				wantNow(t, k, want...)
			}
		}
		if t.Failed() {
			t.Fatalf("%d blocks", blocks)
		}
	}
}

func TestP601MarkOfWrongNumbers(t *testing.T) {
	wrong := []int{-1, math.MinInt, math.MinInt + 1, math.MaxInt, math.MaxInt - 1, 1 << 61, 1 << 62, 65}
	k := known(t, 64)
	for _, a := range wrong {
		for _, b := range append([]int{0, 1, 64}, wrong...) {
			wantMark(t, k, sp(a, b), 0)
			wantMark(t, k, sp(b, a), 0)
		}
	}
	wantNow(t, k)
}

func TestP601MarkTellsThoseThatWereNot(t *testing.T) {
	k := known(t, 10)
	wantMark(t, k, sp(2, 3), 3)
	wantMark(t, k, sp(0, 10), 7)
	wantMark(t, k, sp(0, 10), 0)
	// What is frozen is not marked any more, so it is new again.
	wantErr(t, "Freeze", k.Freeze(), api.OK)
	wantMark(t, k, sp(9, 1), 1)
	wantMark(t, k, sp(8, 9), 1)
}

func TestP601FreezeWhileBusy(t *testing.T) {
	k := known(t, 6, sp(1, 2))
	wantErr(t, "Freeze", k.Freeze(), api.OK)
	wantState(t, k, false, true)
	wantMark(t, k, sp(4, 1), 1)
	wantErr(t, "Freeze again", k.Freeze(), api.ErrBusy)
	wantState(t, k, false, true)
	wantFrozen(t, k, sp(1, 2))
	wantNow(t, k, sp(4, 1))
	k.Lose()
	wantErr(t, "Freeze again", k.Freeze(), api.ErrBusy)
	wantState(t, k, true, true)
	wantFrozen(t, k, sp(1, 2))
}

func TestP601FreezeOfNoMarks(t *testing.T) {
	k := known(t, 6)
	wantErr(t, "Freeze", k.Freeze(), api.OK)
	wantState(t, k, false, true)
	wantFrozen(t, k)
	wantErr(t, "Freeze again", k.Freeze(), api.ErrBusy)
	wantErr(t, "Back", k.Back(), api.OK)
	wantState(t, k, false, false)
	wantNow(t, k)
}

func TestP601FrozenOfOneThatWasLost(t *testing.T) {
	for _, blocks := range []int{1, 4, 63, 64} {
		k := made(t, blocks)
		k.Mark(sp(0, 1))
		wantErr(t, "Freeze", k.Freeze(), api.OK)
		wantState(t, k, false, true)
		wantFrozen(t, k, sp(0, blocks))
		wantNow(t, k)
		wantErr(t, "Commit", k.Commit(), api.OK)
		wantState(t, k, false, false)
		wantFrozen(t, k)
		wantNow(t, k)
	}
}

func TestP601FrozenWhileIdle(t *testing.T) {
	k := made(t, 4)
	wantFrozen(t, k)
	k = known(t, 4, sp(0, 2))
	wantFrozen(t, k)
	wantErr(t, "Freeze", k.Freeze(), api.OK)
	wantErr(t, "Back", k.Back(), api.OK)
	wantFrozen(t, k)
}

func TestP601CommitAndBackWhileIdle(t *testing.T) {
	lost := made(t, 4)
	lost.Mark(sp(3, 1))
	plain := known(t, 4, sp(1, 2))
	for range 2 {
		for _, k := range []*track.Track{lost, plain} {
			wantErr(t, "Commit", k.Commit(), api.ErrIdle)
			wantErr(t, "Back", k.Back(), api.ErrIdle)
		}
		wantState(t, lost, true, false)
		wantNow(t, lost, sp(0, 4))
		wantState(t, plain, false, false)
		wantNow(t, plain, sp(1, 2))
		wantErr(t, "Freeze", plain.Freeze(), api.OK)
		wantErr(t, "Back", plain.Back(), api.OK)
	}
	wantMark(t, lost, sp(3, 1), 0)
}

func TestP601CommitKeepsTheMarksOfNow(t *testing.T) {
	k := known(t, 8, sp(0, 3))
	wantErr(t, "Freeze", k.Freeze(), api.OK)
	wantMark(t, k, sp(2, 3), 3)
	wantErr(t, "Commit", k.Commit(), api.OK)
	wantState(t, k, false, false)
	wantNow(t, k, sp(2, 3))
	wantFrozen(t, k)
	wantErr(t, "Freeze", k.Freeze(), api.OK)
	wantFrozen(t, k, sp(2, 3))
	wantNow(t, k)
}

func TestP601BackPutsMarksBesideThoseOfNow(t *testing.T) {
	k := known(t, 8, sp(0, 2), sp(5, 1))
	wantErr(t, "Freeze", k.Freeze(), api.OK)
	wantMark(t, k, sp(1, 2), 2)
	wantErr(t, "Back", k.Back(), api.OK)
	wantState(t, k, false, false)
	wantNow(t, k, sp(0, 3), sp(5, 1))
	wantFrozen(t, k)
	wantMark(t, k, sp(0, 8), 4)
}

func TestP601BackOfOneThatWasLost(t *testing.T) {
	k := made(t, 5)
	k.Mark(sp(1, 1))
	wantErr(t, "Freeze", k.Freeze(), api.OK)
	wantState(t, k, false, true)
	wantMark(t, k, sp(3, 1), 1)
	wantNow(t, k, sp(3, 1))
	wantErr(t, "Back", k.Back(), api.OK)
	wantState(t, k, true, false)
	wantNow(t, k, sp(0, 5))
	// The marks themselves are those of both sets.
	wantMark(t, k, sp(0, 5), 3)
	wantErr(t, "Freeze", k.Freeze(), api.OK)
	wantFrozen(t, k, sp(0, 5))
}

func TestP601LoseWhileIdle(t *testing.T) {
	k := known(t, 5, sp(2, 1))
	k.Lose()
	k.Lose()
	wantState(t, k, true, false)
	wantNow(t, k, sp(0, 5))
	wantFrozen(t, k)
	wantMark(t, k, sp(1, 3), 2)
	wantErr(t, "Freeze", k.Freeze(), api.OK)
	wantFrozen(t, k, sp(0, 5))
	wantErr(t, "Commit", k.Commit(), api.OK)
	wantState(t, k, false, false)
	wantNow(t, k)
}

// TestP601LoseWhileBusy: what is lost is what is written now; what was frozen is known.
func TestP601LoseWhileBusy(t *testing.T) {
	for _, commit := range []bool{true, false} {
		k := known(t, 5, sp(2, 1))
		wantErr(t, "Freeze", k.Freeze(), api.OK)
		wantMark(t, k, sp(4, 1), 1)
		k.Lose()
		wantState(t, k, true, true)
		wantFrozen(t, k, sp(2, 1))
		wantNow(t, k, sp(0, 5))
		if commit {
			wantErr(t, "Commit", k.Commit(), api.OK)
			wantMark(t, k, sp(0, 5), 4)
		} else {
			wantErr(t, "Back", k.Back(), api.OK)
			wantMark(t, k, sp(0, 5), 3)
		}
		wantState(t, k, true, false)
		wantNow(t, k, sp(0, 5))
		wantErr(t, "Freeze", k.Freeze(), api.OK)
		wantFrozen(t, k, sp(0, 5))
		wantState(t, k, false, true)
	}
}

func TestP601LastBlockOfMaxBlocks(t *testing.T) {
	last := sp(api.MaxBlocks-1, 1)
	k := known(t, api.MaxBlocks)
	wantMark(t, k, last, 1)
	wantErr(t, "Freeze", k.Freeze(), api.OK)
	wantFrozen(t, k, last)
	wantNow(t, k)
	wantErr(t, "Back", k.Back(), api.OK)
	wantNow(t, k, last)
}

// TestP601AnswersStand changes each set that was answered, and goes on behind it.
func TestP601AnswersStand(t *testing.T) {
	k := known(t, 6, sp(0, 2))
	now := k.Now()
	wantMark(t, k, sp(4, 1), 1)
	wantSet(t, "Now of before", now, sp(0, 2))
	now.Put(sp(0, 6))
	wantNow(t, k, sp(0, 2), sp(4, 1))
	wantErr(t, "Freeze", k.Freeze(), api.OK)
	frozen := k.Frozen()
	frozen.Cut(sp(0, 6))
	wantFrozen(t, k, sp(0, 2), sp(4, 1))
	frozen = k.Frozen()
	wantErr(t, "Back", k.Back(), api.OK)
	wantSet(t, "Frozen of before", frozen, sp(0, 2), sp(4, 1))
	k.Lose()
	k.Now().Cut(sp(1, 1))
	wantNow(t, k, sp(0, 6))
	wantErr(t, "Freeze", k.Freeze(), api.OK)
	k.Frozen().Cut(sp(1, 1))
	wantFrozen(t, k, sp(0, 6))
	wantErr(t, "Back", k.Back(), api.OK)
	// Neither of the answers was taken for marks.
	wantMark(t, k, sp(0, 6), 3)
	k.Commit()
	k.Frozen().Put(sp(0, 6))
	wantFrozen(t, k)
	wantState(t, k, true, false)
}

func TestP601CopyOfOneThatIsIdle(t *testing.T) {
	k := known(t, 6, sp(0, 2))
	c := k.Copy()
	if c == nil || c == k {
		t.Fatal("Copy is not another one")
	}
	for _, one := range []*track.Track{k, c} {
		wantState(t, one, false, false)
		wantNow(t, one, sp(0, 2))
		wantFrozen(t, one)
		wantErr(t, "Commit", one.Commit(), api.ErrIdle)
	}
	wantMark(t, c, sp(0, 9), 4)
	wantNow(t, k, sp(0, 2))
	wantMark(t, k, sp(5, 1), 1)
	c.Lose()
	wantState(t, k, false, false)
	wantErr(t, "Freeze", k.Freeze(), api.OK)
	wantState(t, c, true, false)
	wantNow(t, c, sp(0, 6))
	wantFrozen(t, k, sp(0, 2), sp(5, 1))
	// A copy of one that is lost has the marks themselves, too.
	d := c.Copy()
	wantState(t, d, true, false)
	wantMark(t, d, sp(0, 6), 0)
	d = made(t, 6).Copy()
	wantState(t, d, true, false)
	wantMark(t, d, sp(0, 6), 6)
}

func TestP601CopyOfOneThatIsBusy(t *testing.T) {
	k := known(t, 6, sp(0, 2))
	wantErr(t, "Freeze", k.Freeze(), api.OK)
	wantMark(t, k, sp(3, 1), 1)
	c := k.Copy()
	for _, one := range []*track.Track{k, c} {
		wantState(t, one, false, true)
		wantNow(t, one, sp(3, 1))
		wantFrozen(t, one, sp(0, 2))
		wantErr(t, "Freeze", one.Freeze(), api.ErrBusy)
	}
	wantMark(t, c, sp(4, 1), 1)
	wantErr(t, "Back of the copy", c.Back(), api.OK)
	wantMark(t, c, sp(2, 1), 1)
	wantNow(t, c, sp(0, 5))
	wantState(t, k, false, true)
	wantFrozen(t, k, sp(0, 2))
	wantNow(t, k, sp(3, 1))
	wantErr(t, "Commit", k.Commit(), api.OK)
	wantNow(t, k, sp(3, 1))
	// What was frozen while lost is so in the copy, whatever becomes of the first.
	k = made(t, 6)
	wantErr(t, "Freeze", k.Freeze(), api.OK)
	c = k.Copy()
	wantErr(t, "Commit", k.Commit(), api.OK)
	wantState(t, c, false, true)
	wantFrozen(t, c, sp(0, 6))
	wantErr(t, "Back of the copy", c.Back(), api.OK)
	wantState(t, c, true, false)
	wantState(t, k, false, false)
}

func TestP601NilOnes(t *testing.T) {
	for _, none := range []*track.Track{nil, {}} {
		for range 2 {
			wantMark(t, none, sp(0, 1), 0)
			wantMark(t, none, sp(-1, math.MinInt), 0)
			wantErr(t, "Freeze", none.Freeze(), api.ErrArg)
			wantErr(t, "Commit", none.Commit(), api.ErrArg)
			wantErr(t, "Back", none.Back(), api.ErrArg)
			wantState(t, none, false, false)
			wantNow(t, none)
			wantFrozen(t, none)
			if none.Copy() != nil {
				t.Error("a nil one has a copy")
			}
			none.Now().Put(sp(0, 1))
			none.Frozen().Put(sp(0, 1))
			none.Lose()
		}
	}
}

// model is a Track in plain lists.
type model struct {
	blocks            int
	now, frozen       map[int]bool
	lost, busy, wasIt bool
}

func (m *model) copied() *model {
	c := *m
	c.now, c.frozen = map[int]bool{}, map[int]bool{}
	for k := range m.now {
		c.now[k] = true
	}
	for k := range m.frozen {
		c.frozen[k] = true
	}
	return &c
}

func (m *model) mark(s api.Span) int {
	n := 0
	for k := s.From; s.From >= 0 && s.From+s.N <= api.MaxBlocks && k < s.From+s.N; k++ {
		if k < m.blocks && !m.now[k] {
			m.now[k] = true
			n++
		}
	}
	return n
}

func (m *model) freeze() api.Errno {
	if m.busy {
		return api.ErrBusy
	}
	m.frozen, m.wasIt, m.busy = m.now, m.lost, true
	m.now, m.lost = map[int]bool{}, false
	return api.OK
}

func (m *model) end(back bool) api.Errno {
	if !m.busy {
		return api.ErrIdle
	}
	if back {
		for k := range m.frozen {
			m.now[k] = true
		}
		m.lost = m.lost || m.wasIt
	}
	m.frozen, m.wasIt, m.busy = nil, false, false
	return api.OK
}

// wantModel holds all that a Track shows against the model.
func wantModel(t *testing.T, k *track.Track, m *model) {
	t.Helper()
	wantState(t, k, m.lost, m.busy)
	now, frozen := k.Now(), k.Frozen()
	for b := -1; b <= api.MaxBlocks; b++ {
		thereIs := b >= 0 && b < m.blocks
		if now.Has(b) != (thereIs && (m.lost || m.now[b])) {
			t.Errorf("Now has the block %d: %v", b, now.Has(b))
		}
		if frozen.Has(b) != (thereIs && (m.wasIt || m.frozen[b])) {
			t.Errorf("Frozen has the block %d: %v", b, frozen.Has(b))
		}
	}
}

// TestP601ManyCalls holds many calls, in any order, against the model.
func TestP601ManyCalls(t *testing.T) {
	for seed := range 120 {
		q := sequence(seed)
		blocks := 1 + q.below(api.MaxBlocks)
		if seed%4 == 0 {
			blocks = api.MaxBlocks
		}
		k, m := made(t, blocks), &model{blocks: blocks, now: map[int]bool{}, lost: true}
		other, otherModel := k.Copy(), m.copied()
		for range 120 {
			switch q.below(12) {
			case 0, 1, 2, 3, 4:
				s := sp(q.below(blocks+3)-1, q.below(9)-1)
				wantMark(t, k, s, m.mark(s))
			case 5, 6:
				wantErr(t, "Freeze", k.Freeze(), m.freeze())
			case 7:
				wantErr(t, "Commit", k.Commit(), m.end(false))
			case 8, 9:
				wantErr(t, "Back", k.Back(), m.end(true))
			case 10:
				if q.below(3) == 0 {
					k.Lose()
					m.lost = true
				}
			case 11:
				// From here on the other one goes on, and this one stands.
				if q.below(2) == 0 {
					other, otherModel = k.Copy(), m.copied()
				}
				k, m, other, otherModel = other, otherModel, k, m
			}
			wantModel(t, k, m)
			wantModel(t, other, otherModel)
			if t.Failed() {
				t.Fatalf("seed %d, %d blocks", seed, blocks)
			}
		}
	}
}
