package still_test

import (
	"math"
	"slices"
	"strings"
	"testing"

	"emulsion/api"
	"emulsion/film"
	"emulsion/still"
)

// sequence draws the same numbers in each run.
type sequence uint64

func (q *sequence) below(n int) int {
	*q = *q*6364136223846793005 + 1442695040888963407
	return int(uint64(*q) >> 33 % uint64(n))
}

func zeros(n int) string { return strings.Repeat("\x00", n) }

// outer are numbers that are no block of a volume of so many.
func outer(blocks int) []int {
	return []int{-1, -2, -64, math.MinInt, math.MinInt + 1, blocks, blocks + 1, 64, 65, 128, 1 << 61, 1 << 62, math.MaxInt}
}

// made makes a volume whose bytes are the given ones, and a Still of it.
func made(t *testing.T, bytes string) (*film.Film, *still.Still) {
	t.Helper()
	f, err := film.New(len(bytes) / api.BlockSize)
	if err != api.OK {
		t.Fatalf("film.New(%d): %d", len(bytes)/api.BlockSize, err)
	}
	if err := f.Write(0, bytes); err != api.OK {
		t.Fatalf("film's Write(0, %q): %d", bytes, err)
	}
	s, err := still.New(f)
	if s == nil || err != api.OK {
		t.Fatalf("New: %v, %d", s, err)
	}
	return f, s
}

// numbered makes the bytes of so many blocks that are all unlike.
func numbered(blocks int) string {
	var b strings.Builder
	for k := range blocks {
		b.WriteString(strings.Repeat(string(rune('0'+k)), api.BlockSize))
	}
	return b.String()
}

// old tells a block of what numbered makes.
func old(k int) string { return strings.Repeat(string(rune('0'+k)), api.BlockSize) }

func wantWrite(t *testing.T, s *still.Still, at int, b string, want api.Errno) {
	t.Helper()
	if err := s.Write(at, b); err != want {
		t.Errorf("Write(%d, %q): %d, not %d", at, b, err, want)
	}
}

func wantBlock(t *testing.T, s *still.Still, k int, want string, wantErr api.Errno) {
	t.Helper()
	if got, err := s.Block(k); got != want || err != wantErr {
		t.Errorf("Block(%d): %q, %d, not %q, %d", k, got, err, want, wantErr)
	}
}

func wantKept(t *testing.T, s *still.Still, want ...int) {
	t.Helper()
	if got := s.Kept(); !slices.Equal(got, want) {
		t.Errorf("Kept: %v, not %v", got, want)
	}
}

func wantLet(t *testing.T, s *still.Still, k int, want bool) {
	t.Helper()
	if got := s.Let(k); got != want {
		t.Errorf("Let(%d): %v, not %v", k, got, want)
	}
}

func wantNow(t *testing.T, s *still.Still, want string) {
	t.Helper()
	if got := s.Now().Bytes(); got != want {
		t.Errorf("now: %q, not %q", got, want)
	}
}

func TestP501Example(t *testing.T) {
	_, s := made(t, zeros(16))
	wantWrite(t, s, 0, "x", api.OK)
	wantBlock(t, s, 0, zeros(8), api.OK)
	wantKept(t, s, 0)
	wantNow(t, s, "x"+zeros(15))
}

func TestP501NewOfNone(t *testing.T) {
	for _, f := range []*film.Film{nil, {}} {
		if s, err := still.New(f); s != nil || err != api.ErrArg {
			t.Errorf("New of a nil volume: %v, %d", s, err)
		}
	}
}

func TestP501NewShowsTheVolume(t *testing.T) {
	for blocks := 1; blocks <= api.MaxBlocks; blocks++ {
		f, s := made(t, numbered(blocks))
		if s.Now() != f {
			t.Fatal("Now is not the volume itself")
		}
		wantKept(t, s)
		wantNow(t, s, numbered(blocks))
		for k := range blocks {
			wantBlock(t, s, k, old(k), api.OK)
		}
	}
}

func TestP501BlockThatThereIsNot(t *testing.T) {
	for _, blocks := range []int{1, 2, 7, 63, 64} {
		bytes := numbered(blocks)
		_, s := made(t, bytes)
		for range 2 {
			for _, k := range outer(blocks) {
				if k >= 0 && k < blocks {
					continue
				}
				wantBlock(t, s, k, "", api.ErrNone)
				wantLet(t, s, k, false)
			}
			wantWrite(t, s, 0, strings.Repeat("z", len(bytes)), api.OK)
		}
		if len(s.Kept()) != blocks {
			t.Errorf("%d blocks: a block that there is not was let go: %v", blocks, s.Kept())
		}
	}
}

// TestP501WriteEachPlace writes each length at each place of a small volume,
// and some beyond it.
func TestP501WriteEachPlace(t *testing.T) {
	before := numbered(3)
	for at := -2; at < len(before)+3; at++ {
		for n := range len(before) + 3 {
			_, s := made(t, before)
			b := strings.Repeat("z", n)
			want, wantErr := before, api.ErrArg
			var kept []int
			if at >= 0 && at+n <= len(before) {
				want, wantErr = before[:at]+b+before[at+n:], api.OK
				for k := range 3 {
					if n > 0 && at < (k+1)*api.BlockSize && at+n > k*api.BlockSize {
						kept = append(kept, k)
					}
				}
			}
			wantWrite(t, s, at, b, wantErr)
			wantNow(t, s, want)
			wantKept(t, s, kept...)
			for k := range 3 {
				wantBlock(t, s, k, old(k), api.OK)
			}
		}
	}
}

func TestP501WriteThatFilmRefuses(t *testing.T) {
	for _, blocks := range []int{1, 2, 9, 63, 64} {
		bytes := numbered(blocks)
		size := len(bytes)
		_, s := made(t, bytes)
		for _, at := range []int{-1, -8, math.MinInt, size + 1, math.MaxInt, math.MaxInt - 1, 1 << 61, 1 << 62} {
			for _, b := range []string{"", "x", bytes} {
				wantWrite(t, s, at, b, api.ErrArg)
			}
		}
		for _, at := range []int{0, 1, size - 1, size} {
			wantWrite(t, s, at, strings.Repeat("x", size-at+1), api.ErrArg)
		}
		wantKept(t, s)
		wantNow(t, s, bytes)
	}
}

func TestP501WriteOfNoBytes(t *testing.T) {
	_, s := made(t, numbered(2))
	for _, at := range []int{0, 1, 7, 8, 15, 16} {
		wantWrite(t, s, at, "", api.OK)
	}
	wantKept(t, s)
	wantNow(t, s, numbered(2))
}

// TestP501WriteOfTheSame: a block is kept if it is touched, though its bytes stay.
func TestP501WriteOfTheSame(t *testing.T) {
	f, s := made(t, numbered(3))
	wantWrite(t, s, 8, old(1), api.OK)
	wantKept(t, s, 1)
	f.Write(8, "past")
	wantBlock(t, s, 1, old(1), api.OK)
}

func TestP501BlockWrittenTwice(t *testing.T) {
	_, s := made(t, numbered(4))
	wantWrite(t, s, 10, "first", api.OK)
	wantWrite(t, s, 9, "second", api.OK)
	wantBlock(t, s, 1, old(1), api.OK)
	wantKept(t, s, 1)
	// Of a write over several blocks just those that are not kept yet are.
	wantWrite(t, s, 0, strings.Repeat("z", 24), api.OK)
	wantKept(t, s, 0, 1, 2)
	for k := range 4 {
		wantBlock(t, s, k, old(k), api.OK)
	}
	wantNow(t, s, strings.Repeat("z", 24)+old(3))
}

// TestP501WriteBesideIt: what is written to the volume by itself is not kept.
func TestP501WriteBesideIt(t *testing.T) {
	f, s := made(t, numbered(3))
	wantWrite(t, s, 0, "x", api.OK)
	f.Write(0, strings.Repeat("p", 16))
	wantKept(t, s, 0)
	wantBlock(t, s, 0, old(0), api.OK)
	wantBlock(t, s, 1, strings.Repeat("p", 8), api.OK)
	wantWrite(t, s, 8, "y", api.OK)
	wantBlock(t, s, 1, strings.Repeat("p", 8), api.OK)
	wantKept(t, s, 0, 1)
}

func TestP501KeptIsRising(t *testing.T) {
	_, s := made(t, numbered(64))
	for _, k := range []int{40, 3, 63, 0, 17, 62} {
		wantWrite(t, s, k*api.BlockSize+7, "x", api.OK)
	}
	wantKept(t, s, 0, 3, 17, 40, 62, 63)
}

func TestP501LetOfOneThatIsKept(t *testing.T) {
	_, s := made(t, numbered(3))
	wantWrite(t, s, 0, strings.Repeat("z", 24), api.OK)
	wantLet(t, s, 1, true)
	wantKept(t, s, 0, 2)
	wantBlock(t, s, 1, strings.Repeat("z", 8), api.OK)
	wantWrite(t, s, 8, "new", api.OK)
	wantBlock(t, s, 1, "newzzzzz", api.OK)
	wantKept(t, s, 0, 2)
	wantBlock(t, s, 0, old(0), api.OK)
	wantBlock(t, s, 2, old(2), api.OK)
}

func TestP501LetAndThenWritten(t *testing.T) {
	_, s := made(t, numbered(3))
	wantLet(t, s, 1, true)
	wantBlock(t, s, 1, old(1), api.OK)
	wantWrite(t, s, 0, strings.Repeat("z", 24), api.OK)
	wantKept(t, s, 0, 2)
	wantBlock(t, s, 1, strings.Repeat("z", 8), api.OK)
}

func TestP501LetTwice(t *testing.T) {
	_, s := made(t, numbered(2))
	wantWrite(t, s, 0, "x", api.OK)
	for k := range 2 {
		wantLet(t, s, k, true)
		wantLet(t, s, k, false)
	}
	wantWrite(t, s, 0, strings.Repeat("z", 16), api.OK)
	for k := range 2 {
		wantLet(t, s, k, false)
		wantBlock(t, s, k, strings.Repeat("z", 8), api.OK)
	}
	wantKept(t, s)
}

func TestP501LastBlockOfMaxBlocks(t *testing.T) {
	last := api.MaxBlocks - 1
	bytes := numbered(api.MaxBlocks)
	_, s := made(t, bytes)
	wantWrite(t, s, len(bytes)-1, "x", api.OK)
	wantKept(t, s, last)
	wantBlock(t, s, last, old(last), api.OK)
	wantLet(t, s, last, true)
	wantLet(t, s, last, false)
	wantKept(t, s)
	wantBlock(t, s, last, old(last)[:7]+"x", api.OK)
	wantWrite(t, s, 0, strings.Repeat("z", len(bytes)), api.OK)
	if got := s.Kept(); len(got) != last || got[0] != 0 || got[last-1] != last-1 {
		t.Errorf("Kept: %v, not all but the last one", got)
	}
	wantBlock(t, s, last-1, old(last-1), api.OK)
	wantBlock(t, s, last, strings.Repeat("z", 8), api.OK)
}

func TestP501AnswersStand(t *testing.T) {
	_, s := made(t, numbered(3))
	wantWrite(t, s, 0, strings.Repeat("z", 16), api.OK)
	kept := s.Kept()
	kept[0], kept[1] = 9, 9
	_ = append(kept[:1], 7)
	wantKept(t, s, 0, 1)
	kept = s.Kept()
	wantLet(t, s, 0, true)
	wantWrite(t, s, 16, "z", api.OK)
	if !slices.Equal(kept, []int{0, 1}) {
		t.Errorf("later calls are seen in a list that was answered: %v", kept)
	}
}

func TestP501CopyGoesOnByItself(t *testing.T) {
	f, s := made(t, numbered(5))
	wantWrite(t, s, 0, strings.Repeat("z", 16), api.OK)
	wantLet(t, s, 1, true)
	wantLet(t, s, 2, true)
	c := s.Copy()
	if c == nil || c == s || c.Now() == f || c.Now() == nil || s.Now() != f {
		t.Fatal("Copy is not another one, of a copy of the volume")
	}
	for _, one := range []*still.Still{s, c} {
		wantNow(t, one, f.Bytes())
		wantKept(t, one, 0)
		wantBlock(t, one, 0, old(0), api.OK)
		wantBlock(t, one, 1, strings.Repeat("z", 8), api.OK)
		wantLet(t, one, 1, false)
		wantLet(t, one, 2, false)
	}
	wantWrite(t, c, 24, "copy", api.OK)
	wantLet(t, c, 0, true)
	wantKept(t, c, 3)
	wantKept(t, s, 0)
	wantNow(t, s, strings.Repeat("z", 16)+numbered(5)[16:])
	wantWrite(t, s, 0, strings.Repeat("s", 40), api.OK)
	wantKept(t, s, 0, 3, 4)
	wantKept(t, c, 3)
	wantBlock(t, c, 3, old(3), api.OK)
	wantBlock(t, c, 4, old(4), api.OK)
	wantNow(t, c, strings.Repeat("z", 16)+old(2)+"copy"+old(3)[4:]+old(4))
}

func TestP501NilOnes(t *testing.T) {
	for _, none := range []*still.Still{nil, {}} {
		for _, k := range []int{0, 1, -1, 63, 64, math.MaxInt, math.MinInt} {
			wantWrite(t, none, k, "", api.ErrArg)
			wantWrite(t, none, k, "x", api.ErrArg)
			wantBlock(t, none, k, "", api.ErrArg)
			wantLet(t, none, k, false)
		}
		wantKept(t, none)
		if none.Now() != nil || none.Copy() != nil {
			t.Errorf("a nil one: %v, %v", none.Now(), none.Copy())
		}
	}
}

// model is a Still in plain lists.
type model struct {
	now  []byte
	old  map[int]string
	gone map[int]bool
}

func (m *model) copied() *model {
	c := &model{now: slices.Clone(m.now), old: map[int]string{}, gone: map[int]bool{}}
	for k, b := range m.old {
		c.old[k] = b
	}
	for k := range m.gone {
		c.gone[k] = true
	}
	return c
}

func (m *model) block(k int) string {
	return string(m.now[k*api.BlockSize : (k+1)*api.BlockSize])
}

func (m *model) write(at int, b string) api.Errno {
	if at < 0 || at+len(b) > len(m.now) {
		return api.ErrArg
	}
	for i := range len(b) {
		k := (at + i) / api.BlockSize
		if _, ok := m.old[k]; !ok && !m.gone[k] {
			m.old[k] = m.block(k)
		}
		m.now[at+i] = b[i]
	}
	return api.OK
}

func (m *model) let(k int) bool {
	if k < 0 || k >= len(m.now)/api.BlockSize || m.gone[k] {
		return false
	}
	m.gone[k] = true
	delete(m.old, k)
	return true
}

// wantModel holds all that a Still shows against the model.
func wantModel(t *testing.T, s *still.Still, m *model) {
	t.Helper()
	wantNow(t, s, string(m.now))
	var kept []int
	for k := range len(m.now) / api.BlockSize {
		if b, ok := m.old[k]; ok {
			kept = append(kept, k)
			wantBlock(t, s, k, b, api.OK)
		} else {
			wantBlock(t, s, k, m.block(k), api.OK)
		}
	}
	wantKept(t, s, kept...)
}

// TestP501ManyCalls holds many calls, in any order, against the model.
func TestP501ManyCalls(t *testing.T) {
	for seed := range 80 {
		q := sequence(seed)
		blocks := 1 + q.below(api.MaxBlocks)
		if seed%4 == 0 {
			blocks = api.MaxBlocks
		}
		size := blocks * api.BlockSize
		_, s := made(t, numbered(blocks))
		m := &model{now: []byte(numbered(blocks)), old: map[int]string{}, gone: map[int]bool{}}
		other, otherModel := s.Copy(), m.copied()
		for range 80 {
			switch q.below(4) {
			case 0, 1:
				at, b := q.below(size+4)-2, strings.Repeat(string(rune('a'+q.below(26))), q.below(30))
				wantWrite(t, s, at, b, m.write(at, b))
			case 2:
				k := q.below(blocks+4) - 2
				wantLet(t, s, k, m.let(k))
			case 3:
				// From here on the other one goes on, and this one stands.
				if q.below(2) == 0 {
					other, otherModel = s.Copy(), m.copied()
				}
				s, m, other, otherModel = other, otherModel, s, m
			}
			wantModel(t, s, m)
			wantModel(t, other, otherModel)
			if t.Failed() {
				t.Fatalf("seed %d, %d blocks", seed, blocks)
			}
		}
	}
}
