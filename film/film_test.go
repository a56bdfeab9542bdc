package film_test

import (
	"math"
	"slices"
	"strings"
	"testing"

	"emulsion/api"
	"emulsion/film"
)

// sequence draws the same numbers in each run.
type sequence uint64

func (q *sequence) below(n int) int {
	*q = *q*6364136223846793005 + 1442695040888963407
	return int(uint64(*q) >> 33 % uint64(n))
}

func zeros(n int) string { return strings.Repeat("\x00", n) }

// made makes a volume whose bytes are the given ones.
func made(t *testing.T, bytes string) *film.Film {
	t.Helper()
	f, err := film.New(len(bytes) / api.BlockSize)
	if err != api.OK {
		t.Fatalf("New(%d): %d", len(bytes)/api.BlockSize, err)
	}
	if err := f.Write(0, bytes); err != api.OK {
		t.Fatalf("Write(0, %q): %d", bytes, err)
	}
	return f
}

// blockSizes are numbers of blocks that there may be: the ends, and some between.
func blockSizes() []int { return []int{1, 2, 3, 7, 8, 9, 33, 63, 64} }

// outer are numbers that are no place in a volume of so many bytes.
func outer(size int) []int {
	return []int{-1, -8, math.MinInt, math.MinInt + 1, size + 1, size + 8, math.MaxInt, math.MaxInt - 1, 1 << 61, 1 << 62}
}

func wantRead(t *testing.T, f *film.Film, at, n int, want string, wantErr api.Errno) {
	t.Helper()
	if got, err := f.Read(at, n); got != want || err != wantErr {
		t.Errorf("Read(%d, %d): %q, %d, not %q, %d", at, n, got, err, want, wantErr)
	}
}

func wantBlock(t *testing.T, f *film.Film, k int, want string, wantErr api.Errno) {
	t.Helper()
	if got, err := f.Block(k); got != want || err != wantErr {
		t.Errorf("Block(%d): %q, %d, not %q, %d", k, got, err, want, wantErr)
	}
}

func wantUnlike(t *testing.T, a, b *film.Film, want ...api.Span) {
	t.Helper()
	if got := film.Unlike(a, b); !slices.Equal(got, want) {
		t.Errorf("Unlike: %v, not %v", got, want)
	}
}

func TestP401Example(t *testing.T) {
	f, err := film.New(2)
	if err != api.OK {
		t.Fatalf("New(2): %d", err)
	}
	if err := f.Write(7, "ab"); err != api.OK {
		t.Fatalf("Write(7, ab): %d", err)
	}
	wantBlock(t, f, 0, zeros(7)+"a", api.OK)
	wantBlock(t, f, 1, "b"+zeros(7), api.OK)
}

func TestP401NewIsOfZeros(t *testing.T) {
	for blocks := 1; blocks <= api.MaxBlocks; blocks++ {
		f, err := film.New(blocks)
		if err != api.OK || f == nil {
			t.Fatalf("New(%d): %v, %d", blocks, f, err)
		}
		if f.Blocks() != blocks || f.Bytes() != zeros(blocks*api.BlockSize) {
			t.Errorf("New(%d): %d blocks of %q", blocks, f.Blocks(), f.Bytes())
		}
	}
}

func TestP401NewOfWrongNumbers(t *testing.T) {
	for _, blocks := range []int{0, -1, -2, math.MinInt, api.MaxBlocks + 1, api.MaxBlocks + 2, 1 << 61, math.MaxInt} {
		if f, err := film.New(blocks); f != nil || err != api.ErrArg {
			t.Errorf("New(%d): %v, %d", blocks, f, err)
		}
	}
}

func TestP401NewOnesAreApart(t *testing.T) {
	a, _ := film.New(2)
	b, _ := film.New(2)
	a.Write(3, "x")
	if b.Bytes() != zeros(16) {
		t.Errorf("a write to one is seen in another one: %q", b.Bytes())
	}
}

// TestP401WriteEachPlace writes and reads each length at each place of a small
// volume, and some beyond it.
func TestP401WriteEachPlace(t *testing.T) {
	before := "ABCDEFGHIJKLMNOP"
	for at := range len(before) + 3 {
		for n := range len(before) + 3 {
			f := made(t, before)
			b := "abcdefghijklmnopqrs"[:n]
			want, wantErr := before, api.ErrArg
			if at+n <= len(before) {
				want, wantErr = before[:at]+b+before[at+n:], api.OK
			}
			if err := f.Write(at, b); err != wantErr || f.Bytes() != want {
				t.Errorf("Write(%d, %q): %d and %q, not %d and %q", at, b, err, f.Bytes(), wantErr, want)
			}
			if wantErr == api.OK {
				wantRead(t, f, at, n, b, api.OK)
			} else {
				wantRead(t, f, at, n, "", api.ErrArg)
			}
		}
	}
}

func TestP401WrongPlaces(t *testing.T) {
	for _, blocks := range blockSizes() {
		size := blocks * api.BlockSize
		bytes := strings.Repeat("q", size)
		f := made(t, bytes)
		for _, at := range outer(size) {
			for _, b := range []string{"", "x", bytes, bytes + "x"} {
				if err := f.Write(at, b); err != api.ErrArg {
					t.Errorf("%d blocks, Write(%d, %d bytes): %d", blocks, at, len(b), err)
				}
			}
			for _, n := range []int{0, 1, size, -1, math.MaxInt, math.MinInt} {
				wantRead(t, f, at, n, "", api.ErrArg)
			}
		}
		for _, at := range []int{0, 1, size - 1, size} {
			if err := f.Write(at, strings.Repeat("x", size-at+1)); err != api.ErrArg {
				t.Errorf("%d blocks, Write(%d, a byte too many): %d", blocks, at, err)
			}
			for _, n := range []int{size - at + 1, -1, -8, -at - 1, math.MaxInt, math.MaxInt - at, math.MinInt} {
				wantRead(t, f, at, n, "", api.ErrArg)
			}
		}
		if f.Bytes() != bytes {
			t.Errorf("%d blocks: a wrong write left %q", blocks, f.Bytes())
		}
	}
}

func TestP401NoBytes(t *testing.T) {
	for _, blocks := range blockSizes() {
		size := blocks * api.BlockSize
		bytes := strings.Repeat("q", size)
		f := made(t, bytes)
		for _, at := range []int{0, 1, size - 1, size} {
			if err := f.Write(at, ""); err != api.OK {
				t.Errorf("%d blocks, Write(%d, none): %d", blocks, at, err)
			}
			wantRead(t, f, at, 0, "", api.OK)
		}
		if err := f.Write(size+1, ""); err != api.ErrArg {
			t.Errorf("%d blocks, Write(%d, none): %d", blocks, size+1, err)
		}
		wantRead(t, f, size+1, 0, "", api.ErrArg)
		if f.Bytes() != bytes {
			t.Errorf("%d blocks: writes of nothing left %q", blocks, f.Bytes())
		}
	}
}

func TestP401BytesOfAllKinds(t *testing.T) {
	all := make([]byte, 256)
	for i := range all {
		all[i] = byte(i)
	}
	f := made(t, string(all))
	if f.Bytes() != string(all) {
		t.Errorf("Bytes: %q", f.Bytes())
	}
	wantRead(t, f, 128, 128, string(all[128:]), api.OK)
	wantBlock(t, f, 31, string(all[248:]), api.OK)
}

func TestP401Block(t *testing.T) {
	for _, blocks := range blockSizes() {
		var q sequence
		bytes := make([]byte, blocks*api.BlockSize)
		for i := range bytes {
			bytes[i] = byte(q.below(256))
		}
		f := made(t, string(bytes))
		for k := range blocks {
			wantBlock(t, f, k, string(bytes[k*api.BlockSize:(k+1)*api.BlockSize]), api.OK)
		}
		// Blocks whose place as bytes would wrap round are none, too.
		for _, k := range []int{-1, -2, math.MinInt, blocks, blocks + 1, math.MaxInt, 1 << 60, 1 << 61, 1 << 62, 1<<61 + 1} {
			wantBlock(t, f, k, "", api.ErrNone)
		}
	}
}

func TestP401AnswersStand(t *testing.T) {
	f := made(t, "abcdefghijklmnop")
	read, _ := f.Read(0, 4)
	block, _ := f.Block(0)
	all := f.Bytes()
	f.Write(0, strings.Repeat("z", 16))
	if read != "abcd" || block != "abcdefgh" || all != "abcdefghijklmnop" {
		t.Errorf("a later write is seen in %q, %q, %q", read, block, all)
	}
}

func TestP401CopyGoesOnByItself(t *testing.T) {
	for _, blocks := range blockSizes() {
		bytes := strings.Repeat("q", blocks*api.BlockSize)
		f := made(t, bytes)
		g := f.Copy()
		if g == f || g.Blocks() != blocks || g.Bytes() != bytes {
			t.Fatalf("Copy: %d blocks of %q", g.Blocks(), g.Bytes())
		}
		f.Write(0, "f")
		g.Write(1, "g")
		if f.Bytes() != "fq"+bytes[2:] || g.Bytes() != "qg"+bytes[2:] {
			t.Errorf("%d blocks: %q and its copy %q", blocks, f.Bytes(), g.Bytes())
		}
	}
}

func TestP401Zero(t *testing.T) {
	for n := range 70 {
		if !film.Zero(zeros(n)) {
			t.Errorf("Zero(%d zeros): false", n)
		}
		for i := range n {
			for _, other := range []string{"\x01", "0", "\x80", "\xff"} {
				b := zeros(i) + other + zeros(n-i-1)
				if film.Zero(b) {
					t.Errorf("Zero(%q): true", b)
				}
			}
		}
	}
	if film.Zero("\xff\xfe") {
		t.Error("Zero of no zero at all: true")
	}
}

func TestP401UnlikeOrdinary(t *testing.T) {
	a := made(t, strings.Repeat("a", 80))
	wantUnlike(t, a, a)
	b := a.Copy()
	wantUnlike(t, a, b)
	b.Write(15, "xy")
	b.Write(39, "x")
	b.Write(72, "a")
	b.Write(79, "z")
	want := []api.Span{{From: 1, N: 2}, {From: 4, N: 1}, {From: 9, N: 1}}
	wantUnlike(t, a, b, want...)
	wantUnlike(t, b, a, want...)
	if a.Bytes() != strings.Repeat("a", 80) {
		t.Errorf("Unlike changed what it was given: %q", a.Bytes())
	}
}

// TestP401UnlikeOfUnlikeSizes: a block of zeros that just one has is unlike, too.
func TestP401UnlikeOfUnlikeSizes(t *testing.T) {
	for _, m := range blockSizes() {
		for _, n := range blockSizes() {
			a, _ := film.New(m)
			b, _ := film.New(n)
			var want []api.Span
			if m != n {
				want = []api.Span{{From: min(m, n), N: max(m, n) - min(m, n)}}
			}
			wantUnlike(t, a, b, want...)
		}
	}
	a, b := made(t, strings.Repeat("a", 24)), made(t, strings.Repeat("a", 40))
	a.Write(23, "x")
	wantUnlike(t, a, b, api.Span{From: 2, N: 3})
	a.Write(0, "x")
	wantUnlike(t, b, a, api.Span{From: 0, N: 1}, api.Span{From: 2, N: 3})
}

func TestP401UnlikeIsNew(t *testing.T) {
	a, _ := film.New(3)
	l := film.Unlike(a, nil)
	l[0] = api.Span{}
	wantUnlike(t, a, nil, api.Span{From: 0, N: 3})
}

// absent are the volumes of no blocks: a nil one, and one that New did not make.
func absent() []*film.Film { return []*film.Film{nil, {}} }

func TestP401NilOnes(t *testing.T) {
	for _, none := range absent() {
		for _, at := range []int{0, 1, -1, math.MaxInt, math.MinInt} {
			if none.Write(at, "") != api.ErrArg || none.Write(at, "x") != api.ErrArg {
				t.Errorf("a nil one, Write(%d): no ErrArg", at)
			}
			wantRead(t, none, at, 0, "", api.ErrArg)
			wantRead(t, none, at, 1, "", api.ErrArg)
			wantRead(t, none, at, -1, "", api.ErrArg)
			wantBlock(t, none, at, "", api.ErrArg)
		}
		if none.Blocks() != 0 || none.Bytes() != "" || none.Copy() != nil {
			t.Errorf("a nil one: %d, %q, %v", none.Blocks(), none.Bytes(), none.Copy())
		}
		for _, other := range absent() {
			wantUnlike(t, none, other)
		}
		for _, blocks := range blockSizes() {
			f, _ := film.New(blocks)
			wantUnlike(t, f, none, api.Span{From: 0, N: blocks})
			wantUnlike(t, none, f, api.Span{From: 0, N: blocks})
		}
	}
}

// unlikeByBytes tells the unlike blocks, held byte by byte, as spans.
func unlikeByBytes(a, b []byte) []api.Span {
	var l []api.Span
	last := -2
	for i := range max(len(a), len(b)) {
		if i < len(a) && i < len(b) && a[i] == b[i] {
			continue
		}
		k := i / api.BlockSize
		switch {
		case k == last:
		case k == last+1:
			l[len(l)-1].N++
		default:
			l = append(l, api.Span{From: k, N: 1})
		}
		last = k
	}
	return l
}

// TestP401ManyCalls holds many calls, in any order, against plain bytes.
func TestP401ManyCalls(t *testing.T) {
	for seed := range 60 {
		q := sequence(seed)
		blocks := 1 + q.below(api.MaxBlocks)
		size := blocks * api.BlockSize
		f, _ := film.New(blocks)
		model := make([]byte, size)
		old, oldModel := f.Copy(), slices.Clone(model)
		for range 60 {
			at, n := q.below(size+4)-2, q.below(20)
			fits := at >= 0 && at+n <= size
			b := make([]byte, n)
			for i := range b {
				b[i] = byte(q.below(3))
			}
			want := api.OK
			if !fits {
				want = api.ErrArg
			}
			if err := f.Write(at, string(b)); err != want {
				t.Fatalf("Write(%d, %d bytes) of %d: %d", at, n, size, err)
			}
			if fits {
				copy(model[at:], b)
			}
			if f.Bytes() != string(model) || f.Blocks() != blocks {
				t.Fatalf("behind Write(%d, %q): %q, not %q", at, b, f.Bytes(), model)
			}
			wantUnlike(t, old, f, unlikeByBytes(oldModel, model)...)
			if q.below(12) == 0 {
				old, oldModel = f.Copy(), slices.Clone(model)
			}
		}
	}
}
