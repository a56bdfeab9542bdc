package binder_test

import (
	"fmt"
	"math"
	"slices"
	"testing"

	"emulsion/api"
	"emulsion/binder"
	"emulsion/leaf"
	"emulsion/plate"
)

// outer has numbers that no thing has.
func outer() []int {
	return []int{0, -1, -2, -90, -256, 91, 92, 128, 255, 256, 257, 512 + 5, 1 << 16, 1<<32 + 5, math.MinInt, math.MinInt + 5, math.MaxInt, math.MaxInt - 5, math.MinInt32, math.MaxInt32}
}

// pagedPlate has two slots, that may be spoilt, and from the page 2 on these others.
func pagedPlate(slot0, slot1 string, others ...string) *plate.Plate {
	p := plate.New(40)
	p.Rot(0, slot0)
	p.Rot(1, slot1)
	for i, page := range others {
		p.Rot(2+i, page)
	}
	return p
}

// tablePlate has a table of those bytes, of the gen 7, on the pages from 2 on.
func tablePlate(text string) *plate.Plate {
	var l []string
	var pages []int
	for i, part := range parts(text) {
		l, pages = append(l, laid(part)), append(pages, 2+i)
	}
	return pagedPlate(zeros, slotted(7, pages...), l...)
}

// emptyThings is a table of things of no bytes.
func emptyThings(keys ...int) string {
	b := bytes(len(keys))
	for _, key := range keys {
		b += bytes(key, 0, 0)
	}
	return b
}

// keysFrom is so many numbers.
func keysFrom(first, n int) []int {
	l := make([]int, n)
	for i := range l {
		l[i] = first + i
	}
	return l
}

// all is so many changes to the same bytes, of the numbers from 1 on.
func all(n int, b string) []binder.Change {
	l := make([]binder.Change, n)
	for i := range l {
		l[i] = put(1+i, b)
	}
	return l
}

func TestP1601OpenOfNoPlate(t *testing.T) {
	for _, p := range []*plate.Plate{nil, {}} {
		if b, err := binder.Open(p); b != nil || err != api.ErrArg {
			t.Errorf("of none: %v, error %d", b, err)
		}
	}
}

func TestP1601OpenOfHowManyPages(t *testing.T) {
	for _, n := range []int{-1, 0, 1, 2, 3} {
		p := plate.New(n)
		wantOpen(t, fmt.Sprint("with power ", n), p, api.ErrArg)
		p.Fall()
		wantOpen(t, fmt.Sprint("without power ", n), p, api.ErrArg)
	}
	for _, n := range []int{4, 5, 6, 100, 249, 250, 251} {
		p := plate.New(n)
		wantOpen(t, fmt.Sprint("with power ", n), p, api.OK)
		p.Fall()
		wantOpen(t, fmt.Sprint("without power ", n), p, api.ErrOff)
		p.Power()
		wantOpen(t, fmt.Sprint("with power again ", n), p, api.OK)
	}
	p := pagedPlate(slotted(2, 2), slotted(3, 2), laid("\x00"))
	p.Fall()
	wantOpen(t, "without power", p, api.ErrOff)
	p = pagedPlate(slotted(2, 2), slotted(3, 2), rotten)
	p.Fall()
	wantOpen(t, "spoilt and without power", p, api.ErrOff)
}

func TestP1601OpenOfANewPlate(t *testing.T) {
	for _, n := range []int{4, 5, 63, 64, 65, 250} {
		b := wantOpen(t, "new", plate.New(n), api.OK)
		wantList(t, "Keys", b.Keys(), nil)
		wantInt(t, "Gen", b.Gen(), 0)
		wantList(t, "Used", b.Used(), nil)
		wantInt(t, "Free", b.Free(), n-2)
		wantList(t, "Check", b.Check(), nil)
		for key := range 91 {
			wantGet(t, "new", b, key, "", api.ErrNone)
		}
	}
}

// slotOf is a slot of a gen that names a page, and zeros of the gen 0.
func slotOf(gen, page int) string {
	if gen == 0 {
		return zeros
	}
	return slotted(gen, page)
}

func TestP1601TheSlotThatCounts(t *testing.T) {
	for _, x := range []struct{ gen0, gen1, gen, key int }{
		{0, 0, 0, 0}, {2, 0, 2, 10}, {0, 1, 1, 20}, {2, 1, 2, 10}, {2, 3, 3, 20}, {4, 3, 4, 10}, {4, 1, 4, 10}, {8, 1, 8, 10}, {2, 9, 9, 20},
		{256, 255, 256, 10}, {256, 257, 257, 20}, {254, 65537, 65537, 20}, {65536, 255, 65536, 10}, {1 << 24, 1<<24 - 1, 1 << 24, 10}, {1 << 24, 1<<24 + 1, 1<<24 + 1, 20},
		{1_000_000_000, 999_999_999, 1_000_000_000, 10}, {2, 999_999_999, 999_999_999, 20}, {1_000_000_000, 1, 1_000_000_000, 10}, {1_000_000_000, 0, 1_000_000_000, 10},
		{1, 0, 0, 0}, {0, 2, 0, 0}, {3, 2, 0, 0}, {1, 1_000_000_000, 0, 0}, {3, 1, 1, 20}, {999_999_999, 1, 1, 20}, {2, 4, 2, 10}, {2, 1_000_000_000, 2, 10}, {1, 5, 5, 20}, {6, 2, 6, 10},
	} {
		what := fmt.Sprint("the gens ", x.gen0, " and ", x.gen1)
		p := pagedPlate(slotOf(x.gen0, 2), slotOf(x.gen1, 3), laid(emptyThings(10)), laid(emptyThings(20)))
		b := wantOpen(t, what, p, api.OK)
		wantInt(t, what, b.Gen(), x.gen)
		var keys, used []int
		if x.gen > 0 {
			keys, used = []int{x.key}, []int{1 + x.key/10}
		}
		wantList(t, what, b.Keys(), keys)
		wantList(t, what, b.Used(), used)
		wantInt(t, what, b.Free(), 38-len(used))
		benchOn(t, p)
	}
}

func TestP1601OpenOfSpoiltSlots(t *testing.T) {
	for at := range 32 {
		p := pagedPlate(slotted(4, 2), slotted(5, 3), laid(emptyThings(10)), laid(emptyThings(20)))
		spoil := func(k int) {
			page, _ := p.Get(k)
			b := []byte(page)
			b[at] ^= 0x11
			p.Rot(k, string(b))
		}
		spoil(1)
		b := wantOpen(t, "one spoilt", p, api.OK)
		wantInt(t, "Gen", b.Gen(), 4)
		wantList(t, "Keys", b.Keys(), []int{10})
		spoil(0)
		b = wantOpen(t, "both spoilt", p, api.OK)
		wantInt(t, "Gen", b.Gen(), 0)
		wantList(t, "Keys", b.Keys(), nil)
		wantInt(t, "Free", b.Free(), 38)
		spoil(1)
		b = wantOpen(t, "the other one spoilt", p, api.OK)
		wantInt(t, "Gen", b.Gen(), 5)
		wantList(t, "Keys", b.Keys(), []int{20})
	}
	for _, page := range []string{rotten, zeros, laid(""), laid(emptyThings(10)), rep(32, 255), slotted(0, 2), slotted(1<<31, 2), slotted(4, 1), slotted(4, 250)} {
		b := wantOpen(t, "no slots", pagedPlate(page, page, laid(emptyThings(10))), api.OK)
		wantInt(t, "Gen", b.Gen(), 0)
		wantList(t, "Used", b.Used(), nil)
	}
}

func TestP1601OpenLooksAtTheTableThatCountsAlone(t *testing.T) {
	good := laid(emptyThings(10))
	for _, bad := range []string{rotten, zeros, laid(""), laid("\x01"), slotted(4, 2)} {
		b := wantOpen(t, "the lesser one is spoilt", pagedPlate(slotted(4, 2), slotted(5, 3), bad, good), api.OK)
		wantInt(t, "Gen", b.Gen(), 5)
		wantOpen(t, "the greater one is spoilt", pagedPlate(slotted(4, 2), slotted(5, 3), good, bad), api.ErrCorrupt)
		wantOpen(t, "the greater one is spoilt", pagedPlate(slotted(6, 2), slotted(5, 3), bad, good), api.ErrCorrupt)
	}
}

func TestP1601OpenOfATableThatCanNotBeRead(t *testing.T) {
	text := emptyThings(keysFrom(1, 30)...)
	wantOpen(t, "a table of four pages", tablePlate(text), api.OK)
	for k := 2; k < 6; k++ {
		for _, page := range []string{rotten, zeros, slotted(7, 2, 3, 4, 5), slotted(9), rep(32, 255)} {
			p := tablePlate(text)
			p.Rot(k, page)
			wantOpen(t, fmt.Sprint("the page ", k), p, api.ErrCorrupt)
		}
		p := tablePlate(text)
		page, _ := p.Get(k)
		for at := range 32 {
			b := []byte(page)
			b[at]++
			p.Rot(k, string(b))
			wantOpen(t, fmt.Sprint("the byte ", at, " of the page ", k), p, api.ErrCorrupt)
		}
	}
}

func TestP1601OpenOfATableInOtherParts(t *testing.T) {
	text := emptyThings(keysFrom(1, 10)...)
	for n := range 32 {
		want := api.ErrCorrupt
		if n == 27 {
			want = api.OK
		}
		if n <= 27 && len(text)-n <= 27 {
			p := pagedPlate(zeros, slotted(7, 2, 3), laid(text[:n]), laid(text[n:]))
			wantOpen(t, fmt.Sprint("the first part has ", n), p, want)
		}
	}
	text = emptyThings(keysFrom(1, 3)...)
	wantOpen(t, "one part", pagedPlate(zeros, slotted(7, 2), laid(text)), api.OK)
	wantOpen(t, "an empty part behind it", pagedPlate(zeros, slotted(7, 2, 3), laid(text), laid("")), api.ErrCorrupt)
	wantOpen(t, "an empty part ahead of it", pagedPlate(zeros, slotted(7, 2, 3), laid(""), laid(text)), api.ErrCorrupt)
	wantOpen(t, "nine parts", pagedPlate(zeros, slotted(7, 2, 3, 4), laid(text[:5]), laid(text[5:6]), laid(text[6:])), api.ErrCorrupt)
	text = bytes(5) + bytes(1, 281%256, 281/256) + bytes(keysFrom(20, 11)...) + emptyThings(2, 3, 4, 5)[1:]
	wantInt(t, "the bytes of a whole part", len(text), 27)
	wantOpen(t, "a whole part", tablePlate(text), api.OK)
	wantOpen(t, "a whole part and an empty one", pagedPlate(zeros, slotted(7, 2, 3), laid(text), laid("")), api.ErrCorrupt)
}

func TestP1601OpenOfNumbersThatMayNotBe(t *testing.T) {
	for key := range 256 {
		want := api.ErrCorrupt
		if key >= 1 && key <= 90 {
			want = api.OK
		}
		wantOpen(t, fmt.Sprint("the number ", key), tablePlate(emptyThings(key)), want)
		wantOpen(t, fmt.Sprint("the number ", key, " with a page"), tablePlate(bytes(1, key, 1, 0, 9)), want)
	}
	for _, keys := range [][]int{{0, 1}, {0, 0}, {5, 5}, {6, 5}, {90, 1}, {90, 90}, {1, 91}, {90, 91}, {1, 2, 2}, {1, 3, 2}, {2, 1, 3}, {1, 2, 91}, {1, 0}, {5, 0, 6}, {1, 255}} {
		wantOpen(t, fmt.Sprint("the numbers ", keys), tablePlate(emptyThings(keys...)), api.ErrCorrupt)
	}
	for _, keys := range [][]int{{}, {1}, {90}, {1, 2}, {1, 90}, {89, 90}, {5, 7, 9}, keysFrom(1, 90), keysFrom(2, 89), keysFrom(1, 89)} {
		b := wantOpen(t, fmt.Sprint("the numbers ", keys), tablePlate(emptyThings(keys...)), api.OK)
		wantList(t, "Keys", b.Keys(), keys)
	}
	wantOpen(t, "91 numbers", tablePlate(emptyThings(keysFrom(0, 91)...)), api.ErrCorrupt)
	wantOpen(t, "91 numbers", tablePlate(emptyThings(keysFrom(1, 91)...)), api.ErrCorrupt)
	wantOpen(t, "91 numbers, of which the last is there twice", tablePlate(emptyThings(append(keysFrom(1, 90), 90)...)), api.ErrCorrupt)
}

func TestP1601OpenOfHowManyBytes(t *testing.T) {
	for _, n := range []int{0, 1, 26, 27, 28, 54, 55, 255, 256, 257, 270, 271, 297, 298, 299, 300} {
		text := bytes(1, 5, n%256, n/256) + bytes(keysFrom(20, len(parts(rep(n, 'x'))))...)
		b := wantOpen(t, fmt.Sprint(n, " bytes"), tablePlate(text), api.OK)
		wantInt(t, "Used", len(b.Used()), len(parts(text))+len(parts(rep(n, 'x'))))
		wantOpen(t, "with a page more", tablePlate(text+"\x0f"), api.ErrCorrupt)
		if n > 0 {
			wantOpen(t, "with a page less", tablePlate(text[:len(text)-1]), api.ErrCorrupt)
		}
	}
	for _, n := range []int{301, 302, 324, 325, 351, 511, 512, 1024, 32768, 65535, 65280} {
		pages := keysFrom(20, min(len(parts(rep(n, 'x'))), 20))
		wantOpen(t, fmt.Sprint(n, " bytes"), tablePlate(bytes(1, 5, n%256, n/256)+bytes(pages...)), api.ErrCorrupt)
		wantOpen(t, fmt.Sprint(n, " bytes and no page"), tablePlate(bytes(1, 5, n%256, n/256)), api.ErrCorrupt)
	}
}

func TestP1601OpenOfPagesThatMayNotBe(t *testing.T) {
	one, two := bytes(1, 5, 1, 0), bytes(1, 5, 28, 0)
	for k := range 256 {
		want := api.ErrCorrupt
		// The page 2 is the table's.
		if k >= 3 && k < 40 {
			want = api.OK
		}
		wantOpen(t, fmt.Sprint("the page ", k), tablePlate(one+bytes(k)), want)
		wantOpen(t, fmt.Sprint("the page ", k, " and no bytes more"), tablePlate(two+bytes(k)), api.ErrCorrupt)
		if k == 30 {
			want = api.ErrCorrupt
		}
		wantOpen(t, fmt.Sprint("the pages ", k, " and 30"), tablePlate(two+bytes(k, 30)), want)
		wantOpen(t, fmt.Sprint("the pages 30 and ", k), tablePlate(two+bytes(30, k)), want)
		wantOpen(t, fmt.Sprint("two things on ", k, " and 30"), tablePlate(bytes(2, 5, 1, 0, k, 6, 1, 0, 30)), want)
		wantOpen(t, fmt.Sprint("two things on 30 and ", k), tablePlate(bytes(2, 5, 1, 0, 30, 6, 1, 0, k)), want)
	}
	for _, n := range []int{4, 10, 249, 250} {
		for k := 3; k < 256; k++ {
			p := plate.New(n)
			p.Rot(0, slotted(4, 2))
			p.Rot(2, laid(one+bytes(k)))
			want := api.ErrCorrupt
			if k < n {
				want = api.OK
			}
			wantOpen(t, fmt.Sprint("the page ", k, " of ", n), p, want)
		}
	}
}

func TestP1601OpenOfASlotThatNamesWhatMayNotBe(t *testing.T) {
	table := laid(emptyThings(10))
	wantOpen(t, "no page", pagedPlate(slotted(2), zeros, table), api.ErrCorrupt)
	wantOpen(t, "a page twice", pagedPlate(slotted(2, 2, 2), zeros, table), api.ErrCorrupt)
	for _, k := range []int{40, 41, 100, 249} {
		wantOpen(t, fmt.Sprint("the page ", k), pagedPlate(slotted(2, k), zeros, table), api.ErrCorrupt)
		wantOpen(t, fmt.Sprint("the page ", k, " too"), pagedPlate(slotted(2, 2, k), zeros, table), api.ErrCorrupt)
	}
	p := plate.New(40)
	p.Rot(0, slotted(2, 39))
	p.Rot(39, table)
	wantOpen(t, "the last page", p, api.OK)
}

func TestP1601OpenOfTooFewAndTooManyBytes(t *testing.T) {
	for _, text := range []string{bytes(2, 5, 28, 0, 30, 31, 6, 1, 0, 32), bytes(1, 5, 1, 0, 30), emptyThings(1, 2, 3), emptyThings(keysFrom(1, 30)...), emptyThings()} {
		wantOpen(t, fmt.Sprintf("%q", text), tablePlate(text), api.OK)
		for n := range len(text) {
			wantOpen(t, fmt.Sprintf("%q", text[:n]), tablePlate(text[:n]), api.ErrCorrupt)
		}
		for c := range 256 {
			wantOpen(t, fmt.Sprintf("%q and %d", text, c), tablePlate(text+bytes(c)), api.ErrCorrupt)
			if c != int(text[0]) {
				wantOpen(t, fmt.Sprintf("%q with %d ahead", text, c), tablePlate(bytes(c)+text[1:]), api.ErrCorrupt)
			}
		}
		wantOpen(t, fmt.Sprintf("%q twice", text), tablePlate(text+text), api.ErrCorrupt)
	}
}

func TestP1601OpenOfEachOtherByteOfATable(t *testing.T) {
	text := bytes(3, 5, 28, 0, 30, 31, 6, 0, 0, 90, 1, 0, 32)
	for at := range len(text) {
		for c := range 256 {
			b := []byte(text)
			b[at] = byte(c)
			p := tablePlate(string(b))
			want := api.OK
			m, ok := opened(diskOf(p))
			if !ok {
				want = api.ErrCorrupt
			}
			got := wantOpen(t, fmt.Sprintf("%q", b), p, want)
			if got != nil && ok {
				wantKept(t, fmt.Sprintf("%q", b), got, m, 40)
			}
		}
	}
}

func TestP1601OpenReadsWhatWasLaidLast(t *testing.T) {
	p := pagedPlate(zeros, slotted(7, 2), laid(emptyThings(10)))
	p.Lay(0, slotted(8, 3))
	p.Lay(3, laid(emptyThings(20)))
	b := wantOpen(t, "wet", p, api.OK)
	wantInt(t, "Gen", b.Gen(), 8)
	wantList(t, "Keys", b.Keys(), []int{20})
	p.Fall()
	p.Power()
	b = wantOpen(t, "lost", p, api.OK)
	wantInt(t, "Gen", b.Gen(), 7)
	wantList(t, "Keys", b.Keys(), []int{10})
}

func TestP1601KeysUsedAndFreeRise(t *testing.T) {
	p := pagedPlate(zeros, zeros)
	text := bytes(3, 5, 28, 0, 31, 30, 6, 1, 0, 3, 90, 55, 0, 20, 39, 7)
	p.Rot(1, slotted(9, 25))
	p.Rot(25, laid(text))
	b := wantOpen(t, "mixed", p, api.OK)
	wantList(t, "Keys", b.Keys(), []int{5, 6, 90})
	wantList(t, "Used", b.Used(), []int{3, 7, 20, 25, 30, 31, 39})
	wantInt(t, "Free", b.Free(), 31)
	wantInt(t, "Gen", b.Gen(), 9)
	text = emptyThings(keysFrom(1, 20)...)
	p.Rot(1, slotted(9, 25, 11, 30))
	p.Rot(25, laid(text[:27]))
	p.Rot(11, laid(text[27:54]))
	p.Rot(30, laid(text[54:]))
	b = wantOpen(t, "mixed", p, api.OK)
	wantList(t, "Used", b.Used(), []int{11, 25, 30})
	wantInt(t, "Free", b.Free(), 35)
	benchOn(t, p)
}

func TestP1601GetOfHowManyBytes(t *testing.T) {
	var q sequence = 1601
	for _, n := range []int{0, 1, 2, 26, 27, 28, 53, 54, 55, 80, 81, 82, 255, 256, 257, 269, 270, 271, 297, 298, 299, 300} {
		for _, text := range []string{q.some(n), rep(n, 0), rep(n, 255), rep(n, 'a')} {
			x := newBench(t, 20)
			x.commit(api.OK, put(5, text))
			wantGet(t, "committed", x.b, 5, text, api.OK)
			wantInt(t, "Used", len(x.b.Used()), 1+len(parts(text)))
			wantGet(t, "opened anew", x.twin().b, 5, text, api.OK)
		}
	}
}

func TestP1601GetOfWhatIsNotThere(t *testing.T) {
	x := newBench(t, 20)
	for range 2 {
		for _, key := range append(outer(), 1, 4, 6, 89) {
			wantGet(t, "not there", x.b, key, "", api.ErrNone)
		}
		x.commit(api.OK, put(5, "five"), put(90, "ninety"))
	}
	x.commit(api.OK, gone(5))
	wantGet(t, "gone", x.b, 5, "", api.ErrNone)
	wantGet(t, "it stays", x.b, 90, "ninety", api.OK)
}

func TestP1601GetWithoutPower(t *testing.T) {
	x := newBench(t, 20)
	x.commit(api.OK, put(5, "five"), put(6, ""), put(7, rep(40, 's')))
	x.rot(x.m.where[7][0], rotten)
	x.p.Fall()
	for _, key := range append(outer(), 4, 5, 6, 7, 90) {
		wantGet(t, "without power", x.b, key, "", api.ErrOff)
	}
	wantKept(t, "without power", x.b, x.m, 20)
	wantList(t, "Check without power", x.b.Check(), nil)
	x.p.Power()
	x.wantAll("power again")
	wantGet(t, "power again", x.b, 5, "five", api.OK)
	wantList(t, "Check with power again", x.b.Check(), []int{7})
}

func TestP1601GetOfASpoiltPage(t *testing.T) {
	text := rep(27, 'a') + rep(27, 'b') + "c"
	for i := range 3 {
		for _, page := range []string{zeros, rotten, rep(32, 255), slotted(1), slotted(2, 2, 3), laid("")} {
			x := newBench(t, 20)
			x.commit(api.OK, put(4, "four"), put(5, text), put(6, ""))
			x.rot(x.m.where[5][i], page)
			wantGet(t, "spoilt", x.b, 5, "", api.ErrCorrupt)
			x.wantAll("spoilt")
			x.twin()
			wantList(t, "Check", x.b.Check(), []int{5})
			x.commit(api.OK, put(4, "other"))
			wantList(t, "Check", x.b.Check(), []int{5})
			x.commit(api.OK, put(5, text))
			wantGet(t, "anew", x.b, 5, text, api.OK)
		}
	}
}

func TestP1601GetOfAPageOfWhichOneByteIsAnother(t *testing.T) {
	x := newBench(t, 20)
	x.commit(api.OK, put(5, "five"))
	was := x.disk[2]
	for at := range 32 {
		for by := 1; by < 256; by++ {
			b := []byte(was)
			b[at] += byte(by)
			x.p.Rot(2, string(b))
			wantGet(t, "spoilt", x.b, 5, "", api.ErrCorrupt)
		}
	}
}

func TestP1601GetOfMoreOrFewerBytes(t *testing.T) {
	for size := 1; size <= 82; size++ {
		x := newBench(t, 20)
		x.commit(api.OK, put(5, rep(size, 'a')))
		on := x.m.where[5]
		for i := range on {
			for n := range 28 {
				x.rot(on[i], laid(rep(n, 'b')))
				want, err := "", api.ErrCorrupt
				if n == min(27, size-27*i) {
					want, err = rep(27*i, 'a')+rep(n, 'b')+rep(size-27*i-n, 'a'), api.OK
				}
				wantGet(t, fmt.Sprint(size, " bytes, the part ", i, " has ", n), x.b, 5, want, err)
			}
			x.rot(on[i], laid(rep(min(27, size-27*i), 'a')))
		}
		x.wantAll("as it was")
	}
}

func TestP1601GetOfAsManyBytesInOtherParts(t *testing.T) {
	for size := 28; size <= 54; size++ {
		x := newBench(t, 20)
		x.commit(api.OK, put(5, rep(size, 'a')))
		for n := size - 27; n <= 27; n++ {
			x.rot(2, laid(rep(n, 'a')))
			x.rot(3, laid(rep(size-n, 'a')))
			if n == 27 {
				wantGet(t, "in parts", x.b, 5, rep(size, 'a'), api.OK)
			} else {
				wantGet(t, fmt.Sprint(size, " in other parts"), x.b, 5, "", api.ErrCorrupt)
			}
		}
	}
}

func TestP1601Check(t *testing.T) {
	x := newBench(t, 60)
	for key := 1; key <= 10; key++ {
		x.commit(api.OK, put(key*9, rep(20*key-20, 'c')))
	}
	wantList(t, "none", x.b.Check(), nil)
	x.rot(x.m.where[90][3], rotten)
	wantList(t, "one", x.b.Check(), []int{90})
	x.rot(x.m.where[90][0], rotten)
	wantList(t, "one with two pages", x.b.Check(), []int{90})
	x.rot(x.m.where[18][0], laid("short"))
	x.rot(x.m.where[63][0], zeros)
	wantList(t, "several", x.b.Check(), []int{18, 63, 90})
	x.wantAll("several")
	wantList(t, "opened anew", x.twin().b.Check(), []int{18, 63, 90})
	for _, key := range x.m.keys() {
		for _, k := range x.m.where[key] {
			x.rot(k, rotten)
		}
	}
	wantList(t, "all that have bytes", x.b.Check(), []int{18, 27, 36, 45, 54, 63, 72, 81, 90})
	x.commit(api.OK, gone(90), put(18, "new"))
	wantList(t, "fewer", x.b.Check(), []int{27, 36, 45, 54, 63, 72, 81})
}

func TestP1601ListsAreTheReadersOwn(t *testing.T) {
	x := newBench(t, 60)
	x.commit(api.OK, put(5, rep(60, 'a')), put(6, rep(30, 'b')), put(7, ""))
	x.rot(x.m.where[5][0], rotten)
	x.rot(x.m.where[6][0], rotten)
	for _, list := range []func() []int{x.b.Keys, x.b.Used, x.b.Check} {
		one, two := list(), list()
		was := slices.Clone(one)
		for i := range one {
			one[i] = 77
		}
		_ = append(one[:0], 78, 79)
		_ = append(one, 80)
		wantList(t, "another one", two, was)
		wantList(t, "anew", list(), was)
		x.wantAll("a list was changed")
	}
	keys := x.b.Keys()
	x.commit(api.OK, gone(7))
	wantList(t, "told ahead of a commit", keys, []int{5, 6, 7})
}

func TestP1601OfANilAndAZeroBinder(t *testing.T) {
	for _, b := range []*binder.Binder{nil, {}} {
		for _, key := range append(outer(), 1, 5, 90) {
			wantGet(t, "none", b, key, "", api.ErrArg)
		}
		wantList(t, "Keys", b.Keys(), nil)
		wantInt(t, "Gen", b.Gen(), 0)
		wantList(t, "Used", b.Used(), nil)
		wantInt(t, "Free", b.Free(), 0)
		wantList(t, "Check", b.Check(), nil)
		wantErr(t, "Commit()", b.Commit(), api.ErrArg)
		wantErr(t, "Commit", b.Commit(put(5, "x")), api.ErrArg)
		wantErr(t, "Commit of what may not be", b.Commit(put(0, "x")), api.ErrArg)
	}
}

func TestP1601OpenOfAnyBytes(t *testing.T) {
	var q sequence = 16011
	for range 20000 {
		p := tablePlate(q.table())
		want := api.OK
		m, ok := opened(diskOf(p))
		if !ok {
			want = api.ErrCorrupt
		}
		b := wantOpen(t, "any", p, want)
		if b != nil && ok {
			wantKept(t, "any", b, m, 40)
		}
	}
}

// table draws what is nearly always nearly a table.
func (q *sequence) table() string {
	b, key, page := "", 0, 6
	n := q.below(6)
	for range n {
		key += 1 + q.below(20)
		size := q.below(60)
		b += bytes(key, size, 0)
		for range parts(rep(size, 'x')) {
			page += 1 + q.below(3)
			b += bytes(page)
		}
	}
	b = bytes(n) + b
	if q.below(2) == 0 {
		other := []byte(b)
		other[q.below(len(b))] = byte(q.below(100))
		b = string(other)
	}
	return b
}

func TestP1601OfLeafAndTheWordsOfThisFile(t *testing.T) {
	for _, b := range []string{"", "x", rep(27, 'x')} {
		if page, _ := leaf.Lay(b); page != laid(b) {
			t.Errorf("%q is laid as %q, not %q", b, page, laid(b))
		}
	}
	if page, _ := leaf.Slot(258, 2, 249); page != slotted(258, 2, 249) {
		t.Errorf("a slot is %q", page)
	}
}
