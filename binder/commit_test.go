package binder_test

import (
	"fmt"
	"slices"
	"testing"

	"emulsion/api"
	"emulsion/binder"
	"emulsion/plate"
)

// refuse commits what is not done: an error, and nothing is written, with power or without.
func (x *bench) refuse(want api.Errno, l ...binder.Change) {
	x.t.Helper()
	x.p.Snag(0)
	x.commit(want, l...)
	if !x.p.On() {
		x.t.Errorf("Commit%s wrote something", told(l))
	}
	x.p.Fall()
	wantErr(x.t, "without power: Commit"+told(l), x.b.Commit(l...), want)
	x.p.Power()
	x.wantAll("refused without power")
}

// wantOn holds the pages of a thing, and what stands on them, against those that are wanted.
func (x *bench) wantOn(what string, key int, want ...int) {
	x.t.Helper()
	wantList(x.t, what, x.m.where[key], want)
	for i, k := range want {
		text, _ := x.b.Get(key)
		if page, _ := x.p.Get(k); page != laid(parts(text)[i]) {
			x.t.Errorf("%s: the page %d is %q, not the part %d of the thing %d", what, k, page, i, key)
		}
	}
}

func TestP1602TheExample(t *testing.T) {
	p := plate.New(8)
	b := wantOpen(t, "new", p, api.OK)
	wantErr(t, "Commit", b.Commit(put(5, "x")), api.OK)
	wantGet(t, "behind it", b, 5, "x", api.OK)
	wantInt(t, "Gen", b.Gen(), 1)
	wantList(t, "Keys", b.Keys(), []int{5})
	wantList(t, "Used", b.Used(), []int{2, 3})
	wantInt(t, "Free", b.Free(), 4)
	wantDisk(t, "behind it", p, []string{zeros, slotted(1, 3), laid("x"), laid("\x01\x05\x01\x00\x02"), zeros, zeros, zeros, zeros})
	wantErr(t, "a second one", b.Commit(put(7, "z"), put(5, "y")), api.OK)
	wantDisk(t, "behind the second one", p, []string{slotted(2, 6), slotted(1, 3), laid("x"), laid("\x01\x05\x01\x00\x02"), laid("y"), laid("z"), laid("\x02\x05\x01\x00\x04\x07\x01\x00\x05"), zeros})
	wantErr(t, "a third one", b.Commit(gone(7)), api.OK)
	wantDisk(t, "behind the third one", p, []string{slotted(2, 6), slotted(3, 2), laid("\x01\x05\x01\x00\x04"), laid("\x01\x05\x01\x00\x02"), laid("y"), laid("z"), laid("\x02\x05\x01\x00\x04\x07\x01\x00\x05"), zeros})
	wantList(t, "Used", b.Used(), []int{2, 4})
}

func TestP1602OfAKeyThatMayNotBe(t *testing.T) {
	x := newBench(t, 40)
	for range 2 {
		for _, key := range outer() {
			x.refuse(api.ErrArg, put(key, "x"))
			x.refuse(api.ErrArg, put(key, ""))
			x.refuse(api.ErrArg, gone(key))
			x.refuse(api.ErrArg, put(6, "y"), put(key, "x"))
			x.refuse(api.ErrArg, put(key, "x"), put(6, "y"))
		}
		x.commit(api.OK, put(1, "one"), put(90, "ninety"), put(5, "five"))
	}
	wantGet(t, "the first key", x.b, 1, "one", api.OK)
	wantGet(t, "the last key", x.b, 90, "ninety", api.OK)
}

func TestP1602OfAKeyThatStandsTwice(t *testing.T) {
	x := newBench(t, 40)
	x.commit(api.OK, put(5, "five"), put(1, ""), put(90, "ninety"))
	for _, key := range []int{1, 5, 90} {
		for _, l := range [][]binder.Change{{put(key, "a"), put(key, "b")}, {put(key, "a"), put(key, "a")}, {gone(key), gone(key)}, {gone(key), put(key, "a")}, {put(key, "a"), gone(key)}, {put(key, ""), put(key, "")}} {
			x.refuse(api.ErrArg, l...)
			x.refuse(api.ErrArg, l[0], put(7, "b"), l[1])
			x.refuse(api.ErrArg, put(7, "b"), l[0], l[1])
			x.refuse(api.ErrArg, l[0], l[1], put(7, "b"))
		}
	}
	x.refuse(api.ErrArg, put(8, "a"), put(8, "b"))
	x.refuse(api.ErrArg, append(all(90, ""), put(1, ""))...)
	x.refuse(api.ErrArg, append(all(90, ""), put(90, ""))...)
	x.refuse(api.ErrArg, slices.Repeat(all(90, ""), 100)...)
}

func TestP1602OfWhatIsGone(t *testing.T) {
	x := newBench(t, 40)
	x.refuse(api.ErrArg, gone(5))
	x.commit(api.OK, put(5, "five"), put(6, ""))
	for key := 1; key <= 90; key++ {
		if key != 5 && key != 6 {
			x.refuse(api.ErrArg, gone(key))
		}
	}
	x.refuse(api.ErrArg, gone(5), gone(7))
	x.refuse(api.ErrArg, put(7, "x"), gone(8))
	for _, b := range []string{"a", "\x00", "five", rep(300, 'x'), rep(301, 'x')} {
		x.refuse(api.ErrArg, binder.Change{Key: 5, Bytes: b, Gone: true})
		x.refuse(api.ErrArg, binder.Change{Key: 6, Bytes: b, Gone: true})
		x.refuse(api.ErrArg, put(5, "a"), binder.Change{Key: 6, Bytes: b, Gone: true})
		x.refuse(api.ErrArg, binder.Change{Key: 7, Bytes: b, Gone: true})
	}
	x.commit(api.OK, gone(5))
	x.refuse(api.ErrArg, gone(5))
	wantList(t, "Keys", x.b.Keys(), []int{6})
	x.commit(api.OK, gone(6))
	wantList(t, "Keys", x.b.Keys(), nil)
	wantInt(t, "Free", x.b.Free(), 37)
	x.refuse(api.ErrArg, gone(6))
	x.commit(api.OK, put(5, "again"))
	wantGet(t, "again", x.b, 5, "again", api.OK)
}

func TestP1602OfTooManyBytes(t *testing.T) {
	x := newBench(t, 60)
	x.commit(api.OK, put(5, rep(300, 'a')))
	wantGet(t, "MaxThing bytes", x.b, 5, rep(300, 'a'), api.OK)
	for _, n := range []int{301, 302, 324, 512, 65536, 65537, 1 << 20} {
		x.refuse(api.ErrArg, put(5, rep(n, 'b')))
		x.refuse(api.ErrArg, put(6, rep(n, 'b')))
		x.refuse(api.ErrArg, put(6, "b"), put(7, rep(n, 'b')))
	}
	x.commit(api.OK, put(5, rep(299, 'c')), put(6, rep(300, 'd')))
}

func TestP1602OfAnEmptyList(t *testing.T) {
	x := newBench(t, 20)
	for gen := 1; gen <= 5; gen++ {
		x.commit(api.OK)
		wantInt(t, "Gen", x.b.Gen(), gen)
		wantList(t, "Used", x.b.Used(), []int{3 - gen%2})
	}
	x.commit(api.OK, put(5, "five"), put(6, "six"))
	for gen := 7; gen <= 12; gen++ {
		x.commit(api.OK, []binder.Change{}...)
		wantInt(t, "Gen", x.b.Gen(), gen)
		wantGet(t, "as it was", x.b, 5, "five", api.OK)
	}
}

// ofPages is things that stand on so many pages, each with as many bytes as it may have.
func ofPages(n int) []binder.Change {
	l := []binder.Change{put(5, rep(min(27*n, 300), 'x'))}
	if n > 12 {
		l = append(l, put(4, rep(27*(n-12), 'y')))
	}
	return l
}

func TestP1602OfMorePagesThanThereAre(t *testing.T) {
	for pages := 4; pages <= 20; pages++ {
		for n := range 20 {
			x := newBench(t, pages)
			// Two pages are slots, and one is the table.
			if n > pages-3 {
				x.refuse(api.ErrFull, ofPages(n)...)
				continue
			}
			x.commit(api.OK, ofPages(n)...)
			wantInt(t, "Free", x.b.Free(), pages-3-n)
		}
	}
}

func TestP1602OfAsManyPagesAsThereAre(t *testing.T) {
	x := newBench(t, 10)
	x.commit(api.OK, put(5, rep(54, 'a')), put(6, rep(27, 'b')))
	wantInt(t, "Free", x.b.Free(), 4)
	// What is there ahead of it gives no page, though it is gone behind it.
	x.refuse(api.ErrFull, put(5, rep(82, 'c')))
	x.refuse(api.ErrFull, gone(6), put(5, rep(82, 'c')))
	x.refuse(api.ErrFull, put(5, rep(54, 'c')), put(6, rep(28, 'd')))
	x.refuse(api.ErrFull, gone(5), gone(6), put(7, rep(82, 'd')))
	x.commit(api.OK, put(5, rep(54, 'c')), put(6, "d"))
	wantInt(t, "Free", x.b.Free(), 4)
	x.commit(api.OK, put(7, rep(81, 'e')))
	wantInt(t, "Free", x.b.Free(), 1)
	x.refuse(api.ErrFull, put(8, "f"))
	x.refuse(api.ErrFull, gone(7), put(8, "f"))
	x.commit(api.OK, put(8, ""))
	x.commit(api.OK, gone(7))
	wantInt(t, "Free", x.b.Free(), 4)
	x.commit(api.OK, put(8, "f"))
}

func TestP1602OfATableThatHasNoPage(t *testing.T) {
	x := newBench(t, 4)
	x.commit(api.OK, all(8, "")...)
	wantInt(t, "Free", x.b.Free(), 1)
	// A ninth one makes a table of two pages.
	x.refuse(api.ErrFull, put(9, ""))
	x.refuse(api.ErrFull, put(1, "a"))
	x.commit(api.OK, gone(3), put(9, ""))
	x.commit(api.OK)
	x = newBench(t, 5)
	x.commit(api.OK, all(9, "")...)
	wantInt(t, "Free", x.b.Free(), 1)
	x.refuse(api.ErrFull)
	x.refuse(api.ErrFull, put(10, ""))
	x.commit(api.OK, gone(9))
	x = newBench(t, 5)
	x.commit(api.OK, put(5, rep(27, 'a')))
	x.refuse(api.ErrFull, put(5, "b"))
	x.refuse(api.ErrFull, put(6, "b"))
	x.commit(api.OK, gone(5))
	wantInt(t, "Free", x.b.Free(), 2)
}

func TestP1602OfATableOfMoreThanMaxSlotted(t *testing.T) {
	x := newBench(t, 250)
	// 74 things of a page each have a table of 297 bytes, that are eleven whole pages.
	x.commit(api.OK, all(74, "x")...)
	wantInt(t, "Used", len(x.b.Used()), 85)
	x.refuse(api.ErrFull, put(75, ""))
	x.refuse(api.ErrFull, put(75, "x"))
	x.refuse(api.ErrFull, put(74, rep(28, 'x')))
	x.commit(api.OK, gone(1))
	x.commit(api.OK, put(75, "x"))
	x.refuse(api.ErrFull, put(1, ""))
	x.commit(api.OK, put(75, ""), put(2, rep(28, 'y')))
	x.commit(api.OK, put(3, ""), put(2, ""), put(76, ""))
	x = newBench(t, 250)
	x.refuse(api.ErrFull, all(75, "x")...)
	x.refuse(api.ErrFull, all(90, "x")...)
	x.refuse(api.ErrFull, all(90, rep(300, 'x'))...)
	x.commit(api.OK, all(90, "")...)
	l := all(90, "")
	for i := range 26 {
		l[i].Bytes = "x"
	}
	x.commit(api.OK, l...)
	wantInt(t, "Used", len(x.b.Used()), 37)
	l[26].Bytes = "x"
	x.refuse(api.ErrFull, l...)
	x.refuse(api.ErrFull, l[26])
	x.refuse(api.ErrFull, put(1, rep(28, 'x')))
	x = newBench(t, 250)
	x.commit(api.OK, all(19, rep(300, 'x'))...)
	wantInt(t, "Free", x.b.Free(), 9)
}

func TestP1602OfTheLastGen(t *testing.T) {
	x := benchOn(t, pagedPlate(zeros, slotted(999_999_999, 2), laid(emptyThings(10, 20))))
	x.commit(api.OK, put(5, "last"))
	wantInt(t, "Gen", x.b.Gen(), 1_000_000_000)
	wantGet(t, "the last one", x.b, 5, "last", api.OK)
	for range 2 {
		x.refuse(api.ErrFull)
		x.refuse(api.ErrFull, put(5, "one more"))
		x.refuse(api.ErrFull, gone(5))
		x.refuse(api.ErrArg, gone(6))
		x = x.twin()
	}
}

func TestP1602ErrFullIsToldAheadOfErrOff(t *testing.T) {
	x := newBench(t, 8)
	x.commit(api.OK, put(5, "five"))
	x.p.Fall()
	wantErr(t, "what may not be", x.b.Commit(put(0, "x")), api.ErrArg)
	wantErr(t, "what may not be and is too much", x.b.Commit(put(0, "x"), put(6, rep(300, 'x'))), api.ErrArg)
	wantErr(t, "what is too much", x.b.Commit(put(6, rep(300, 'x'))), api.ErrFull)
	// None of these told ErrOff, so that it goes on.
	x.p.Power()
	x.wantAll("power again")
	x.commit(api.OK, put(5, "six"))
}

func TestP1602TheChangedThingsStandByKey(t *testing.T) {
	l := []binder.Change{put(90, rep(30, 'd')), put(1, rep(55, 'a')), put(40, "c"), put(39, ""), put(2, rep(27, 'b'))}
	for range len(l) {
		for range 2 {
			x := newBench(t, 20)
			x.commit(api.OK, l...)
			x.wantOn("1", 1, 2, 3, 4)
			x.wantOn("2", 2, 5)
			x.wantOn("39", 39)
			x.wantOn("40", 40, 6)
			x.wantOn("90", 90, 7, 8)
			wantList(t, "Used", x.b.Used(), []int{2, 3, 4, 5, 6, 7, 8, 9})
			wantDisk(t, "all", x.p, append([]string{zeros, slotted(1, 9), laid(rep(27, 'a')), laid(rep(27, 'a')), laid("a"), laid(rep(27, 'b')), laid("c"), laid(rep(27, 'd')), laid("ddd"),
				laid(bytes(5, 1, 55, 0, 2, 3, 4, 2, 27, 0, 5, 39, 0, 0, 40, 1, 0, 6, 90, 30, 0, 7, 8))}, slices.Repeat([]string{zeros}, 10)...))
			slices.Reverse(l)
		}
		l = append(l[1:], l[0])
	}
}

func TestP1602OnTheLeastFreePages(t *testing.T) {
	x := newBench(t, 30)
	x.commit(api.OK, put(1, "a"), put(2, "b"), put(3, "c"), put(4, "d"), put(5, "e")) // 2 to 6, the table on 7
	x.commit(api.OK, gone(2), gone(4))                                                // the table on 8: 3, 5, 7 are free
	wantList(t, "Used", x.b.Used(), []int{2, 4, 6, 8})
	x.commit(api.OK, put(9, rep(60, 'n')), put(1, "z")) // 3; 5, 7, 9; the table on 10
	x.wantOn("1", 1, 3)
	x.wantOn("9", 9, 5, 7, 9)
	wantList(t, "the table", x.m.named, []int{10})
	wantList(t, "Used", x.b.Used(), []int{3, 4, 5, 6, 7, 9, 10})
	x.commit(api.OK) // 2
	wantList(t, "Used", x.b.Used(), []int{2, 3, 4, 5, 6, 7, 9})
	x.commit(api.OK, all(22, "")[9:]...) // the table of 58 bytes on 8, 10, 11
	wantList(t, "the table", x.m.named, []int{8, 10, 11})
	x.commit(api.OK, put(3, "q"))
	wantList(t, "the table", x.m.named, []int{12, 13, 14})
	x.wantOn("3", 3, 2)
}

func TestP1602TheSlotStandsOnItsPage(t *testing.T) {
	x := newBench(t, 30)
	for gen := 1; gen <= 600; gen++ {
		was := diskOf(x.p)
		if err := x.b.Commit(put(1+gen%3, fmt.Sprint(gen))); err != api.OK {
			t.Fatal(err)
		}
		disk := diskOf(x.p)
		if g, _ := slotOn(disk[gen%2]); g != gen || disk[1-gen%2] != was[1-gen%2] {
			t.Fatalf("the gen %d: on its page stands the gen %d; the other one %q was %q", gen, g, disk[1-gen%2], was[1-gen%2])
		}
	}
	wantInt(t, "Gen", x.b.Gen(), 600)
	benchOn(t, x.p)
}

func TestP1602OverSlotsThatDoNotCount(t *testing.T) {
	table := laid(emptyThings(10))
	for _, slots := range [][2]string{{slotted(3, 2), slotted(5, 2)}, {rotten, slotted(5, 2)}, {slotted(1_000_000, 2), slotted(1_000_001, 2)}, {slotted(6, 2), slotted(8, 2)}, {slotted(6, 2), rotten}, {rotten, rotten}, {slotted(999, 2), slotted(1000, 2)}} {
		x := benchOn(t, pagedPlate(slots[0], slots[1], table))
		gen := x.b.Gen()
		for by := range 4 {
			x.commit(api.OK, put(5, "five"))
			wantInt(t, "Gen", x.b.Gen(), gen+by+1)
			x.twin()
		}
	}
}

func TestP1602WhatIsNotChangedStaysWhereItIs(t *testing.T) {
	x := newBench(t, 80)
	x.commit(api.OK, all(12, rep(40, 'a'))...)
	var q sequence = 1602
	for range 200 {
		was := x.m.copy()
		var l []binder.Change
		for key := 1; key <= 12; key++ {
			if q.below(6) == 0 {
				l = append(l, put(key, q.some(q.below(60))))
			}
		}
		disk := diskOf(x.p)
		x.commit(api.OK, l...)
		for _, key := range was.keys() {
			if !slices.ContainsFunc(l, func(c binder.Change) bool { return c.Key == key }) {
				wantList(t, fmt.Sprint("the thing ", key), x.m.where[key], was.where[key])
			}
		}
		for _, k := range was.used() {
			if page, _ := x.p.Get(k); page != disk[k] {
				t.Errorf("the used page %d was written", k)
			}
		}
	}
}

func TestP1602TheSameBytesAreAChange(t *testing.T) {
	x := newBench(t, 20)
	x.commit(api.OK, put(5, "same"), put(6, "stays"))
	x.wantOn("5", 5, 2)
	x.wantOn("6", 6, 3)
	x.commit(api.OK, put(5, "same"))
	x.wantOn("5", 5, 5)
	x.wantOn("6", 6, 3)
}

func TestP1602WhatIsSpoiltStaysAsItIs(t *testing.T) {
	x := newBench(t, 20)
	x.commit(api.OK, put(5, rep(40, 'a')), put(6, "six"))
	x.rot(x.m.where[5][1], rotten)
	x.rot(x.m.named[0], rotten)
	x.rot(1, rotten)
	x.wantAll("the table and the slot are spoilt, and known to it")
	x.commit(api.OK, put(7, "seven"))
	wantList(t, "Check", x.b.Check(), []int{5})
	y := x.twin()
	wantGet(t, "opened anew", y.b, 7, "seven", api.OK)
	wantGet(t, "opened anew", y.b, 5, "", api.ErrCorrupt)
	y.commit(api.OK, gone(5))
	wantList(t, "Check", y.b.Check(), nil)
}

func TestP1602TwoAtOnceAreAsOneByOne(t *testing.T) {
	var q sequence = 16021
	for range 300 {
		one, two := newBench(t, 120), newBench(t, 120)
		for range 6 {
			l := q.changes(one.m, 6)
			if len(l) == 0 {
				continue
			}
			one.commit(api.OK, l...)
			for _, c := range l {
				two.commit(api.OK, c)
			}
			wantList(t, "Keys", two.b.Keys(), one.b.Keys())
			for _, key := range one.b.Keys() {
				text, err := one.b.Get(key)
				wantGet(t, "one by one", two.b, key, text, err)
			}
			wantInt(t, "Free", two.b.Free(), one.b.Free())
		}
	}
}

// changes draws at most so many changes that may be, of things of small numbers.
func (q *sequence) changes(m *model, most int) []binder.Change {
	var l []binder.Change
	for range q.below(1 + most) {
		key := 1 + q.below(12)
		if slices.ContainsFunc(l, func(c binder.Change) bool { return c.Key == key }) {
			continue
		}
		if _, is := m.sizes[key]; is && q.below(3) == 0 {
			l = append(l, gone(key))
		} else {
			l = append(l, put(key, q.some(q.below(90))))
		}
	}
	return l
}

func TestP1602TheHandedListIsNotKept(t *testing.T) {
	x := newBench(t, 20)
	l := []binder.Change{put(7, "seven"), put(5, "five"), put(6, "six")}
	wantErr(t, "Commit", x.b.Commit(l...), api.OK)
	if !slices.Equal(l, []binder.Change{put(7, "seven"), put(5, "five"), put(6, "six")}) {
		t.Errorf("the list is %s", told(l))
	}
	l[0], l[1].Bytes, l[2].Gone = gone(5), "other", true
	wantList(t, "Keys", x.b.Keys(), []int{5, 6, 7})
	wantGet(t, "5", x.b, 5, "five", api.OK)
	wantGet(t, "6", x.b, 6, "six", api.OK)
	wantGet(t, "7", x.b, 7, "seven", api.OK)
	wantErr(t, "Commit", x.b.Commit(), api.OK)
	wantGet(t, "7 behind another one", benchOn(t, x.p).b, 7, "seven", api.OK)
}

func TestP1602OfAllThingsThatThereMayBe(t *testing.T) {
	x := newBench(t, 250)
	l := all(90, "")
	for i := range 23 {
		l[i].Bytes = rep(i+1, byte('a'+i))
	}
	x.commit(api.OK, l...)
	wantList(t, "Keys", x.b.Keys(), keysFrom(1, 90))
	wantInt(t, "Used", len(x.b.Used()), 23+len(parts(x.m.table())))
	for i := range l {
		l[i] = gone(i + 1)
	}
	x.commit(api.OK, l...)
	wantList(t, "Keys", x.b.Keys(), nil)
	wantInt(t, "Used", len(x.b.Used()), 1)
	wantInt(t, "Free", x.b.Free(), 247)
}

func TestP1602OnTheLastPages(t *testing.T) {
	x := newBench(t, 250)
	for key := 1; key <= 18; key++ {
		x.commit(api.OK, put(key, rep(300, 'l')))
	}
	wantInt(t, "Free", x.b.Free(), 21)
	x.refuse(api.ErrFull, put(19, rep(271, 'm')))
	x.commit(api.OK, put(19, rep(270, 'm')))
	used := x.b.Used()
	wantInt(t, "the last page", used[len(used)-1], 249)
	x.twin().refuse(api.ErrFull, put(20, rep(271, 'm')))
}

func TestP1602TwoBindersOnOnePlate(t *testing.T) {
	x := newBench(t, 20)
	x.commit(api.OK, put(5, "five"))
	x.p.Snag(0)
	wantErr(t, "the power falls", x.b.Commit(put(5, "other")), api.ErrOff)
	x.p.Power()
	y := benchOn(t, x.p)
	y.commit(api.OK, put(5, "new"))
	x.disk = y.disk
	x.wantOff("the first one")
	y.wantAll("the second one")
}
