package leaf_test

import (
	"math"
	"slices"
	"strings"
	"testing"

	"emulsion/api"
	"emulsion/leaf"
)

// sequence draws the same numbers in each run.
type sequence uint64

func (q *sequence) below(n int) int {
	*q = *q*6364136223846793005 + 1442695040888963407
	return int(uint64(*q) >> 33 % uint64(n))
}

// some draws so many bytes.
func (q *sequence) some(n int) string {
	b := make([]byte, n)
	for i := range b {
		b[i] = byte(q.below(256))
	}
	return string(b)
}

// pages draws a list that a slot can name.
func (q *sequence) pages() []int {
	l := make([]int, q.below(12))
	for i := range l {
		l[i] = 2 + q.below(248)
	}
	return l
}

// bytes makes a text of numbers.
func bytes(l ...int) string {
	var b strings.Builder
	for _, x := range l {
		b.WriteByte(byte(x))
	}
	return b.String()
}

// sealed is b with zeros behind it up to 28 bytes, and their tally by the words of chapter 12.
func sealed(b string) string {
	b += strings.Repeat("\x00", 28-len(b))
	low, high := 0xACE1, 0
	for _, c := range []byte(b) {
		low = (low + int(c)) % 65521
		high = (high + low) % 65521
	}
	return b + bytes(low%256, low/256, high%256, high/256)
}

// laid is the page of bytes by the words of the chapter.
func laid(b string) string { return sealed(bytes(len(b)) + b) }

// slotted is the slot by the words of the chapter, whether it may be or not.
func slotted(gen int, pages ...int) string {
	b := bytes(0xA5, gen%256, gen/256%256, gen/65536%256, gen/16777216%256, len(pages))
	return sealed(b + bytes(pages...))
}

// parts cuts b by the words of the chapter, byte by byte.
func parts(b string) []string {
	var l []string
	for i := range len(b) {
		if i%27 == 0 {
			l = append(l, "")
		}
		l[len(l)-1] += b[i : i+1]
	}
	return l
}

// others tells all pages of which just one byte is another.
func others(page string) []string {
	var l []string
	for at := range len(page) {
		for by := 1; by < 256; by++ {
			b := []byte(page)
			b[at] += byte(by)
			l = append(l, string(b))
		}
	}
	return l
}

// texts has bytes that a page has room for.
func texts() []string {
	l := []string{"", "\x00", "\x01", "\xff", "a", "abc", "\x00\x00", "\xff\xff", "\x00\xff\x00", "a\x00", "\x00a", "a\x00\x00", "\xc3\xa9", "\xe9"}
	l = append(l, full('x'), full(0), full(255), full('x')[1:], full(0)[1:], full(255)[1:], full(27), bytes(0xA5, 1, 0, 0, 0, 0))
	var q sequence = 1501
	for n := range 28 {
		l = append(l, q.some(n))
	}
	return l
}

// full is as many of one byte as a page has room for.
func full(c byte) string { return strings.Repeat(string([]byte{c}), 27) }

// wrongPages has bytes that have not api.PageSize of them.
func wrongPages() []string {
	a, s := laid("abc"), slotted(258, 2, 249)
	l := []string{"", "x", "\x00", "abc", a[:31], a[1:], a + "x", a + "\x00", a + a, a[:28], a[:27]}
	l = append(l, s[:31], s[1:], s+"x", s+"\x00", s+s, s[:6], s[:1], laid("")[:4])
	return append(l, strings.Repeat("\x00", 31), strings.Repeat("\x00", 33), strings.Repeat("\x00", 32+256), strings.Repeat("a", 70000))
}

// slots has gens and pages that may be.
func slots() []struct {
	gen   int
	pages []int
} {
	return []struct {
		gen   int
		pages []int
	}{
		{1, nil}, {1, []int{}}, {2, nil}, {1_000_000_000, nil}, {999_999_999, []int{2}},
		{255, []int{2}}, {256, []int{249}}, {257, []int{3}}, {65535, []int{2, 3}}, {65536, []int{3, 2}}, {16777215, []int{248}}, {16777216, []int{165}},
		{1, []int{2}}, {1, []int{249}}, {5, []int{2, 2}}, {5, []int{249, 249, 249}}, {258, []int{2, 249, 7}}, {7, []int{9, 8, 7}},
		{0x01020304, []int{2, 3, 4, 5, 6, 7, 8, 9, 10, 11, 12}}, {1_000_000_000, many(11, 249)}, {77, many(11, 2)}, {78, many(10, 100)},
	}
}

// many is a list of so many of one page.
func many(n, page int) []int { return slices.Repeat([]int{page}, n) }

func wantLay(t *testing.T, b, want string, wantErr api.Errno) {
	t.Helper()
	if got, err := leaf.Lay(b); got != want || err != wantErr {
		t.Errorf("Lay(%q): %q %d, not %q %d", b, got, err, want, wantErr)
	}
}

func wantRead(t *testing.T, page, want string, wantErr api.Errno) {
	t.Helper()
	if got, err := leaf.Read(page); got != want || err != wantErr {
		t.Errorf("Read(%q): %q %d, not %q %d", page, got, err, want, wantErr)
	}
}

func wantSlot(t *testing.T, gen int, pages []int, want string, wantErr api.Errno) {
	t.Helper()
	was := slices.Clone(pages)
	if got, err := leaf.Slot(gen, pages...); got != want || err != wantErr {
		t.Errorf("Slot(%d, %v): %q %d, not %q %d", gen, pages, got, err, want, wantErr)
	}
	if !slices.Equal(pages, was) {
		t.Errorf("Slot(%d, %v) turned it to %v", gen, was, pages)
	}
}

func wantUnslot(t *testing.T, page string, gen int, pages []int, wantErr api.Errno) {
	t.Helper()
	g, l, err := leaf.Unslot(page)
	if g != gen || !slices.Equal(l, pages) || err != wantErr {
		t.Errorf("Unslot(%q): %d %v %d, not %d %v %d", page, g, l, err, gen, pages, wantErr)
	}
}

func TestP1501LayIsThePageOfTheBytes(t *testing.T) {
	for _, b := range texts() {
		wantLay(t, b, laid(b), api.OK)
	}
	if leaf.Room != 27 || len(laid("")) != api.PageSize {
		t.Errorf("Room is %d, and a page has %d bytes", leaf.Room, len(laid("")))
	}
	wantLay(t, "abc", "\x03abc"+strings.Repeat("\x00", 24)+laid("abc")[28:], api.OK)
}

func TestP1501LayOfMoreThanRoom(t *testing.T) {
	for _, n := range []int{28, 29, 31, 32, 33, 54, 255, 256, 256 + 27, 512, 65536, 65536 + 27} {
		wantLay(t, strings.Repeat("y", n), "", api.ErrArg)
		wantLay(t, strings.Repeat("\x00", n), "", api.ErrArg)
	}
}

func TestP1501ReadOfWhatLayLaid(t *testing.T) {
	for _, b := range texts() {
		page, _ := leaf.Lay(b)
		wantRead(t, page, b, api.OK)
		wantRead(t, laid(b), b, api.OK)
	}
}

func TestP1501ReadOfAnotherForm(t *testing.T) {
	for _, page := range wrongPages() {
		wantRead(t, page, "", api.ErrForm)
	}
}

func TestP1501ReadOfOneOtherByte(t *testing.T) {
	for _, b := range []string{"", "\x00", "abc", full('x'), full(0), full(255), full(255)[1:]} {
		for _, page := range others(laid(b)) {
			wantRead(t, page, "", api.ErrCorrupt)
		}
	}
}

func TestP1501ReadOfWhatLayNeverLays(t *testing.T) {
	for n := 28; n < 256; n++ {
		wantRead(t, sealed(bytes(n)+full('x')), "", api.ErrCorrupt)
		wantRead(t, sealed(bytes(n)), "", api.ErrCorrupt)
	}
	for n := range 27 {
		for at := n; at < 27; at++ {
			b := []byte(full('x')[:n] + full(0)[n:])
			b[at] = 1
			wantRead(t, sealed(bytes(n)+string(b)), "", api.ErrCorrupt)
		}
		wantRead(t, sealed(bytes(n)+full(0)[:26]+"\xff"), "", api.ErrCorrupt)
	}
	l := []string{strings.Repeat("\x00", 32), strings.Repeat("\xff", 32), strings.Repeat("x", 32), sealed("")[:28] + "\x00\x00\x00\x00"}
	for _, page := range l {
		wantRead(t, page, "", api.ErrCorrupt)
	}
}

func TestP1501ReadOfASlot(t *testing.T) {
	for _, s := range slots() {
		page, _ := leaf.Slot(s.gen, s.pages...)
		wantRead(t, page, "", api.ErrCorrupt)
	}
}

func TestP1502SlotIsThePageThatNames(t *testing.T) {
	for _, s := range slots() {
		wantSlot(t, s.gen, s.pages, slotted(s.gen, s.pages...), api.OK)
	}
	for k := 2; k <= 249; k++ {
		wantSlot(t, k, []int{2, k, 249}, slotted(k, 2, k, 249), api.OK)
	}
	wantSlot(t, 0x01020304, []int{2, 249}, "\xa5\x04\x03\x02\x01\x02\x02\xf9"+strings.Repeat("\x00", 20)+slotted(0x01020304, 2, 249)[28:], api.OK)
}

func TestP1502SlotOfAnotherGen(t *testing.T) {
	for _, gen := range []int{0, -1, -2, -256, math.MinInt, math.MinInt + 1, math.MinInt32, math.MaxInt, 1_000_000_001, 1<<31 - 1, 1<<32 - 1, 1 << 32, 1<<32 + 1, -1<<32 + 1} {
		wantSlot(t, gen, nil, "", api.ErrArg)
		wantSlot(t, gen, []int{2, 3}, "", api.ErrArg)
	}
}

func TestP1502SlotOfTooManyPages(t *testing.T) {
	for _, n := range []int{12, 13, 22, 23, 28, 255, 256, 267, 70000} {
		wantSlot(t, 1, many(n, 2), "", api.ErrArg)
	}
	wantSlot(t, 1, many(api.MaxSlotted, 3), slotted(1, many(11, 3)...), api.OK)
}

func TestP1502SlotOfAPageThatMayNotBe(t *testing.T) {
	for _, k := range []int{1, 0, -1, -2, -250, 250, 251, 255, 256, 258, 1 << 32, 1<<32 + 2, math.MinInt, math.MinInt + 2, math.MinInt32, math.MaxInt, math.MaxInt32} {
		wantSlot(t, 1, []int{k}, "", api.ErrArg)
		wantSlot(t, 1, []int{k, 2, 3}, "", api.ErrArg)
		wantSlot(t, 1, []int{2, k, 3}, "", api.ErrArg)
		wantSlot(t, 1, append(many(10, 2), k), "", api.ErrArg)
	}
}

func TestP1502UnslotOfWhatSlotTold(t *testing.T) {
	for _, s := range slots() {
		page, _ := leaf.Slot(s.gen, s.pages...)
		wantUnslot(t, page, s.gen, s.pages, api.OK)
		wantUnslot(t, slotted(s.gen, s.pages...), s.gen, s.pages, api.OK)
	}
	for k := 2; k <= 249; k++ {
		wantUnslot(t, slotted(k, 2, k, 249), k, []int{2, k, 249}, api.OK)
	}
}

func TestP1502UnslotTellsListsOfItsOwn(t *testing.T) {
	page, _ := leaf.Slot(9, 2, 3, 4)
	_, one, _ := leaf.Unslot(page)
	_, two, _ := leaf.Unslot(page)
	one[0], one[2] = 77, 78
	_ = append(one, 79)
	if !slices.Equal(two, []int{2, 3, 4}) {
		t.Errorf("two lists are one: %v", two)
	}
	wantUnslot(t, page, 9, []int{2, 3, 4}, api.OK)
	handed := []int{5, 6}
	page, _ = leaf.Slot(9, handed...)
	handed[0] = 8
	wantUnslot(t, page, 9, []int{5, 6}, api.OK)
}

func TestP1502UnslotOfAnotherForm(t *testing.T) {
	for _, page := range wrongPages() {
		wantUnslot(t, page, 0, nil, api.ErrForm)
	}
}

func TestP1502UnslotOfOneOtherByte(t *testing.T) {
	for _, page := range []string{slotted(1), slotted(258, 2, 249, 7), slotted(1_000_000_000, many(11, 249)...), slotted(255, many(11, 2)...)} {
		for _, other := range others(page) {
			wantUnslot(t, other, 0, nil, api.ErrCorrupt)
		}
	}
}

func TestP1502UnslotOfAnotherFirstByte(t *testing.T) {
	for c := range 256 {
		if c == 0xA5 {
			continue
		}
		wantUnslot(t, sealed(bytes(c)+slotted(1)[1:28]), 0, nil, api.ErrCorrupt)
		wantUnslot(t, sealed(bytes(c)+slotted(258, 2, 249)[1:28]), 0, nil, api.ErrCorrupt)
	}
}

func TestP1502UnslotOfAGenThatMayNotBe(t *testing.T) {
	for _, gen := range []int{0, 1_000_000_001, 1 << 30, 1<<31 - 1, 1 << 31, 1<<31 + 1, 1<<32 - 1, 1<<32 - 2} {
		wantUnslot(t, slotted(gen), 0, nil, api.ErrCorrupt)
		wantUnslot(t, slotted(gen, 2, 3), 0, nil, api.ErrCorrupt)
	}
}

func TestP1502UnslotOfPagesThatMayNotBe(t *testing.T) {
	for _, k := range []int{0, 1, 250, 251, 255} {
		wantUnslot(t, slotted(1, k), 0, nil, api.ErrCorrupt)
		wantUnslot(t, slotted(1, 2, k, 3), 0, nil, api.ErrCorrupt)
		wantUnslot(t, slotted(1, append(many(10, 2), k)...), 0, nil, api.ErrCorrupt)
	}
	for n := 12; n <= 22; n++ {
		wantUnslot(t, slotted(1, many(n, 2)...), 0, nil, api.ErrCorrupt)
	}
	for n := 12; n < 256; n++ {
		wantUnslot(t, sealed(bytes(0xA5, 1, 0, 0, 0, n)+bytes(many(11, 2)...)), 0, nil, api.ErrCorrupt)
		wantUnslot(t, sealed(bytes(0xA5, 1, 0, 0, 0, n)+bytes(many(22, 2)...)), 0, nil, api.ErrCorrupt)
	}
}

func TestP1502UnslotOfBytesBehindThePages(t *testing.T) {
	for n := range 12 {
		for at := 6 + n; at < 28; at++ {
			b := []byte(slotted(1, many(n, 2)...)[:28])
			b[at] = 9
			wantUnslot(t, sealed(string(b)), 0, nil, api.ErrCorrupt)
		}
	}
	for _, page := range []string{strings.Repeat("\x00", 32), strings.Repeat("\xff", 32), strings.Repeat("\xa5", 32), sealed("")} {
		wantUnslot(t, page, 0, nil, api.ErrCorrupt)
	}
}

func TestP1502UnslotOfAPageOfBytes(t *testing.T) {
	for _, b := range texts() {
		page, _ := leaf.Lay(b)
		wantUnslot(t, page, 0, nil, api.ErrCorrupt)
	}
}

func TestP1502PartsOfRoomBytes(t *testing.T) {
	var q sequence = 1502
	for n := range 200 {
		b := q.some(n)
		if got := leaf.Parts(b); !slices.Equal(got, parts(b)) {
			t.Errorf("Parts(%q): %q, not %q", b, got, parts(b))
		}
	}
	for _, n := range []int{27, 28, 54, 55, 299, 300, 10000} {
		b := strings.Repeat("\x00", n)
		if got := leaf.Parts(b); !slices.Equal(got, parts(b)) {
			t.Errorf("Parts of %d zeros: %q", n, got)
		}
	}
	if got := leaf.Parts(full('x') + "y"); !slices.Equal(got, []string{full('x'), "y"}) {
		t.Errorf("Parts of 28 bytes: %q", got)
	}
}

func TestP1502PartsTellsListsOfItsOwn(t *testing.T) {
	b := full('x') + "y"
	one, two := leaf.Parts(b), leaf.Parts(b)
	one[0], one[1] = "other", "ones"
	if !slices.Equal(two, []string{full('x'), "y"}) || !slices.Equal(leaf.Parts(b), two) {
		t.Errorf("two lists are one: %q", two)
	}
}

func TestP1502NeedIsHowManyParts(t *testing.T) {
	for n := range 1000 {
		if got, want := leaf.Need(n), len(parts(strings.Repeat("a", n))); got != want || len(leaf.Parts(strings.Repeat("a", n))) != want {
			t.Errorf("Need(%d): %d, not %d", n, got, want)
		}
	}
	for _, n := range []int{0, -1, -26, -27, -28, math.MinInt, math.MinInt + 1, math.MinInt32} {
		if got := leaf.Need(n); got != 0 {
			t.Errorf("Need(%d): %d, not 0", n, got)
		}
	}
	for _, n := range []int{math.MaxInt, math.MaxInt - 1, math.MaxInt - 26, math.MaxInt - 27, math.MaxInt32, 1 << 32} {
		want := n / 27
		if n%27 > 0 {
			want++
		}
		if got := leaf.Need(n); got != want {
			t.Errorf("Need(%d): %d, not %d", n, got, want)
		}
	}
}

func TestP1502PartsLaidAndReadAreTheBytes(t *testing.T) {
	var q sequence = 1503
	for n := range 320 {
		b := q.some(n)
		var back strings.Builder
		for _, part := range leaf.Parts(b) {
			page, err := leaf.Lay(part)
			got, readErr := leaf.Read(page)
			if err != api.OK || readErr != api.OK || len(page) != api.PageSize {
				t.Errorf("a part %q: page %q, errors %d and %d", part, page, err, readErr)
			}
			back.WriteString(got)
		}
		if back.String() != b {
			t.Errorf("of %q came %q", b, back.String())
		}
	}
}

func TestP1501P1502ManyCalls(t *testing.T) {
	var q sequence = 1504
	for range 20000 {
		switch q.below(4) {
		case 0:
			b := q.some(q.below(28))
			wantLay(t, b, laid(b), api.OK)
			wantRead(t, laid(b), b, api.OK)
		case 1:
			gen, pages := 1+q.below(1_000_000_000), q.pages()
			wantSlot(t, gen, pages, slotted(gen, pages...), api.OK)
			wantUnslot(t, slotted(gen, pages...), gen, pages, api.OK)
		case 2:
			page := q.some(api.PageSize)
			wantRead(t, page, "", api.ErrCorrupt)
			wantUnslot(t, page, 0, nil, api.ErrCorrupt)
		case 3:
			wantReadOfAny(t, q.some(1+q.below(28)))
		}
	}
}

// wantReadOfAny holds Read of any bytes of which the tally is right against what the words of the chapter say of them.
func wantReadOfAny(t *testing.T, b string) {
	t.Helper()
	page := sealed(bytes(int(b[0])%40) + b[1:])
	for n := range 28 {
		if laid(page[1:1+n]) == page {
			wantRead(t, page, page[1:1+n], api.OK)
			return
		}
	}
	wantRead(t, page, "", api.ErrCorrupt)
}
