package tally_test

import (
	"math"
	"slices"
	"strings"
	"testing"

	"emulsion/api"
	"emulsion/tally"
)

// pair is a tally by the words of the chapter: two halves, each by itself.
type pair struct{ low, high int }

// word puts the halves together by a product.
func (p pair) word() uint32 { return uint32(p.high*65536 + p.low) }

// less takes 65521 away as often as may be.
func less(n int) int {
	for n >= 65521 {
		n -= 65521
	}
	return n
}

// add goes on with bytes, one by one.
func (p pair) add(b string) pair {
	for _, c := range []byte(b) {
		p.low = less(p.low + int(c))
		p.high = less(p.high + p.low)
	}
	return p
}

// begun is what a tally begins with.
func begun() pair { return pair{low: 0xACE1} }

// seal is b, and the four bytes of its tally, by quotients.
func seal(b string) string {
	p := begun().add(b)
	return b + string([]byte{byte(p.low % 256), byte(p.low / 256), byte(p.high % 256), byte(p.high / 256)})
}

// halves has those at both ends, about 65521, and some between.
func halves() []int {
	return []int{0, 1, 2, 254, 255, 256, 32767, 32768, 0xACE1, 65265, 65266, 65267, 65519, 65520, 65521, 65522, 65523, 65534, 65535}
}

// texts has bytes of many kinds: none, one, zeros, the greatest, those of a page, and some whose halves pass 65521 often.
func texts() []string {
	l := []string{"", "\x00", "\x01", "\xff", "a", "ab", "ba", "\x00\x01", "\xff\xfe", "\xc3\xa9", "some bytes", "abcdefgh"}
	l = append(l, strings.Repeat("\x00", api.PageSize), strings.Repeat("\xff", api.PageSize), strings.Repeat("\xff\x00", 60), strings.Repeat("long", 90), strings.Repeat("\x00", 400))
	return append(l, mixture(27), mixture(api.PageSize-4), mixture(api.MaxThing))
}

// mixture tells so many bytes without a pattern that is plain.
func mixture(n int) string {
	b := make([]byte, n)
	for i := range b {
		b[i] = byte(i*i*7>>2 ^ i*31)
	}
	return string(b)
}

// with tells the bytes with another one at a place.
func with(b string, at int, c byte) string { return b[:at] + string([]byte{c}) + b[at+1:] }

// turned tells the bytes with two, one behind the other, changed over.
func turned(b string, at int) string {
	return b[:at] + b[at+1:at+2] + b[at:at+1] + b[at+2:]
}

func wantOf(t *testing.T, b string, want uint32) {
	t.Helper()
	if got := tally.Of(b); got != want {
		t.Errorf("Of of %d bytes %.40q: %#x, not %#x", len(b), b, got, want)
	}
}

func wantAdd(t *testing.T, from uint32, b string, want uint32) {
	t.Helper()
	if got := tally.Add(from, b); got != want {
		t.Errorf("Add(%#x, %d bytes %.40q): %#x, not %#x", from, len(b), b, got, want)
	}
}

func wantSeal(t *testing.T, b, want string) {
	t.Helper()
	if got := tally.Seal(b); got != want {
		t.Errorf("Seal of %d bytes %.40q: %q, not %q", len(b), b, got, want)
	}
}

func wantOpen(t *testing.T, b, want string, wantErr api.Errno) {
	t.Helper()
	if got, err := tally.Open(b); got != want || err != wantErr {
		t.Errorf("Open of %d bytes %.40q: %q, error %d, not %q, error %d", len(b), b, got, err, want, wantErr)
	}
}

func TestP1201OfExamples(t *testing.T) {
	full := strings.Repeat("\xff", 83)
	nulls := strings.Repeat("\x00", 264)
	for _, c := range []struct {
		b    string
		want uint32
	}{
		{"", 0xACE1},
		{"\x00", 0xACE1ACE1}, {"\x01", 0xACE2ACE2}, {"a", 0xAD42AD42}, {"\x7f", 0xAD60AD60}, {"\x80", 0xAD61AD61}, {"\xff", 0xADE0ADE0},
		{"\x00\x00", 0x59D1ACE1}, {"ab", 0x5AF5ADA4}, {"ba", 0x5AF6ADA4},
		// Two bytes, though one rune.
		{"\xc3\xa9", 0x5C00AE4D},
		{"abcdefgh", 0x754BB005}, {"some bytes", 0xD6DBB0DC},
		// The low half is one less than 65521, is it, and passes it.
		{full, 0xA160FF8E}, {full + "\x62", 0xA15FFFF0}, {full + "\x63", 0xA1600000}, {full + "\x64", 0xA1610001},
		// So does the high half.
		{nulls + "\x99", 0xFFF0AD7A}, {nulls + "\x9a", 0x0000AD7B}, {nulls + "\x9b", 0x0001AD7C},
		{strings.Repeat("\xff", 500), 0x30899F0B},
		// So many zeros bring the high half round to where it began.
		{strings.Repeat("\x00", 65520), 0x5310ACE1}, {strings.Repeat("\x00", 65521), 0xACE1}, {strings.Repeat("\x00", 65522), 0xACE1ACE1},
	} {
		wantOf(t, c.b, c.want)
	}
}

// TestP1201OfEachByte takes each byte alone, and ahead of, behind and between others.
func TestP1201OfEachByte(t *testing.T) {
	for c := range 256 {
		one := string([]byte{byte(c)})
		for _, b := range []string{one, one + "x", "x" + one, one + one + one, strings.Repeat("\xff", 90) + one + "\xff"} {
			wantOf(t, b, begun().add(b).word())
		}
	}
}

// TestP1201OfEachLength: both halves pass 65521 many times, and meet 0 and 65520 on their way.
func TestP1201OfEachLength(t *testing.T) {
	for _, all := range []string{strings.Repeat("\x00", 600), strings.Repeat("\xff", 600), mixture(600)} {
		for n := range len(all) + 1 {
			wantOf(t, all[:n], begun().add(all[:n]).word())
		}
	}
	all := mixture(1 << 18)
	for _, n := range []int{1<<16 - 1, 1 << 16, 1<<16 + 1, 65521, 1 << 18} {
		wantOf(t, all[:n], begun().add(all[:n]).word())
	}
}

// TestP1201AddOfNoBytes: nothing is taken away where no byte is added, not even of halves of 65521 and above.
func TestP1201AddOfNoBytes(t *testing.T) {
	for _, low := range halves() {
		for _, high := range halves() {
			from := pair{low, high}.word()
			wantAdd(t, from, "", from)
		}
	}
	wantAdd(t, 5, "", 5)
	wantAdd(t, math.MaxUint32, "", math.MaxUint32)
}

func TestP1201AddExamples(t *testing.T) {
	for _, c := range []struct {
		from uint32
		b    string
		want uint32
	}{
		{0, "\x00", 0}, {0, "\x01", 0x00010001}, {1, "\x00", 0x00010001}, {0x00010000, "\x00", 0x00010000}, {0x00020001, "\x03", 0x00060004},
		{0x0000FFF0, "\x00", 0xFFF0FFF0}, {0x0000FFF0, "\x01", 0}, {0x0000FFF0, "\x02", 0x00010001},
		{0xFFF00000, "\x00", 0xFFF00000}, {0xFFF00000, "\x01", 0x00000001}, {0xFFF00000, "\x02", 0x00010002},
		// Halves of 65521 and above are below it once a byte is added, though it is 0.
		{0xFFF1FFF1, "\x00", 0}, {0xFFFFFFFF, "\x00", 0x001C000E}, {0xFFFF0000, "\x00", 0x000E0000}, {0x0000FFFF, "\x00", 0x000E000E},
		{0xFFFFFFFF, "\xff", 0x011B010D},
		// The high half and the new low one are twice 65521 and more.
		{0xFFFFFFF0, "\x00", 0x000DFFF0}, {0xFFFFFFEF, "\x01", 0x000DFFF0}, {0xFFF2FFF0, "\x00", 0x0000FFF0}, {0xFFF1FFF0, "\x00", 0xFFF0FFF0},
	} {
		wantAdd(t, c.from, c.b, c.want)
	}
}

// TestP1201AddToAnyTally: halves about 65521 and beyond, each with each byte, and with more behind it.
func TestP1201AddToAnyTally(t *testing.T) {
	for _, low := range halves() {
		for _, high := range halves() {
			p := pair{low, high}
			for c := range 256 {
				one := string([]byte{byte(c)})
				wantAdd(t, p.word(), one, p.add(one).word())
			}
			for _, b := range texts() {
				wantAdd(t, p.word(), b, p.add(b).word())
			}
		}
		if t.Failed() {
			return
		}
	}
}

// TestP1201AddOfEachLowHalf: the low half alone decides what is taken away from it.
func TestP1201AddOfEachLowHalf(t *testing.T) {
	for low := range 1 << 16 {
		for _, c := range []string{"\x00", "\x01", "\x80", "\xff"} {
			p := pair{low, 1 << 15}
			wantAdd(t, p.word(), c, p.add(c).word())
			p = pair{1 << 15, low}
			wantAdd(t, p.word(), c, p.add(c).word())
		}
		if t.Failed() {
			return
		}
	}
}

// TestP1201AddInSteps: in one step, in two at each place, and byte by byte, with steps of none between.
func TestP1201AddInSteps(t *testing.T) {
	for _, b := range texts() {
		want := tally.Of(b)
		wantAdd(t, tally.Of(""), b, want)
		wantAdd(t, want, "", want)
		for at := range len(b) + 1 {
			wantAdd(t, tally.Of(b[:at]), b[at:], want)
		}
		x := tally.Of("")
		for _, c := range []byte(b) {
			x = tally.Add(tally.Add(x, string([]byte{c})), "")
		}
		if x != want {
			t.Errorf("Add byte by byte of %.40q: %#x, not %#x", b, x, want)
		}
	}
}

func TestP1201SealExamples(t *testing.T) {
	for _, c := range []struct{ b, want string }{
		{"", "\xe1\xac\x00\x00"},
		{"\x00", "\x00\xe1\xac\xe1\xac"}, {"\x01", "\x01\xe2\xac\xe2\xac"},
		{"ab", "ab\xa4\xad\xf5\x5a"}, {"ba", "ba\xa4\xad\xf6\x5a"},
		{"some bytes", "some bytes\xdc\xb0\xdb\xd6"},
		{strings.Repeat("\xff", 83) + "\x63", strings.Repeat("\xff", 83) + "\x63\x00\x00\x60\xa1"},
	} {
		wantSeal(t, c.b, c.want)
	}
}

func TestP1201SealOfMany(t *testing.T) {
	all := mixture(600)
	for n := range len(all) + 1 {
		wantSeal(t, all[:n], seal(all[:n]))
	}
	for _, b := range texts() {
		wantSeal(t, b, seal(b))
		// What is sealed may be sealed again.
		wantSeal(t, seal(b), seal(seal(b)))
	}
}

// TestP1201OpenOfSealed: the bytes come back, those that are sealed twice, too, and those that look like a tally.
func TestP1201OpenOfSealed(t *testing.T) {
	for _, b := range append(texts(), "\xe1\xac\x00\x00", mixture(1<<17)) {
		wantOpen(t, tally.Seal(b), b, api.OK)
		wantOpen(t, seal(b), b, api.OK)
		wantOpen(t, tally.Seal(tally.Seal(b)), tally.Seal(b), api.OK)
	}
}

// TestP1201OpenOfFew: of fewer than four bytes, whatever they are; just four are no bytes and their tally.
func TestP1201OpenOfFew(t *testing.T) {
	none := tally.Seal("")
	for n := range 4 {
		for _, b := range []string{"abc", "\x00\x00\x00", "\xff\xff\xff", none} {
			wantOpen(t, b[:n], "", api.ErrForm)
		}
	}
	wantOpen(t, none[1:], "", api.ErrForm)
	wantOpen(t, "\xe1\xac\x00\x00", "", api.OK)
	for _, b := range []string{"abcd", "\x00\x00\x00\x00", "\xff\xff\xff\xff", "\xac\xe1\x00\x00", "\x00\x00\xe1\xac", "\x00\x00\xac\xe1"} {
		wantOpen(t, b, "", api.ErrCorrupt)
	}
}

// TestP1201OpenOfAnother: each other byte at each place is found, in the bytes and in the tally.
func TestP1201OpenOfAnother(t *testing.T) {
	for _, b := range texts() {
		s := tally.Seal(b)
		for at := range s {
			for c := range 256 {
				if byte(c) != s[at] {
					wantOpen(t, with(s, at, byte(c)), "", api.ErrCorrupt)
				}
			}
		}
		for at := range len(s) - 1 {
			if s[at] != s[at+1] {
				wantOpen(t, turned(s, at), "", api.ErrCorrupt)
			}
		}
		if t.Failed() {
			return
		}
	}
}

// TestP1201OpenOfMoreAndLess: with a byte too many or too few, ahead, behind and between.
func TestP1201OpenOfMoreAndLess(t *testing.T) {
	s := tally.Seal("some bytes")
	for at := range s {
		wantOpen(t, s[:at]+s[at+1:], "", api.ErrCorrupt)
		wantOpen(t, s[:at]+"x"+s[at:], "", api.ErrCorrupt)
	}
	wantOpen(t, s+"x", "", api.ErrCorrupt)
	wantOpen(t, s[:10], "", api.ErrCorrupt)
	wantOpen(t, s[10:], "", api.ErrCorrupt)
	wantOpen(t, s+s, "", api.ErrCorrupt)
}

// TestP1201OpenOfHalvesPast65521: halves that are 65521 more than the tally's are alike less 65521, and yet are not it.
func TestP1201OpenOfHalvesPast65521(t *testing.T) {
	low := strings.Repeat("\xff", 83) + "\x63"
	wantOpen(t, low+"\x00\x00\x60\xa1", low, api.OK)
	wantOpen(t, low+"\xf1\xff\x60\xa1", "", api.ErrCorrupt)
	high := strings.Repeat("\x00", 264) + "\x9a"
	wantOpen(t, high+"\x7b\xad\x00\x00", high, api.OK)
	wantOpen(t, high+"\x7b\xad\xf1\xff", "", api.ErrCorrupt)
	// As no bytes are added to the beginning, it is told as it is.
	wantOpen(t, "\xe1\xac\xf1\xff", "", api.ErrCorrupt)
}

// begins has tallies to which bytes are added: that of none, and some whose halves are at 65521 and beyond.
func begins() []uint32 {
	return []uint32{0xACE1, 0, 0xFFF0FFF0, 0xFFF1FFF1, math.MaxUint32, 0x12345678}
}

// TestP1202OtherByte: of each byte at each place, each other one tells another tally, and no two of them the same.
func TestP1202OtherByte(t *testing.T) {
	for _, b := range texts() {
		for _, from := range begins() {
			for at := range b {
				var told []uint32
				for c := range 256 {
					told = append(told, tally.Add(from, with(b, at, byte(c))))
				}
				slices.Sort(told)
				if len(slices.Compact(told)) != 256 {
					t.Fatalf("Add(%#x, %.40q): another byte at %d tells the same", from, b, at)
				}
			}
		}
	}
}

// TestP1202OtherByteFarAhead: so many bytes behind it bring the high half round, and the low one still tells.
func TestP1202OtherByteFarAhead(t *testing.T) {
	b := mixture(2*65521 + 9)
	was := tally.Of(b)
	for _, at := range []int{0, 1, 8, 9, 65520, 65521, 65522, 65529, 65530, 2*65521 + 7, 2*65521 + 8} {
		for _, d := range []byte{1, 15, 128, 255} {
			if tally.Of(with(b, at, b[at]+d)) == was {
				t.Errorf("Of is the same with another byte, %d more, at %d", d, at)
			}
		}
	}
}

// TestP1202EachTwoChangedOver takes each two bytes that are not the same, alone and among others.
func TestP1202EachTwoChangedOver(t *testing.T) {
	for c := range 256 {
		for d := range c {
			two, owt := string([]byte{byte(c), byte(d)}), string([]byte{byte(d), byte(c)})
			for _, from := range begins() {
				if tally.Add(from, two) == tally.Add(from, owt) || tally.Add(from, two+"more") == tally.Add(from, owt+"more") {
					t.Fatalf("Add(%#x, %q) is as with the bytes changed over", from, two)
				}
			}
		}
	}
}

// TestP1202ChangedOver changes two over at each place of bytes.
func TestP1202ChangedOver(t *testing.T) {
	for _, b := range texts() {
		for _, from := range begins() {
			for at := range max(len(b)-1, 0) {
				same := tally.Add(from, turned(b, at)) == tally.Add(from, b)
				if same != (b[at] == b[at+1]) {
					t.Fatalf("Add(%#x, %.40q), changed over at %d: is it the same: %v", from, b, at, same)
				}
			}
		}
	}
	b := mixture(65521 + 9)
	for _, at := range []int{0, 1, 7, 8, 9, 65520, 65526, 65528} {
		if b[at] != b[at+1] && tally.Of(turned(b, at)) == tally.Of(b) {
			t.Errorf("Of is the same, changed over at %d", at)
		}
	}
}
