package octets_test

import (
	"math"
	"slices"
	"strings"
	"testing"

	"emulsion/api"
	"emulsion/extent"
	"emulsion/octets"
)

func ex(from, n, id int) api.Extent { return api.Extent{From: from, N: n, Id: id} }

// numbers has those at the ends of 1, 2, 3 and 4 bytes, the ones beside them, some whose lowest bytes fit though they do not, and both ends of all.
func numbers() []int {
	l := []int{0, 1, 2, 127, 128, 200, 258, 0x1234, 0x8000, 0x123456, 0x800000, 0x12345678, math.MaxInt32, 1 << 31}
	for _, bits := range []int{8, 16, 24, 32, 40, 48, 56, 62} {
		l = append(l, 1<<bits-2, 1<<bits-1, 1<<bits, 1<<bits+1, 1<<bits+255)
		l = append(l, -1<<bits, -1<<bits+1, -1<<bits-1)
	}
	return append(l, -1, -2, -127, -128, -200, math.MinInt32, math.MaxInt, math.MaxInt-1, math.MinInt, math.MinInt+1)
}

// counts has how many bytes a number is asked to have: those that may be, and others, of which some are like those in their lowest byte.
func counts() []int {
	return []int{1, 2, 3, 4, 0, 5, 6, 7, 8, 9, 16, 255, 256, 257, 260, 1 << 32, 1<<32 + 1, -1, -2, -3, -4, -5, -252, -255, math.MaxInt, math.MinInt, math.MinInt + 4}
}

// numBytes is v in so many bytes by quotients; false, if it may not be.
func numBytes(v, count int) (string, bool) {
	if count < 1 || count > 4 || v < 0 {
		return "", false
	}
	var b []byte
	for range count {
		b = append(b, byte(v%256))
		v /= 256
	}
	return string(b), v == 0
}

// textBytes is a text as Text lays it; false, if it may not be.
func textBytes(s string) (string, bool) {
	if len(s) > 255 {
		return "", false
	}
	return string([]byte{byte(len(s))}) + s, true
}

// extentBytes is a map as Extents lays it; false, if it may not be.
func extentBytes(l []api.Extent) (string, bool) {
	if !extent.Valid(l, api.MaxBlocks) {
		return "", false
	}
	b := []byte{byte(len(l))}
	for _, x := range l {
		b = append(b, byte(x.From), byte(x.N), byte(x.Id))
	}
	return string(b), true
}

// texts has some of each length that is near an end, and bytes that are no text.
func texts() []string {
	l := []string{"", "a", "\x00", "\xff", "\xff\xfe\x80", "\xc3", "\xc3\xa9", "\xed\xa0\x80", "a\x00b\n", "some bytes", strings.Repeat("\x00", 40)}
	for _, n := range []int{2, 127, 128, 254, 255} {
		l = append(l, strings.Repeat("x", n), mixture(n))
	}
	return l
}

// longTexts has texts that are too long, some of which are not in the lowest byte of how many they are.
func longTexts() []string {
	var l []string
	for _, n := range []int{256, 257, 300, 511, 512, 513, 1<<16 - 1, 1 << 16, 1<<16 + 1} {
		l = append(l, mixture(n))
	}
	return l
}

// mixture tells so many bytes without a pattern that is plain.
func mixture(n int) string {
	b := make([]byte, n)
	for i := range b {
		b[i] = byte(i*i*7>>2 ^ i*31)
	}
	return string(b)
}

// most is the greatest map: each block an extent of its own.
func most() []api.Extent {
	var l []api.Extent
	for k := range api.MaxBlocks {
		l = append(l, ex(k, 1, k%2*(k/2+1)))
	}
	return l
}

// maps has some that are valid.
func maps() [][]api.Extent {
	return [][]api.Extent{
		nil, {}, {ex(0, 1, 0)}, {ex(0, 1, 1)}, {ex(0, 64, 0)}, {ex(63, 1, 0)}, {ex(63, 1, 60)}, {ex(0, 60, 1)}, {ex(4, 60, 1)}, {ex(9, 2, 59)},
		{ex(1, 2, 3), ex(9, 1, 60)}, {ex(0, 1, 1), ex(1, 2, 0), ex(3, 1, 4)}, {ex(0, 1, 1), ex(1, 1, 1)}, {ex(0, 1, 2), ex(1, 1, 1)}, {ex(0, 1, 0), ex(2, 1, 0)}, {ex(0, 1, 5), ex(2, 1, 6)},
		most(),
	}
}

// badMaps has some that are not: by one extent, by two that lie over one another, do not rise, or could be one.
func badMaps() [][]api.Extent {
	return [][]api.Extent{
		{ex(-1, 1, 0)}, {ex(0, 0, 0)}, {ex(0, -1, 0)}, {ex(0, 65, 0)}, {ex(64, 1, 0)}, {ex(63, 2, 0)}, {ex(0, 1, -1)}, {ex(0, 1, 61)}, {ex(0, 2, 60)}, {ex(0, 61, 1)},
		{ex(256, 1, 0)}, {ex(0, 257, 0)}, {ex(0, 1, 256)}, {ex(0, 1, 257)}, {ex(-256, 1, 0)}, {ex(1, math.MaxInt, 0)}, {ex(math.MaxInt, 1, 1)}, {ex(0, 1, math.MinInt)}, {ex(0, math.MinInt, 1)},
		{ex(0, 1, 0), ex(1, 1, 0)}, {ex(0, 1, 1), ex(1, 1, 2)}, {ex(0, 2, 1), ex(2, 3, 3)},
		{ex(0, 2, 1), ex(1, 1, 9)}, {ex(0, 1, 1), ex(0, 1, 1)}, {ex(5, 1, 1), ex(3, 1, 7)},
		{ex(0, 1, 1), ex(2, 1, 61)}, {ex(0, 0, 1), ex(2, 1, 6)}, append(most(), ex(63, 1, 7)), append(most(), ex(64, 1, 7)),
		append(most(), most()...), slices.Repeat([]api.Extent{ex(0, 1, 0)}, 256), slices.Repeat([]api.Extent{ex(0, 1, 0)}, 257), slices.Repeat(most(), 4),
	}
}

func errOf(ok bool) api.Errno {
	if ok {
		return api.OK
	}
	return api.ErrArg
}

func wantErr(t *testing.T, what string, got, want api.Errno) {
	t.Helper()
	if got != want {
		t.Errorf("%s: error %d, not %d", what, got, want)
	}
}

func wantInt(t *testing.T, what string, got, want int) {
	t.Helper()
	if got != want {
		t.Errorf("%s: %d, not %d", what, got, want)
	}
}

func wantText(t *testing.T, what, got, want string) {
	t.Helper()
	if got != want {
		t.Errorf("%s: %q, not %q", what, got, want)
	}
}

func wantList(t *testing.T, what string, got, want []api.Extent) {
	t.Helper()
	if !slices.Equal(got, want) {
		t.Errorf("%s: %v, not %v", what, got, want)
	}
}

func wantBytes(t *testing.T, what string, o *octets.Out, want string, wanted api.Errno) {
	t.Helper()
	if got, err := o.Done(); got != want || err != wanted {
		t.Errorf("%s: %q, error %d, not %q, error %d", what, got, err, want, wanted)
	}
}

// wantSpent: nothing is left, each call tells nothing, and all of them do so from then on.
func wantSpent(t *testing.T, what string, i *octets.In) {
	t.Helper()
	for range 2 {
		wantInt(t, what+": Left", i.Left(), 0)
		wantErr(t, what+": Done", i.Done(), api.ErrForm)
		for _, count := range []int{1, 2, 3, 4, 0, 5, -1} {
			wantInt(t, what+": Num", i.Num(count), 0)
		}
		wantText(t, what+": Text", i.Text(), "")
		if l := i.Extents(); len(l) != 0 {
			t.Errorf("%s: Extents: %v, not none", what, l)
		}
	}
}

func TestP1301Example(t *testing.T) {
	var o octets.Out
	wantErr(t, "Num(258, 2)", o.Num(258, 2), api.OK)
	wantErr(t, `Text("a")`, o.Text("a"), api.OK)
	wantBytes(t, "Done", &o, "\x02\x01\x01a", api.OK)
}

func TestP1301ZeroIsEmpty(t *testing.T) {
	var o octets.Out
	wantBytes(t, "Done of a zero Out", &o, "", api.OK)
	wantBytes(t, "Done of it once more", &o, "", api.OK)
	wantErr(t, "Num", o.Num(0, 1), api.OK)
	wantBytes(t, "Done behind one byte", &o, "\x00", api.OK)
	wantBytes(t, "Done of another one", &octets.Out{}, "", api.OK)
	wantBytes(t, "Done of a new one", new(octets.Out), "", api.OK)
}

func TestP1301NumExamples(t *testing.T) {
	for _, c := range []struct {
		v, bytes int
		want     string
	}{
		{0, 1, "\x00"}, {0, 2, "\x00\x00"}, {0, 3, "\x00\x00\x00"}, {0, 4, "\x00\x00\x00\x00"},
		{255, 1, "\xff"}, {255, 2, "\xff\x00"}, {255, 4, "\xff\x00\x00\x00"}, {256, 2, "\x00\x01"},
		{65535, 2, "\xff\xff"}, {65535, 3, "\xff\xff\x00"}, {65536, 3, "\x00\x00\x01"},
		{16777215, 3, "\xff\xff\xff"}, {16777215, 4, "\xff\xff\xff\x00"}, {16777216, 4, "\x00\x00\x00\x01"},
		{4294967295, 4, "\xff\xff\xff\xff"}, {0x12345678, 4, "\x78\x56\x34\x12"}, {0x80000000, 4, "\x00\x00\x00\x80"}, {0x8001, 2, "\x01\x80"},
	} {
		var o octets.Out
		wantErr(t, "Num", o.Num(c.v, c.bytes), api.OK)
		wantBytes(t, "Done", &o, c.want, api.OK)
	}
	for _, c := range [][2]int{
		{256, 1}, {65536, 2}, {16777216, 3}, {4294967296, 4}, {-1, 1}, {-1, 4}, {math.MaxInt, 4}, {math.MinInt, 4}, {math.MinInt, 1}, {math.MaxInt, 8}, {-1, 8},
		{0, 0}, {1, 0}, {0, 5}, {1, 5}, {0, -1}, {1, -1}, {0, math.MaxInt}, {0, math.MinInt}, {4294967296, 5},
	} {
		var o octets.Out
		wantErr(t, "Num", o.Num(c[0], c[1]), api.ErrArg)
		wantBytes(t, "Done", &o, "", api.ErrArg)
	}
}

// TestP1301NumOfEach: each number with each count of bytes, behind other bytes.
func TestP1301NumOfEach(t *testing.T) {
	for _, v := range numbers() {
		for _, count := range counts() {
			var o octets.Out
			o.Text("ahead")
			b, ok := numBytes(v, count)
			if err := o.Num(v, count); err != errOf(ok) {
				t.Errorf("Num(%d, %d): error %d, not %d", v, count, err, errOf(ok))
			}
			want := "\x05ahead" + b
			if !ok {
				want = ""
			}
			wantBytes(t, "Done", &o, want, errOf(ok))
		}
	}
}

// TestP1301NumOfAllSmall: each number up to the end of two bytes and some beyond, and each byte at each of four places.
func TestP1301NumOfAllSmall(t *testing.T) {
	var o octets.Out
	var want strings.Builder
	lay := func(v, count int) {
		b, ok := numBytes(v, count)
		if ok != (o.Num(v, count) == api.OK) {
			t.Fatalf("Num(%d, %d): is it taken: not %v", v, count, ok)
		}
		want.WriteString(b)
	}
	for v := range 1 << 16 {
		lay(v, 2)
		lay(v, 4)
	}
	for c := range 256 {
		lay(c, 1)
		for place := range 4 {
			lay(c<<(8*place), 4)
		}
	}
	wantBytes(t, "Done", &o, want.String(), api.OK)
	for v := 1 << 16; v < 1<<17; v++ {
		var o octets.Out
		wantErr(t, "Num of too many", o.Num(v, 2), api.ErrArg)
	}
}

func TestP1301TextExamples(t *testing.T) {
	for _, c := range []struct{ s, want string }{
		{"", "\x00"}, {"a", "\x01a"}, {"ab", "\x02ab"}, {"\x00", "\x01\x00"}, {"\xff\xfe", "\x02\xff\xfe"}, {"\xc3\xa9", "\x02\xc3\xa9"},
		{strings.Repeat("x", 255), "\xff" + strings.Repeat("x", 255)},
	} {
		var o octets.Out
		wantErr(t, "Text", o.Text(c.s), api.OK)
		wantBytes(t, "Done", &o, c.want, api.OK)
	}
}

// TestP1301TextOfEachLength: those of 256 bytes and on are refused.
func TestP1301TextOfEachLength(t *testing.T) {
	all := mixture(600)
	for n := range len(all) + 1 {
		var o octets.Out
		o.Num(7, 1)
		b, ok := textBytes(all[:n])
		wantErr(t, "Text", o.Text(all[:n]), errOf(ok))
		want := "\x07" + b
		if !ok {
			want = ""
		}
		wantBytes(t, "Done", &o, want, errOf(ok))
	}
	for _, s := range longTexts() {
		var o octets.Out
		wantErr(t, "Text", o.Text(s), api.ErrArg)
		wantBytes(t, "Done", &o, "", api.ErrArg)
	}
}

func TestP1301TextOfEachByte(t *testing.T) {
	for c := range 256 {
		one := string([]byte{byte(c)})
		var o octets.Out
		wantErr(t, "Text", o.Text(one), api.OK)
		wantErr(t, "Text", o.Text("a"+one+one), api.OK)
		wantBytes(t, "Done", &o, "\x01"+one+"\x03a"+one+one, api.OK)
	}
}

func TestP1301ExtentsExamples(t *testing.T) {
	for _, c := range []struct {
		l    []api.Extent
		want string
	}{
		{nil, "\x00"}, {[]api.Extent{}, "\x00"}, {[]api.Extent{ex(1, 2, 3)}, "\x01\x01\x02\x03"}, {[]api.Extent{ex(0, 64, 0)}, "\x01\x00\x40\x00"},
		{[]api.Extent{ex(63, 1, 60)}, "\x01\x3f\x01\x3c"}, {[]api.Extent{ex(1, 2, 3), ex(9, 1, 60)}, "\x02\x01\x02\x03\x09\x01\x3c"},
	} {
		var o octets.Out
		wantErr(t, "Extents", o.Extents(c.l), api.OK)
		wantBytes(t, "Done", &o, c.want, api.OK)
	}
	var o octets.Out
	wantErr(t, "Extents of 64", o.Extents(most()), api.OK)
	b, err := o.Done()
	if err != api.OK || len(b) != 193 || b[0] != 64 || b[1:7] != "\x00\x01\x00\x01\x01\x01" || b[190:] != "\x3f\x01\x20" {
		t.Errorf("Done behind Extents of 64: %q, error %d", b, err)
	}
}

// TestP1301ExtentsOfMany: each behind other bytes; what is handed in stays as it was, and is changed behind it for nothing.
func TestP1301ExtentsOfMany(t *testing.T) {
	for _, l := range append(maps(), badMaps()...) {
		b, ok := extentBytes(l)
		var o octets.Out
		o.Text("ahead")
		was := slices.Clone(l)
		wantErr(t, "Extents", o.Extents(l), errOf(ok))
		wantList(t, "what was handed in", l, was)
		for k := range l {
			l[k] = ex(9, 9, 9)
		}
		want := "\x05ahead" + b
		if !ok {
			want = ""
		}
		wantBytes(t, "Done", &o, want, errOf(ok))
	}
}

// TestP1301ExtentsRefused: by what is known of each map, whatever extent.Valid tells.
func TestP1301ExtentsRefused(t *testing.T) {
	for _, l := range badMaps() {
		var o octets.Out
		if err := o.Extents(l); err != api.ErrArg {
			t.Errorf("Extents of %v: error %d, not %d", l, err, api.ErrArg)
		}
	}
	for _, l := range maps() {
		var o octets.Out
		if err := o.Extents(l); err != api.OK {
			t.Errorf("Extents of %v: error %d", l, err)
		}
	}
}

func TestP1301DoneOnceMore(t *testing.T) {
	var o octets.Out
	o.Num(1, 1)
	wantBytes(t, "Done", &o, "\x01", api.OK)
	wantBytes(t, "Done twice", &o, "\x01", api.OK)
	first, _ := o.Done()
	o.Text("ab")
	o.Extents([]api.Extent{ex(1, 2, 3)})
	wantBytes(t, "Done behind further ones", &o, "\x01\x02ab\x01\x01\x02\x03", api.OK)
	wantBytes(t, "Done twice behind further ones", &o, "\x01\x02ab\x01\x01\x02\x03", api.OK)
	wantText(t, "what the first Done told", first, "\x01")
}

// TestP1301OutsApart: what one is given does not come to another one.
func TestP1301OutsApart(t *testing.T) {
	var o, p octets.Out
	o.Num(1, 1)
	p.Num(2, 1)
	o.Num(3, 1)
	wantErr(t, "Num", p.Num(-1, 1), api.ErrArg)
	wantBytes(t, "Done of the first", &o, "\x01\x03", api.OK)
	wantBytes(t, "Done of the other", &p, "", api.ErrArg)
}

// laying is one call of an Out, and what it is to write.
type laying struct {
	call func(o *octets.Out) api.Errno
	want string
	ok   bool
}

func layings() []laying {
	num := func(v, count int) laying {
		b, ok := numBytes(v, count)
		return laying{func(o *octets.Out) api.Errno { return o.Num(v, count) }, b, ok}
	}
	text := func(s string) laying {
		b, ok := textBytes(s)
		return laying{func(o *octets.Out) api.Errno { return o.Text(s) }, b, ok}
	}
	extents := func(l ...api.Extent) laying {
		b, ok := extentBytes(l)
		return laying{func(o *octets.Out) api.Errno { return o.Extents(l) }, b, ok}
	}
	return []laying{
		num(258, 2), num(255, 1), num(256, 1), num(1, 5), num(-1, 3), text(""), text("ab"), text(mixture(256)),
		extents(), extents(ex(1, 2, 3)), extents(ex(0, 0, 0)),
	}
}

// TestP1301AnyOrder: four calls in each order; Done is asked behind each, or just at the end. Behind the first error it tells that one and no bytes, whatever is written behind it.
func TestP1301AnyOrder(t *testing.T) {
	all := layings()
	var play func(chosen []int)
	play = func(chosen []int) {
		for _, often := range []bool{false, true} {
			var o octets.Out
			want, err := "", api.OK
			for _, n := range chosen {
				if got := all[n].call(&o); got != errOf(all[n].ok) {
					t.Fatalf("calls %v: call %d: error %d", chosen, n, got)
				}
				if !all[n].ok {
					err = api.ErrArg
				}
				if want += all[n].want; err != api.OK {
					want = ""
				}
				if often {
					wantBytes(t, "Done in the middle", &o, want, err)
				}
			}
			wantBytes(t, "Done", &o, want, err)
		}
		for n := range all {
			if len(chosen) < 4 && !t.Failed() {
				play(append(chosen, n))
			}
		}
	}
	play(nil)
}

// TestP1301NilOut: each call, those that write what may be, too.
func TestP1301NilOut(t *testing.T) {
	var o *octets.Out
	for _, l := range layings() {
		wantErr(t, "a call of a nil Out", l.call(o), api.ErrArg)
	}
	wantErr(t, "Num", o.Num(1, 1), api.ErrArg)
	wantErr(t, "Text", o.Text(""), api.ErrArg)
	wantErr(t, "Extents", o.Extents(nil), api.ErrArg)
	wantBytes(t, "Done", o, "", api.ErrArg)
}

func TestP1302FromOfNoBytes(t *testing.T) {
	i := octets.From("")
	wantInt(t, "Left", i.Left(), 0)
	wantErr(t, "Done", i.Done(), api.OK)
	wantErr(t, "Done twice", i.Done(), api.OK)
	wantInt(t, "Num", i.Num(1), 0)
	wantSpent(t, "behind Num", i)
	i = octets.From("")
	wantText(t, "Text", i.Text(), "")
	wantSpent(t, "behind Text", i)
	i = octets.From("")
	wantList(t, "Extents", i.Extents(), nil)
	wantSpent(t, "behind Extents", i)
}

// TestP1302FromApart: two that read the same bytes do not hang on one another.
func TestP1302FromApart(t *testing.T) {
	b := "\x01\x02\x03"
	i, j := octets.From(b), octets.From(b)
	wantInt(t, "Num of the first", i.Num(1), 1)
	wantInt(t, "Num of the other", j.Num(2), 0x0201)
	wantInt(t, "Num of the first", i.Num(4), 0)
	wantSpent(t, "the first", i)
	wantInt(t, "Num of the other", j.Num(1), 3)
	wantErr(t, "Done of the other", j.Done(), api.OK)
}

func TestP1302NumExamples(t *testing.T) {
	i := octets.From("\x02\x01\xff\xff\xff\xff\xff\xff\xff\x00\x00\x00\x80\xff")
	wantInt(t, "Num(2)", i.Num(2), 258)
	wantInt(t, "Num(3)", i.Num(3), 16777215)
	wantInt(t, "Num(4)", i.Num(4), 4294967295)
	wantInt(t, "Num(4)", i.Num(4), 2147483648)
	wantErr(t, "Done ahead of the last byte", i.Done(), api.ErrForm)
	wantInt(t, "Num(1)", i.Num(1), 255)
	wantErr(t, "Done", i.Done(), api.OK)
	wantInt(t, "Num of none left", i.Num(1), 0)
	wantSpent(t, "behind it", i)
}

// TestP1302NumOfEach: what Num writes is read, with just enough bytes, with one more and with each number too few.
func TestP1302NumOfEach(t *testing.T) {
	for _, v := range numbers() {
		for count := 1; count <= 4; count++ {
			b, ok := numBytes(v, count)
			if !ok {
				continue
			}
			i := octets.From(b)
			wantInt(t, "Num", i.Num(count), v)
			wantInt(t, "Left", i.Left(), 0)
			wantErr(t, "Done", i.Done(), api.OK)
			i = octets.From(b + "x")
			wantInt(t, "Num ahead of another byte", i.Num(count), v)
			wantInt(t, "Left", i.Left(), 1)
			wantErr(t, "Done", i.Done(), api.ErrForm)
			for few := range count {
				i = octets.From(b[:few])
				wantInt(t, "Num of too few bytes", i.Num(count), 0)
				wantSpent(t, "behind it", i)
			}
		}
	}
	for v := range 1 << 16 {
		b, _ := numBytes(v, 2)
		wantInt(t, "Num(2)", octets.From(b).Num(2), v)
		b, _ = numBytes(v<<8|0x5a, 3)
		wantInt(t, "Num(3)", octets.From(b).Num(3), v<<8|0x5a)
	}
}

// TestP1302NumOfOtherCounts: counts that are not 1 to 4, with many bytes, and with none.
func TestP1302NumOfOtherCounts(t *testing.T) {
	for _, count := range counts() {
		if count >= 1 && count <= 4 {
			continue
		}
		for _, b := range []string{"", "a", "abcdefghi", mixture(300)} {
			i := octets.From(b)
			wantInt(t, "Num", i.Num(count), 0)
			wantSpent(t, "behind it", i)
		}
	}
}

func TestP1302TextOfEach(t *testing.T) {
	for _, s := range texts() {
		b, _ := textBytes(s)
		i := octets.From(b)
		wantText(t, "Text", i.Text(), s)
		wantInt(t, "Left", i.Left(), 0)
		wantErr(t, "Done", i.Done(), api.OK)
		i = octets.From(b + "xy")
		wantText(t, "Text ahead of others", i.Text(), s)
		wantInt(t, "Left", i.Left(), 2)
		wantErr(t, "Done", i.Done(), api.ErrForm)
		for few := range b {
			i = octets.From(b[:few])
			wantText(t, "Text of too few bytes", i.Text(), "")
			wantSpent(t, "behind it", i)
		}
	}
}

func TestP1302TextOfEachLength(t *testing.T) {
	all := mixture(256)
	for n := range 256 {
		b := string([]byte{byte(n)}) + all
		i := octets.From(b)
		wantText(t, "Text", i.Text(), all[:n])
		wantInt(t, "Left", i.Left(), 256-n)
	}
}

func TestP1302ExtentsOfEach(t *testing.T) {
	for _, l := range maps() {
		b, _ := extentBytes(l)
		i := octets.From(b)
		wantList(t, "Extents", i.Extents(), l)
		wantInt(t, "Left", i.Left(), 0)
		wantErr(t, "Done", i.Done(), api.OK)
		i = octets.From(b + "xyz")
		wantList(t, "Extents ahead of others", i.Extents(), l)
		wantInt(t, "Left", i.Left(), 3)
		wantErr(t, "Done", i.Done(), api.ErrForm)
		for few := range b {
			i = octets.From(b[:few])
			wantList(t, "Extents of too few bytes", i.Extents(), nil)
			wantSpent(t, "behind it", i)
		}
	}
}

func TestP1302ExtentsRefused(t *testing.T) {
	for _, b := range []string{
		"\x01\x00\x00\x00", "\x01\x00\x41\x00", "\x01\x40\x01\x00", "\x01\x3f\x02\x00", "\x01\x00\x01\x3d", "\x01\x00\x02\x3c", "\x01\x00\x3d\x01", "\x01\xff\xff\xff", "\x01\x00\x01\xff",
		"\x02\x00\x01\x00\x01\x01\x00", "\x02\x00\x01\x01\x01\x01\x02", "\x02\x00\x02\x01\x01\x01\x09", "\x02\x05\x01\x01\x03\x01\x07", "\x02\x00\x01\x01\x00\x01\x01", "\x02\x00\x01\x01\x02\x01\x3d",
		"\x41" + strings.Repeat("\x00\x01\x00", 65), "\xff" + strings.Repeat("\x00\x01\x00", 255),
	} {
		for _, more := range []string{"", "\x01\x01\x01\x01\x01\x01"} {
			i := octets.From(b + more)
			wantList(t, "Extents that are not valid", i.Extents(), nil)
			wantSpent(t, "behind it", i)
		}
	}
}

// TestP1302ExtentsOfOne: many bytes as one extent, and as two, are told just where they are valid.
func TestP1302ExtentsOfOne(t *testing.T) {
	edges := []int{0, 1, 2, 3, 30, 59, 60, 61, 62, 63, 64, 65, 66, 127, 128, 192, 255}
	for _, from := range edges {
		for _, n := range edges {
			for _, id := range edges {
				for _, l := range [][]api.Extent{{ex(from, n, id)}, {ex(0, 2, 0), ex(from, n, id)}, {ex(0, 2, 58), ex(from, n, id)}} {
					b := []byte{byte(len(l))}
					for _, x := range l {
						b = append(b, byte(x.From), byte(x.N), byte(x.Id))
					}
					i := octets.From(string(b))
					if extent.Valid(l, api.MaxBlocks) {
						wantList(t, "Extents", i.Extents(), l)
						wantErr(t, "Done", i.Done(), api.OK)
						continue
					}
					wantList(t, "Extents", i.Extents(), nil)
					wantErr(t, "Done", i.Done(), api.ErrForm)
				}
			}
		}
	}
}

// TestP1302ExtentsAreNew: a reader who changes a list changes no other one, told or yet to be.
func TestP1302ExtentsAreNew(t *testing.T) {
	l := []api.Extent{ex(1, 2, 3), ex(9, 1, 60)}
	one, _ := extentBytes(l)
	i, j := octets.From(one+one), octets.From(one+one)
	first := i.Extents()
	clear(first)
	first = append(first[:1], ex(5, 5, 5), ex(6, 6, 6))
	wantList(t, "the other one's", j.Extents(), l)
	second := i.Extents()
	wantList(t, "the second", second, l)
	clear(second)
	wantList(t, "the first, changed", first, []api.Extent{{}, ex(5, 5, 5), ex(6, 6, 6)})
	wantList(t, "the other one's second", j.Extents(), l)
	wantErr(t, "Done", i.Done(), api.OK)
	wantErr(t, "Done", j.Done(), api.OK)
}

func TestP1302Left(t *testing.T) {
	i := octets.From("\x07\x02ab\x01\x01\x02\x03\x01\x02\x03\x04zz")
	wantInt(t, "ahead of all", i.Left(), 14)
	wantInt(t, "asked twice", i.Left(), 14)
	i.Num(1)
	wantInt(t, "behind Num(1)", i.Left(), 13)
	i.Text()
	wantInt(t, "behind Text", i.Left(), 10)
	i.Extents()
	wantInt(t, "behind Extents", i.Left(), 6)
	i.Num(4)
	wantInt(t, "behind Num(4)", i.Left(), 2)
	i.Num(2)
	wantInt(t, "at the end", i.Left(), 0)
	wantErr(t, "Done at the end", i.Done(), api.OK)
	i.Num(1)
	wantInt(t, "behind one that could not be read", i.Left(), 0)
	wantErr(t, "Done behind it", i.Done(), api.ErrForm)
	long := octets.From(mixture(1 << 20))
	wantInt(t, "of many", long.Left(), 1<<20)
	long.Num(3)
	wantInt(t, "of many, behind Num(3)", long.Left(), 1<<20-3)
	long.Num(5)
	wantInt(t, "of many, behind Num(5)", long.Left(), 0)
}

// TestP1302Done: it takes nothing away, and what is left may be read behind it.
func TestP1302Done(t *testing.T) {
	i := octets.From("ab")
	wantErr(t, "ahead of all", i.Done(), api.ErrForm)
	wantInt(t, "Num", i.Num(1), 'a')
	wantErr(t, "with one left", i.Done(), api.ErrForm)
	wantErr(t, "asked twice", i.Done(), api.ErrForm)
	wantInt(t, "Left", i.Left(), 1)
	wantInt(t, "Num", i.Num(1), 'b')
	wantErr(t, "with nothing left", i.Done(), api.OK)
	wantErr(t, "asked twice", i.Done(), api.OK)
	for _, read := range []func(i *octets.In){
		func(i *octets.In) { i.Num(4) }, func(i *octets.In) { i.Num(0) }, func(i *octets.In) { i.Text() }, func(i *octets.In) { i.Extents() },
	} {
		i := octets.From("\x09ab")
		read(i)
		wantErr(t, "behind one that could not be read", i.Done(), api.ErrForm)
		wantErr(t, "asked twice", i.Done(), api.ErrForm)
		wantSpent(t, "behind it", i)
	}
}

// reader is an In by the words of the chapter: bytes, where it is in them, and whether something could not be read.
type reader struct {
	b      []byte
	at     int
	failed bool
}

func (r *reader) left() int {
	if r.failed {
		return 0
	}
	return len(r.b) - r.at
}

func (r *reader) num(count int) int {
	if r.failed = r.failed || count < 1 || count > 4 || r.left() < count; r.failed {
		return 0
	}
	v, place := 0, 1
	for range count {
		v += int(r.b[r.at]) * place
		place *= 256
		r.at++
	}
	return v
}

func (r *reader) text() string {
	n := r.num(1)
	if r.failed = r.failed || r.left() < n; r.failed {
		return ""
	}
	r.at += n
	return string(r.b[r.at-n : r.at])
}

func (r *reader) extents() []api.Extent {
	n := r.num(1)
	if r.failed = r.failed || r.left() < 3*n; r.failed {
		return nil
	}
	var l []api.Extent
	for range n {
		l = append(l, ex(r.num(1), r.num(1), r.num(1)))
	}
	if r.failed = !extent.Valid(l, api.MaxBlocks); r.failed {
		return nil
	}
	return l
}

func (r *reader) done() api.Errno {
	if r.failed || r.left() > 0 {
		return api.ErrForm
	}
	return api.OK
}

// step makes one call of both, and tells whether they answer alike. The steps 0 to 5 are Num of as many bytes.
func step(n int, i *octets.In, r *reader) bool {
	switch n {
	case 6:
		return i.Text() == r.text()
	case 7:
		return slices.Equal(i.Extents(), r.extents())
	case 8:
		return i.Done() == r.done()
	}
	return i.Num(n) == r.num(n)
}

// TestP1302AnyOrder: four calls in each order, of many bytes that end at each place.
func TestP1302AnyOrder(t *testing.T) {
	var all []string
	for _, b := range []string{"\x02\x01\x01a\x02\x01\x02\x03\x09\x01\x3c\x00", "\x01\x00\x01\x00\x01\x01\x01\x01\x02\x02\x00", "\x00\x00\x00\x00\x00", "\x03\xff\x80\x04", "\x02\x00\x01\x00\x01\x01\x00\x01"} {
		for n := range len(b) + 1 {
			all = append(all, b[:n])
		}
	}
	for _, b := range all {
		for order := range 9 * 9 * 9 * 9 {
			i, r := octets.From(b), &reader{b: []byte(b)}
			for k, rest := 0, order; k < 4; k, rest = k+1, rest/9 {
				if !step(rest%9, i, r) {
					t.Fatalf("bytes %q, order %d: the call %d does not tell what is wanted", b, order, k)
				}
				if got, want := i.Left(), r.left(); got != want {
					t.Fatalf("bytes %q, order %d: Left behind the call %d: %d, not %d", b, order, k, got, want)
				}
			}
			wantErr(t, "Done", i.Done(), r.done())
		}
	}
}

// TestP1302NilIn: a zero In is as a nil one, as the chapter has just a zero Out ready.
func TestP1302NilIn(t *testing.T) {
	for _, i := range []*octets.In{nil, {}} {
		for range 2 {
			wantErr(t, "Done", i.Done(), api.ErrArg)
			wantInt(t, "Left", i.Left(), 0)
			for _, count := range counts() {
				wantInt(t, "Num", i.Num(count), 0)
			}
			wantText(t, "Text", i.Text(), "")
			wantList(t, "Extents", i.Extents(), nil)
		}
	}
}

// TestP1302ReadAsWritten: many of each kind, one behind the other, come back in their order.
func TestP1302ReadAsWritten(t *testing.T) {
	var o octets.Out
	for _, v := range numbers() {
		for count := 1; count <= 4; count++ {
			if _, ok := numBytes(v, count); ok {
				wantErr(t, "Num", o.Num(v, count), api.OK)
			}
		}
		for k, s := range texts() {
			wantErr(t, "Text", o.Text(s), api.OK)
			wantErr(t, "Extents", o.Extents(maps()[k%len(maps())]), api.OK)
		}
	}
	b, err := o.Done()
	wantErr(t, "Done of what was written", err, api.OK)
	i := octets.From(b)
	for _, v := range numbers() {
		for count := 1; count <= 4; count++ {
			if _, ok := numBytes(v, count); ok {
				wantInt(t, "Num", i.Num(count), v)
			}
		}
		for k, s := range texts() {
			wantText(t, "Text", i.Text(), s)
			wantList(t, "Extents", i.Extents(), maps()[k%len(maps())])
		}
	}
	wantInt(t, "Left", i.Left(), 0)
	wantErr(t, "Done", i.Done(), api.OK)
}
