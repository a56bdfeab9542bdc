package print_test

import (
	"math"
	"strings"
	"testing"

	"emulsion/print"
)

// words has numbers of each kind: none, one and all bits, the ends, and some without a pattern.
func words() []uint32 {
	l := []uint32{0, 3, 0x7FFFFFFF, 0x80000001, math.MaxUint32, 0x55555555, 0xAAAAAAAA, 0xDEADBEEF, 0x811C9DC5, 0x9E3779B1, 0xF8000000, 0x07FFFFFF}
	for i := range 32 {
		l = append(l, 1<<i)
	}
	return l
}

// turnOne moves each bit a place up, and the highest to the lowest place.
func turnOne(x uint32) uint32 {
	if x >= 0x80000000 {
		return (x-0x80000000)*2 + 1
	}
	return x * 2
}

// turned does so n times.
func turned(x uint32, n int) uint32 {
	for range n {
		x = turnOne(x)
	}
	return x
}

// mixed is Mix by the words of the chapter: bit by bit, and a product of 64 bits that is cut.
func mixed(a, b uint32) uint32 {
	a = turned(a, 5)
	var one uint64
	for i := range 32 {
		if (a>>i)%2 != (b>>i)%2 {
			one += 1 << i
		}
	}
	return uint32(one * 0x9E3779B1 % (1 << 32))
}

// fingerprint is Of by the words of the chapter.
func fingerprint(b []byte) uint32 {
	x := uint32(0x811C9DC5)
	for _, c := range b {
		x = mixed(x, uint32(c))
	}
	return mixed(x, uint32(len(b)))
}

func wantTurn(t *testing.T, x uint32, n int, want uint32) {
	t.Helper()
	if got := print.Turn(x, n); got != want {
		t.Errorf("Turn(%#x, %d): %#x, not %#x", x, n, got, want)
	}
}

func wantMix(t *testing.T, a, b, want uint32) {
	t.Helper()
	if got := print.Mix(a, b); got != want {
		t.Errorf("Mix(%#x, %#x): %#x, not %#x", a, b, got, want)
	}
}

func wantOf(t *testing.T, b string, want uint32) {
	t.Helper()
	if got := print.Of(b); got != want {
		t.Errorf("Of(%q): %#x, not %#x", b, got, want)
	}
}

func wantBucket(t *testing.T, x uint32, n, want int) {
	t.Helper()
	if got := print.Bucket(x, n); got != want {
		t.Errorf("Bucket(%#x, %d): %d, not %d", x, n, got, want)
	}
}

func TestP701TurnExamples(t *testing.T) {
	for _, c := range []struct {
		x    uint32
		n    int
		want uint32
	}{
		{1, 33, 2}, {1, 0, 1}, {1, 1, 2}, {1, 31, 1 << 31}, {1, 32, 1},
		{1 << 31, 1, 1}, {1 << 31, 31, 1 << 30}, {0x80000001, 1, 3}, {0x80000001, 4, 0x18},
		{0xDEADBEEF, 0, 0xDEADBEEF}, {0xDEADBEEF, 8, 0xADBEEFDE}, {0xDEADBEEF, 16, 0xBEEFDEAD}, {0xDEADBEEF, 32, 0xDEADBEEF}, {0xDEADBEEF, 40, 0xADBEEFDE},
		{1, -1, 1 << 31}, {1, -31, 2}, {1, -32, 1}, {1, -33, 1 << 31}, {0xDEADBEEF, -8, 0xEFDEADBE},
		{5, math.MinInt, 5}, {5, math.MinInt + 1, 10}, {5, math.MaxInt, 0x80000002}, {5, math.MaxInt - 1, 0x40000001},
		{0, 7, 0}, {math.MaxUint32, 7, math.MaxUint32},
	} {
		wantTurn(t, c.x, c.n, c.want)
	}
}

// TestP701TurnByEachNumber: just the lowest five bits of n count, whatever stands above them.
func TestP701TurnByEachNumber(t *testing.T) {
	const size = 32
	for _, x := range words() {
		for n := range size {
			want := turned(x, n)
			for _, above := range []int{0, size, -size, 7 * size, -7 * size, 1 << 31, -1 << 31, math.MinInt, math.MaxInt - (size - 1)} {
				wantTurn(t, x, above+n, want)
			}
		}
		if t.Failed() {
			return
		}
	}
}

func TestP701MixExamples(t *testing.T) {
	const spread = 0x9E3779B1
	for _, c := range []struct{ a, b, want uint32 }{
		{0, 0, 0}, {0, 1, spread},
		// From here on the product passes 32 bits.
		{0, 2, 0x3C6EF362}, {0, math.MaxUint32, 0x61C8864F}, {1, 0, 0xC6EF3620},
		{0xF8000000, 0, 0x28B7BC6F}, {0x811C9DC5, 97, 0x1E649181},
		// What both have, one of them turned, goes.
		{1, 32, 0}, {0xF8000000, 0x1F, 0}, {math.MaxUint32, math.MaxUint32, 0}, {0x08000000, 1, 0}, {0x08000000, 3, 0x3C6EF362},
	} {
		wantMix(t, c.a, c.b, c.want)
	}
}

func TestP701MixOfManyPairs(t *testing.T) {
	for _, a := range words() {
		for _, b := range words() {
			wantMix(t, a, b, mixed(a, b))
		}
	}
	// It is the first that is turned.
	if print.Mix(1, 2) == print.Mix(2, 1) {
		t.Error("Mix(1, 2) is Mix(2, 1)")
	}
}

func TestP701OfExamples(t *testing.T) {
	for _, c := range []struct {
		b    string
		want uint32
	}{
		{"", 0xB93DE1B0}, {"\x00", 0xA16BCB36}, {"a", 0xDD215982}, {"b", 0x36506776},
		{"\x7f", 0x934816ED}, {"\x80", 0xBBC7D472}, {"\xff", 0xADA42029}, {"\xff\xfe", 0x15E4D6BD},
		// Two bytes, though one rune.
		{"\xc3\xa9", 0xA114F407},
		{"ab", 0xA4318782}, {"ba", 0x4518701F},
		{"abcdefgh", 0x1027C398}, {"abcdefg", 0x22417E87}, {"abcdefg\x00", 0x3AA58AC1},
		{"a\x00", 0xCF15565D}, {"a\x00\x00", 0x27D77542}, {strings.Repeat("\x00", 8), 0x7647F9D1},
		{strings.Repeat("long", 90), 0x54D5EEC6},
	} {
		wantOf(t, c.b, c.want)
	}
}

// TestP701OfEachByte takes each byte alone, at the end and at the beginning of others.
func TestP701OfEachByte(t *testing.T) {
	for c := range 256 {
		one := []byte{byte(c)}
		for _, b := range [][]byte{one, {'x', byte(c)}, {byte(c), 'x'}, {byte(c), byte(c), byte(c)}} {
			wantOf(t, string(b), fingerprint(b))
		}
	}
}

// TestP701OfEachLength: bytes of many lengths, among them those whose number does not fit into a byte, nor into two.
func TestP701OfEachLength(t *testing.T) {
	all := make([]byte, 1<<17)
	for i := range all {
		all[i] = byte(i*i>>3 ^ i)
	}
	for n := range 600 {
		wantOf(t, string(all[:n]), fingerprint(all[:n]))
	}
	for _, n := range []int{1<<16 - 1, 1 << 16, 1<<16 + 1, 1 << 17} {
		if got, want := print.Of(string(all[:n])), fingerprint(all[:n]); got != want {
			t.Errorf("Of %d bytes: %#x, not %#x", n, got, want)
		}
	}
}

// TestP701OfZerosBehind: the bytes with zeros behind them are others.
func TestP701OfZerosBehind(t *testing.T) {
	for _, head := range []string{"", "a", "\xff", "abcdefgh"} {
		lengths := map[uint32]int{}
		for n := range 40 {
			b := head + strings.Repeat("\x00", n)
			x := print.Of(b)
			if other, ok := lengths[x]; ok {
				t.Errorf("Of(%q) is as with %d zeros", b, other)
			}
			lengths[x] = n
			wantOf(t, b, fingerprint([]byte(b)))
		}
	}
}

func TestP701BucketExamples(t *testing.T) {
	for _, c := range []struct {
		x       uint32
		n, want int
	}{
		{17, 5, 2}, {15, 5, 0}, {4, 5, 4}, {0, 5, 0}, {17, 17, 0}, {17, 18, 17},
		{17, 1, 0}, {math.MaxUint32, 1, 0}, {0, 1, 0},
		{17, 0, 0}, {17, -1, 0}, {17, -4, 0}, {17, -18, 0}, {math.MaxUint32, math.MinInt, 0}, {0, 0, 0},
		{math.MaxUint32, 2, 1}, {math.MaxUint32, 10, 5}, {math.MaxUint32, 100, 95},
		{1 << 31, 3, 2}, {1 << 31, 10, 8}, {1 << 31, math.MaxInt32, 1}, {math.MaxUint32, math.MaxInt32, 1},
		{17, math.MaxInt, 17},
	} {
		wantBucket(t, c.x, c.n, c.want)
	}
}

// TestP701BucketPastTheGreatest: with n of as much as the greatest fingerprint, of one more, and of far more.
func TestP701BucketPastTheGreatest(t *testing.T) {
	const top = math.MaxUint32
	wantBucket(t, top, top-1, 1)
	wantBucket(t, top, top, 0)
	wantBucket(t, top-1, top, top-1)
	for _, n := range []int{top + 1, top + 2, 1 << 33, 1 << 40, 1<<40 + 1, 1 << 62, math.MaxInt} {
		for _, x := range words() {
			wantBucket(t, x, n, int(x))
		}
	}
}

// TestP701BucketOfEachNumber takes n away from x as often as it can be, as the rest is made.
func TestP701BucketOfEachNumber(t *testing.T) {
	for n := 1; n <= 101; n++ {
		for x := range uint32(1000) {
			rest := int(x)
			for rest >= n {
				rest -= n
			}
			wantBucket(t, x, n, rest)
		}
		for _, x := range words() {
			if got := print.Bucket(x, n); got < 0 || got >= n || (int64(x)-int64(got))%int64(n) != 0 {
				t.Errorf("Bucket(%#x, %d): %d", x, n, got)
			}
		}
	}
}

// TestP702OthersHaveTheSame: bytes that are not alike, and yet are of one fingerprint and of one bucket: it is told as it is, first or behind the other.
func TestP702OthersHaveTheSame(t *testing.T) {
	for _, c := range []struct {
		a, b string
		want uint32
	}{
		{"wywlugwg", "zfcprrii", 0x946D36E3},
		{"yilvqtpg", "xmzutkss", 0x5C4C8860},
		{"pnbgwajq", "ltlyvblt", 0x62DAB1F5},
		{"lpidlzkl", "zxcrsqkq", 0xE5B7357E},
	} {
		for range 2 {
			wantOf(t, c.a, c.want)
			wantOf(t, c.b, c.want)
			for n := -1; n <= 101; n++ {
				if x, y := print.Bucket(print.Of(c.a), n), print.Bucket(print.Of(c.b), n); x != y {
					t.Errorf("Bucket(.., %d) of %q and %q: %d, %d", n, c.a, c.b, x, y)
				}
			}
			// What is put behind both is mixed to one again.
			wantMix(t, print.Of(c.a), 7, print.Mix(print.Of(c.b), 7))
		}
	}
}
