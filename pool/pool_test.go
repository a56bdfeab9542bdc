package pool_test

import (
	"math"
	"slices"
	"strconv"
	"strings"
	"testing"

	"emulsion/api"
	"emulsion/pool"
	"emulsion/print"
)

// zeros has the bytes that no pool keeps.
var zeros = strings.Repeat("\x00", api.BlockSize)

// alike has blocks that share the fingerprint of zeros, and so of one another.
var alike = []string{"alzhhgpa", "qhtieuta", "uyuaziua", "mjqtforb", "axmmsqwb"}

// model is a pool by the words of the chapter: blocks in no order, looked at one by one.
type model struct {
	most   int
	blocks []api.Shelved
}

// nearer tells the room that is made when so much is asked for.
func nearer(most int) int {
	if most < 0 {
		return 0
	}
	if most > api.MaxPool {
		return api.MaxPool
	}
	return most
}

func (m *model) index(id int) int {
	return slices.IndexFunc(m.blocks, func(s api.Shelved) bool { return s.Id == id })
}

func (m *model) find(b string) int {
	for _, s := range m.blocks {
		if s.Bytes == b {
			return s.Id
		}
	}
	return 0
}

func (m *model) put(b string) (int, api.Errno) {
	if len(b) != api.BlockSize {
		return 0, api.ErrArg
	}
	if b == zeros {
		return 0, api.OK
	}
	if id := m.find(b); id != 0 {
		m.blocks[m.index(id)].Refs++
		return id, api.OK
	}
	if len(m.blocks) >= m.most {
		return 0, api.ErrFull
	}
	id := 1
	for m.index(id) >= 0 {
		id++
	}
	m.blocks = append(m.blocks, api.Shelved{Id: id, Refs: 1, Bytes: b})
	return id, api.OK
}

func (m *model) turn(id, by int) api.Errno {
	if id == 0 {
		return api.OK
	}
	at := m.index(id)
	if at < 0 {
		return api.ErrNone
	}
	m.blocks[at].Refs += by
	if m.blocks[at].Refs == 0 {
		m.blocks = slices.Delete(m.blocks, at, at+1)
	}
	return api.OK
}

func (m *model) get(id int) (string, api.Errno) {
	if id == 0 {
		return zeros, api.OK
	}
	if at := m.index(id); at >= 0 {
		return m.blocks[at].Bytes, api.OK
	}
	return "", api.ErrNone
}

func (m *model) all() []api.Shelved {
	return slices.SortedFunc(slices.Values(m.blocks), func(a, b api.Shelved) int { return a.Id - b.Id })
}

func wantPut(t *testing.T, p *pool.Pool, b string, id int, err api.Errno) {
	t.Helper()
	if got, e := p.Put(b); got != id || e != err {
		t.Errorf("Put(%q): %d, %d, not %d, %d", b, got, e, id, err)
	}
}

func wantHold(t *testing.T, p *pool.Pool, id int, err api.Errno) {
	t.Helper()
	if e := p.Hold(id); e != err {
		t.Errorf("Hold(%d): %d, not %d", id, e, err)
	}
}

func wantDrop(t *testing.T, p *pool.Pool, id int, err api.Errno) {
	t.Helper()
	if e := p.Drop(id); e != err {
		t.Errorf("Drop(%d): %d, not %d", id, e, err)
	}
}

func wantGet(t *testing.T, p *pool.Pool, id int, b string, err api.Errno) {
	t.Helper()
	if got, e := p.Get(id); got != b || e != err {
		t.Errorf("Get(%d): %q, %d, not %q, %d", id, got, e, b, err)
	}
}

func wantRefs(t *testing.T, p *pool.Pool, id, want int) {
	t.Helper()
	if got := p.Refs(id); got != want {
		t.Errorf("Refs(%d): %d, not %d", id, got, want)
	}
}

func wantFind(t *testing.T, p *pool.Pool, b string, want int) {
	t.Helper()
	if got := p.Find(b); got != want {
		t.Errorf("Find(%q): %d, not %d", b, got, want)
	}
}

// wantAll holds all blocks, and each by itself, against those that are wanted.
func wantAll(t *testing.T, p *pool.Pool, want ...api.Shelved) {
	t.Helper()
	if got := p.All(); !slices.Equal(got, want) {
		t.Errorf("All(): %v, not %v", got, want)
	}
	if got := p.Len(); got != len(want) {
		t.Errorf("Len(): %d, not %d", got, len(want))
	}
	for _, s := range want {
		wantGet(t, p, s.Id, s.Bytes, api.OK)
		wantRefs(t, p, s.Id, s.Refs)
		wantFind(t, p, s.Bytes, s.Id)
	}
}

func wantRoom(t *testing.T, p *pool.Pool, want int) {
	t.Helper()
	if got := p.Room(); got != want {
		t.Errorf("Room(): %d, not %d", got, want)
	}
}

func sh(id, refs int, b string) api.Shelved {
	return api.Shelved{Id: id, Refs: refs, Bytes: b}
}

// block makes bytes that are others for each number, and never zeros.
func block(k int) string {
	b := strconv.Itoa(k)
	return strings.Repeat("-", api.BlockSize-len(b)) + b
}

// filled makes a pool of so much room that has the bytes in their order.
func filled(t *testing.T, most int, l ...string) *pool.Pool {
	t.Helper()
	p := pool.New(most)
	for k, b := range l {
		wantPut(t, p, b, k+1, api.OK)
	}
	return p
}

// made makes a pool of these by Of.
func made(t *testing.T, most int, l ...api.Shelved) *pool.Pool {
	t.Helper()
	p, err := pool.Of(most, l...)
	if err != api.OK || p == nil {
		t.Fatalf("Of(%d, %v): %v, %d", most, l, p, err)
	}
	wantAll(t, p, l...)
	wantRoom(t, p, nearer(most)-len(l))
	return p
}

func refused(t *testing.T, most int, l ...api.Shelved) {
	t.Helper()
	if p, err := pool.Of(most, l...); err != api.ErrArg || p != nil {
		t.Errorf("Of(%d, %v): %v, %d, not nil, %d", most, l, p, err, api.ErrArg)
	}
}

// asked has room of each kind: inside the limits, at both ends, and beyond them.
func asked() []int {
	return []int{math.MinInt, -60, -1, 0, 1, 2, 3, 7, 59, 60, 61, 100, math.MaxInt32, math.MaxInt}
}

// absent has ids that a pool of the blocks 1 to 3 has not.
func absent() []int {
	return []int{math.MinInt, -math.MaxUint32, -1 << 32, -61, -3, -2, -1, 4, 5, 60, 61, 257, 1 << 16, 1<<32 + 1, math.MaxInt}
}

func TestP901Example(t *testing.T) {
	p := pool.New(10)
	wantPut(t, p, "abcdefgh", 1, api.OK)
	wantPut(t, p, "abcdefgh", 1, api.OK)
	wantRefs(t, p, 1, 2)
	wantDrop(t, p, 1, api.OK)
	wantRefs(t, p, 1, 1)
	wantDrop(t, p, 1, api.OK)
	wantAll(t, p)
	wantDrop(t, p, 1, api.ErrNone)
}

func TestP901NewHasRoom(t *testing.T) {
	for _, most := range asked() {
		p := pool.New(most)
		wantAll(t, p)
		wantRoom(t, p, nearer(most))
		for k := range nearer(most) {
			wantPut(t, p, block(k), k+1, api.OK)
			wantRoom(t, p, nearer(most)-k-1)
		}
		wantPut(t, p, block(100), 0, api.ErrFull)
		wantRoom(t, p, 0)
		if got := p.Len(); got != nearer(most) {
			t.Errorf("New(%d): %d blocks, not %d", most, got, nearer(most))
		}
	}
}

func TestP901NewIsAnotherEachTime(t *testing.T) {
	p, q := pool.New(2), pool.New(2)
	wantPut(t, p, "abcdefgh", 1, api.OK)
	wantAll(t, q)
	wantPut(t, q, "ijklmnop", 1, api.OK)
	wantAll(t, p, sh(1, 1, "abcdefgh"))
	wantFind(t, p, "ijklmnop", 0)
}

// TestP901PutOfOtherLengths: ErrArg, whether or not there is room, and whatever the bytes are.
func TestP901PutOfOtherLengths(t *testing.T) {
	for _, p := range []*pool.Pool{pool.New(0), filled(t, 1, "aaaaaaaa"), filled(t, 3, "aaaaaaaa")} {
		all, room := p.All(), p.Room()
		for n := range 40 {
			if n != api.BlockSize {
				wantPut(t, p, strings.Repeat("a", n), 0, api.ErrArg)
				wantPut(t, p, strings.Repeat("\x00", n), 0, api.ErrArg)
			}
		}
		// Eight runes, but more bytes.
		wantPut(t, p, "\u00e4aaaaaaa", 0, api.ErrArg)
		wantPut(t, p, strings.Repeat("a", 1<<16+8), 0, api.ErrArg)
		wantAll(t, p, all...)
		wantRoom(t, p, room)
	}
}

// TestP901PutOfZeros: nothing is kept, also where there is no room.
func TestP901PutOfZeros(t *testing.T) {
	for _, p := range []*pool.Pool{pool.New(0), filled(t, 1, "aaaaaaaa"), filled(t, 3, "aaaaaaaa")} {
		all, room := p.All(), p.Room()
		wantPut(t, p, zeros, 0, api.OK)
		wantPut(t, p, zeros, 0, api.OK)
		wantAll(t, p, all...)
		wantRoom(t, p, room)
	}
}

// TestP901PutOfNearlyZeros: one bit of any byte makes it a block.
func TestP901PutOfNearlyZeros(t *testing.T) {
	p := pool.New(api.MaxPool)
	var want []api.Shelved
	for k := range api.BlockSize {
		for _, c := range []byte{1, 0x80, '0'} {
			b := []byte(zeros)
			b[k] = c
			want = append(want, sh(len(want)+1, 1, string(b)))
			wantPut(t, p, string(b), len(want), api.OK)
		}
	}
	wantAll(t, p, want...)
	wantFind(t, p, zeros, 0)
}

// TestP901PutOfAnyBytes: bytes that are no text, or look like one another as text, are others.
func TestP901PutOfAnyBytes(t *testing.T) {
	l := []string{"\xff\xff\xff\xff\xff\xff\xff\xff", "\xfe\xff\xff\xff\xff\xff\xff\xff", "\x80aaaaaaa", "\x81aaaaaaa", "AAAAAAAA", "aaaaaaaa", "aaaaaaa ", " aaaaaaa", "\xef\xbf\xbdaaaaa"}
	p := filled(t, 20, l...)
	for k, b := range l {
		wantGet(t, p, k+1, b, api.OK)
		wantFind(t, p, b, k+1)
	}
}

func TestP901PutTwice(t *testing.T) {
	p := filled(t, 3, "aaaaaaaa", "bbbbbbbb", "cccccccc")
	wantPut(t, p, "bbbbbbbb", 2, api.OK)
	wantPut(t, p, "bbbbbbbb", 2, api.OK)
	wantPut(t, p, "cccccccc", 3, api.OK)
	wantAll(t, p, sh(1, 1, "aaaaaaaa"), sh(2, 3, "bbbbbbbb"), sh(3, 2, "cccccccc"))
	wantRoom(t, p, 0)
}

// TestP901PutOfCutBytes: the bytes count, not the text of which they are a part.
func TestP901PutOfCutBytes(t *testing.T) {
	p := pool.New(5)
	text := []byte("aaaaaaaaaaaaaaaabbbbbbbb")
	wantPut(t, p, string(text[:8]), 1, api.OK)
	wantPut(t, p, string(text[8:16]), 1, api.OK)
	wantPut(t, p, string(text[16:]), 2, api.OK)
	copy(text, "cccccccccccccccccccccccc")
	wantAll(t, p, sh(1, 2, "aaaaaaaa"), sh(2, 1, "bbbbbbbb"))
}

func TestP901PutWhenFull(t *testing.T) {
	p := filled(t, 2, "aaaaaaaa", "bbbbbbbb")
	for range 2 {
		wantPut(t, p, "cccccccc", 0, api.ErrFull)
		wantFind(t, p, "cccccccc", 0)
	}
	wantPut(t, p, "bbbbbbbb", 2, api.OK)
	wantAll(t, p, sh(1, 1, "aaaaaaaa"), sh(2, 2, "bbbbbbbb"))
	// What is held yet makes no room.
	wantDrop(t, p, 2, api.OK)
	wantPut(t, p, "cccccccc", 0, api.ErrFull)
	wantDrop(t, p, 2, api.OK)
	wantPut(t, p, "cccccccc", 2, api.OK)
	wantPut(t, p, "bbbbbbbb", 0, api.ErrFull)
	wantAll(t, p, sh(1, 1, "aaaaaaaa"), sh(2, 1, "cccccccc"))
}

// TestP901PutTakesTheLeastId goes through all sets of blocks that go, and fills up behind each.
func TestP901PutTakesTheLeastId(t *testing.T) {
	const n = 6
	for gone := range 1 << n {
		p := pool.New(n + 1)
		m := &model{most: n + 1}
		for k := range n {
			wantPut(t, p, block(k), k+1, api.OK)
			m.put(block(k))
		}
		for k := n - 1; k >= 0; k-- {
			if gone>>k&1 == 1 {
				wantDrop(t, p, k+1, api.OK)
				m.turn(k+1, -1)
			}
		}
		wantAll(t, p, m.all()...)
		for k := range n + 2 {
			id, err := m.put(block(100 + k))
			wantPut(t, p, block(100+k), id, err)
			wantAll(t, p, m.all()...)
		}
		wantRoom(t, p, 0)
	}
}

// TestP901PutOfSharedFingerprints: bytes decide, where fingerprints are the same, those of zeros among them.
func TestP901PutOfSharedFingerprints(t *testing.T) {
	for _, b := range alike {
		if print.Of(b) != print.Of(zeros) {
			t.Fatalf("Of(%q) is not that of zeros", b)
		}
	}
	p := pool.New(4)
	for k, b := range alike[:4] {
		for _, other := range alike[k:] {
			wantFind(t, p, other, 0)
		}
		wantPut(t, p, b, k+1, api.OK)
		wantPut(t, p, zeros, 0, api.OK)
		wantFind(t, p, zeros, 0)
	}
	wantPut(t, p, alike[4], 0, api.ErrFull)
	wantFind(t, p, alike[4], 0)
	wantPut(t, p, alike[2], 3, api.OK)
	wantAll(t, p, sh(1, 1, alike[0]), sh(2, 1, alike[1]), sh(3, 2, alike[2]), sh(4, 1, alike[3]))
	wantDrop(t, p, 2, api.OK)
	wantFind(t, p, alike[1], 0)
	wantAll(t, p, sh(1, 1, alike[0]), sh(3, 2, alike[2]), sh(4, 1, alike[3]))
	wantPut(t, p, alike[4], 2, api.OK)
	wantDrop(t, p, 1, api.OK)
	wantPut(t, p, alike[1], 1, api.OK)
	wantAll(t, p, sh(1, 1, alike[1]), sh(2, 1, alike[4]), sh(3, 2, alike[2]), sh(4, 1, alike[3]))
}

func TestP901Hold(t *testing.T) {
	p := filled(t, 5, "aaaaaaaa", "bbbbbbbb", "cccccccc")
	wantHold(t, p, 2, api.OK)
	wantHold(t, p, 2, api.OK)
	wantHold(t, p, 3, api.OK)
	wantHold(t, p, 0, api.OK)
	for _, id := range absent() {
		wantHold(t, p, id, api.ErrNone)
	}
	wantAll(t, p, sh(1, 1, "aaaaaaaa"), sh(2, 3, "bbbbbbbb"), sh(3, 2, "cccccccc"))
	wantRoom(t, p, 2)
	wantDrop(t, p, 1, api.OK)
	wantHold(t, p, 1, api.ErrNone)
	wantAll(t, p, sh(2, 3, "bbbbbbbb"), sh(3, 2, "cccccccc"))
}

func TestP901Drop(t *testing.T) {
	p := filled(t, 5, "aaaaaaaa", "bbbbbbbb", "cccccccc")
	wantHold(t, p, 2, api.OK)
	wantDrop(t, p, 0, api.OK)
	for _, id := range absent() {
		wantDrop(t, p, id, api.ErrNone)
	}
	wantAll(t, p, sh(1, 1, "aaaaaaaa"), sh(2, 2, "bbbbbbbb"), sh(3, 1, "cccccccc"))
	wantDrop(t, p, 2, api.OK)
	wantAll(t, p, sh(1, 1, "aaaaaaaa"), sh(2, 1, "bbbbbbbb"), sh(3, 1, "cccccccc"))
	wantRoom(t, p, 2)
	wantDrop(t, p, 2, api.OK)
	wantAll(t, p, sh(1, 1, "aaaaaaaa"), sh(3, 1, "cccccccc"))
	wantRoom(t, p, 3)
	wantDrop(t, p, 2, api.ErrNone)
	wantFind(t, p, "bbbbbbbb", 0)
	wantGet(t, p, 2, "", api.ErrNone)
	wantRefs(t, p, 2, 0)
	// The same bytes are a block anew, held once.
	wantPut(t, p, "bbbbbbbb", 2, api.OK)
	wantAll(t, p, sh(1, 1, "aaaaaaaa"), sh(2, 1, "bbbbbbbb"), sh(3, 1, "cccccccc"))
}

// TestP901HoldAsOftenAsAsked: the limit of Of is not one of Hold or of Put.
func TestP901HoldAsOftenAsAsked(t *testing.T) {
	p := made(t, 1, sh(1, 100000, "aaaaaaaa"))
	wantHold(t, p, 1, api.OK)
	wantPut(t, p, "aaaaaaaa", 1, api.OK)
	wantAll(t, p, sh(1, 100002, "aaaaaaaa"))
	wantAll(t, p.Copy(), sh(1, 100002, "aaaaaaaa"))
	for range 100001 {
		p.Drop(1)
	}
	wantAll(t, p, sh(1, 1, "aaaaaaaa"))
	wantDrop(t, p, 1, api.OK)
	wantAll(t, p)
}

func TestP902GetRefsFindOfNone(t *testing.T) {
	p := filled(t, 5, "aaaaaaaa", "bbbbbbbb", "abcdefgh")
	wantGet(t, p, 0, zeros, api.OK)
	wantRefs(t, p, 0, 0)
	for _, id := range absent() {
		wantGet(t, p, id, "", api.ErrNone)
		wantRefs(t, p, id, 0)
	}
	for _, b := range []string{zeros, "", "\x00", "a", "aaaaaaa", "aaaaaaaaa", "aaaaaaaabbbbbbbb", "cccccccc", "AAAAAAAA"} {
		wantFind(t, p, b, 0)
	}
	wantAll(t, p, sh(1, 1, "aaaaaaaa"), sh(2, 1, "bbbbbbbb"), sh(3, 1, "abcdefgh"))
}

// TestP902FindOfSharedFingerprints: neither other bytes, nor more bytes, are found by the fingerprint of a block.
func TestP902FindOfSharedFingerprints(t *testing.T) {
	const eight, nine = "dzciueba", "jvfknflba"
	p := filled(t, 5, "aaaaaaaa", "abcdefgh")
	for _, b := range []string{eight, nine} {
		if print.Of(b) != print.Of("abcdefgh") {
			t.Fatalf("Of(%q) is not that of abcdefgh", b)
		}
		wantFind(t, p, b, 0)
	}
	wantPut(t, p, nine, 0, api.ErrArg)
	wantPut(t, p, eight, 3, api.OK)
	wantAll(t, p, sh(1, 1, "aaaaaaaa"), sh(2, 1, "abcdefgh"), sh(3, 1, eight))
}

// TestP902AllIsNew: what is done to a list is not seen in the pool, nor the other way round.
func TestP902AllIsNew(t *testing.T) {
	p := filled(t, 5, "aaaaaaaa", "bbbbbbbb", "cccccccc")
	all := p.All()
	all[0] = sh(9, 9, "xxxxxxxx")
	_ = append(all[:1], sh(8, 8, "yyyyyyyy"), sh(7, 7, "zzzzzzzz"))
	wantAll(t, p, sh(1, 1, "aaaaaaaa"), sh(2, 1, "bbbbbbbb"), sh(3, 1, "cccccccc"))
	all = p.All()
	_ = append(all, sh(4, 4, "dddddddd"))
	wantPut(t, p, "eeeeeeee", 4, api.OK)
	wantHold(t, p, 3, api.OK)
	wantDrop(t, p, 1, api.OK)
	if want := []api.Shelved{sh(1, 1, "aaaaaaaa"), sh(2, 1, "bbbbbbbb"), sh(3, 1, "cccccccc")}; !slices.Equal(all, want) {
		t.Errorf("a list of before: %v, not %v", all, want)
	}
	wantAll(t, p, sh(2, 1, "bbbbbbbb"), sh(3, 2, "cccccccc"), sh(4, 1, "eeeeeeee"))
}

func TestP902Copy(t *testing.T) {
	p := filled(t, 4, "aaaaaaaa", "bbbbbbbb", "cccccccc")
	wantHold(t, p, 2, api.OK)
	c := p.Copy()
	wantAll(t, c, sh(1, 1, "aaaaaaaa"), sh(2, 2, "bbbbbbbb"), sh(3, 1, "cccccccc"))
	wantRoom(t, c, 1)
	wantDrop(t, c, 1, api.OK)
	wantHold(t, c, 3, api.OK)
	wantPut(t, c, "dddddddd", 1, api.OK)
	wantPut(t, p, "eeeeeeee", 4, api.OK)
	wantPut(t, p, "ffffffff", 0, api.ErrFull)
	wantDrop(t, p, 3, api.OK)
	wantDrop(t, p, 2, api.OK)
	wantAll(t, p, sh(1, 1, "aaaaaaaa"), sh(2, 1, "bbbbbbbb"), sh(4, 1, "eeeeeeee"))
	wantAll(t, c, sh(1, 1, "dddddddd"), sh(2, 2, "bbbbbbbb"), sh(3, 2, "cccccccc"))
	for _, b := range []string{"aaaaaaaa", "eeeeeeee"} {
		wantFind(t, c, b, 0)
	}
	for _, b := range []string{"dddddddd", "cccccccc"} {
		wantFind(t, p, b, 0)
	}
	wantRoom(t, p, 1)
	wantRoom(t, c, 1)
}

// TestP902CopyOfEach: also of one that is empty, that has no room, whose ids have gaps, and whose blocks share a fingerprint.
func TestP902CopyOfEach(t *testing.T) {
	for _, p := range []*pool.Pool{
		pool.New(0), pool.New(7), pool.New(math.MaxInt), filled(t, 1, "aaaaaaaa"), filled(t, 6, alike...),
		made(t, 3, sh(4, 9, "eeeeeeee"), sh(60, 100000, "ffffffff")),
	} {
		c := p.Copy()
		wantAll(t, c, p.All()...)
		wantRoom(t, c, p.Room())
		for k := range min(p.Room(), api.MaxPool) {
			id, err := p.Put(block(k))
			wantPut(t, c, block(k), id, err)
		}
		wantPut(t, c, "full....", 0, api.ErrFull)
		wantAll(t, c, p.All()...)
	}
}

func TestP902OfRefuses(t *testing.T) {
	one := sh(4, 9, "eeeeeeee")
	for _, s := range []api.Shelved{
		sh(0, 1, "ffffffff"), sh(-1, 1, "ffffffff"), sh(61, 1, "ffffffff"), sh(math.MaxInt, 1, "ffffffff"), sh(math.MinInt, 1, "ffffffff"),
		sh(5, 0, "ffffffff"), sh(5, -1, "ffffffff"), sh(5, 100001, "ffffffff"), sh(5, math.MinInt, "ffffffff"), sh(5, math.MaxInt, "ffffffff"), sh(5, 1<<32+1, "ffffffff"),
		sh(5, 1, ""), sh(5, 1, "fffffff"), sh(5, 1, "fffffffff"), sh(5, 1, "ffffffffffffffff"),
		sh(5, 1, zeros), sh(5, 1, zeros[1:]), sh(5, 1, zeros+"\x00"), {},
	} {
		for _, most := range []int{2, 3, 60, math.MaxInt} {
			refused(t, most, s)
			refused(t, most, one, s)
			refused(t, most, s, one)
		}
	}
	// One that stands alone may be as these, but not behind one.
	for _, s := range []api.Shelved{one, sh(4, 1, "ffffffff"), sh(3, 1, "ffffffff"), sh(1, 1, "ffffffff"), sh(5, 9, "eeeeeeee"), sh(60, 1, "eeeeeeee")} {
		made(t, 2, s)
		refused(t, 2, one, s)
	}
	refused(t, 60, sh(1, 1, "eeeeeeee"), sh(2, 1, "ffffffff"), sh(3, 1, "eeeeeeee"))
	refused(t, 60, sh(1, 1, "eeeeeeee"), sh(3, 1, "ffffffff"), sh(2, 1, "gggggggg"))
	refused(t, 60, sh(1, 1, "eeeeeeee"), sh(2, 1, "ffffffff"), sh(2, 1, "gggggggg"))
}

func TestP902OfMoreThanMost(t *testing.T) {
	var l []api.Shelved
	for k := range api.MaxPool {
		l = append(l, sh(k+1, k+1, block(k)))
	}
	for _, most := range asked() {
		for n := range api.MaxPool + 1 {
			if n <= nearer(most) {
				made(t, most, l[:n]...)
			} else {
				refused(t, most, l[:n]...)
			}
		}
		refused(t, most, append(slices.Clone(l), sh(61, 1, "aaaaaaaa"))...)
	}
}

// TestP902OfAtItsLimits: ids go up to MaxPool, however little room there is.
func TestP902OfAtItsLimits(t *testing.T) {
	made(t, 1, sh(60, 100000, "ffffffff"))
	made(t, 1, sh(1, 1, "\x00\x00\x00\x00\x00\x00\x00\x01"))
	made(t, 2, sh(59, 100000, "\x01\x00\x00\x00\x00\x00\x00\x00"), sh(60, 99999, "\xff\xff\xff\xff\xff\xff\xff\xff"))
	made(t, 2, sh(1, 1, "aaaaaaaa"), sh(60, 1, "bbbbbbbb"))
	made(t, 5, sh(2, 1, alike[4]), sh(3, 2, alike[1]), sh(5, 3, alike[0]), sh(8, 4, alike[3]), sh(13, 5, alike[2]))
}

func TestP902OfNoBlocks(t *testing.T) {
	for _, most := range asked() {
		p := made(t, most)
		id, err := 1, api.OK
		if nearer(most) == 0 {
			id, err = 0, api.ErrFull
		}
		wantPut(t, p, "aaaaaaaa", id, err)
		made(t, most, []api.Shelved{}...)
	}
}

func TestP902OfGoesOn(t *testing.T) {
	p := made(t, 5, sh(2, 3, "bbbbbbbb"), sh(4, 9, "eeeeeeee"), sh(60, 1, "zzzzzzzz"))
	wantPut(t, p, "eeeeeeee", 4, api.OK)
	wantPut(t, p, "aaaaaaaa", 1, api.OK)
	wantPut(t, p, "cccccccc", 3, api.OK)
	wantPut(t, p, "dddddddd", 0, api.ErrFull)
	wantDrop(t, p, 60, api.OK)
	wantPut(t, p, "dddddddd", 5, api.OK)
	wantDrop(t, p, 2, api.OK)
	wantHold(t, p, 60, api.ErrNone)
	wantAll(t, p, sh(1, 1, "aaaaaaaa"), sh(2, 2, "bbbbbbbb"), sh(3, 1, "cccccccc"), sh(4, 10, "eeeeeeee"), sh(5, 1, "dddddddd"))
	wantRoom(t, p, 0)
}

// TestP902OfKeepsNoList: the list and the pool go on each by itself.
func TestP902OfKeepsNoList(t *testing.T) {
	l := make([]api.Shelved, 2, 10)
	l[0], l[1] = sh(2, 3, "bbbbbbbb"), sh(4, 9, "eeeeeeee")
	was := slices.Clone(l)
	p, q := made(t, 5, l...), made(t, 5, l...)
	wantPut(t, p, "aaaaaaaa", 1, api.OK)
	wantDrop(t, p, 4, api.OK)
	if !slices.Equal(l, was) || l[:3][2] != (api.Shelved{}) {
		t.Errorf("the list that was handed in: %v, not %v", l[:3], was)
	}
	l[0] = sh(7, 7, "gggggggg")
	wantAll(t, p, sh(1, 1, "aaaaaaaa"), sh(2, 3, "bbbbbbbb"), sh(4, 8, "eeeeeeee"))
	wantAll(t, q, was...)
	wantAll(t, made(t, 9, p.All()...), p.All()...)
}

// TestNoPool (P901, P902): a nil one has nothing and takes nothing, and a zero one is as a nil one.
func TestNoPool(t *testing.T) {
	for _, p := range []*pool.Pool{nil, {}} {
		for _, b := range []string{"aaaaaaaa", zeros, "", "short", alike[0]} {
			wantPut(t, p, b, 0, api.ErrArg)
			wantFind(t, p, b, 0)
		}
		for _, id := range append(absent(), 0, 1, 2, 3) {
			wantHold(t, p, id, api.ErrArg)
			wantDrop(t, p, id, api.ErrArg)
			wantGet(t, p, id, "", api.ErrArg)
			wantRefs(t, p, id, 0)
		}
		wantAll(t, p)
		wantRoom(t, p, 0)
		if c := p.Copy(); c != nil {
			t.Errorf("Copy(): %v, not nil", c)
		}
	}
}

// TestAgainstModel (P901, P902) does many things in an order without a pattern, and holds all answers against those of the model.
func TestAgainstModel(t *testing.T) {
	draw := uint32(1)
	next := func(n int) int {
		draw = draw*1664525 + 1013904223
		return int(draw>>8) % n
	}
	bytes := append([]string{zeros, "short", ""}, alike...)
	for k := range 70 {
		bytes = append(bytes, block(k))
	}
	for _, most := range []int{0, 3, 10, 60, 99} {
		p, m := pool.New(most), &model{most: nearer(most)}
		few := min(len(bytes), nearer(most)+8)
		for range 4000 {
			b, id := bytes[next(few)], next(nearer(most)+4)-1
			switch k := next(40); {
			case k == 0:
				p = p.Copy()
			case k == 1:
				p = made(t, most, p.All()...)
			case k < 18:
				want, err := m.put(b)
				wantPut(t, p, b, want, err)
			case k < 22:
				wantHold(t, p, id, m.turn(id, 1))
			default:
				wantDrop(t, p, id, m.turn(id, -1))
			}
			want, err := m.get(id)
			wantGet(t, p, id, want, err)
			wantFind(t, p, b, m.find(b))
			wantAll(t, p, m.all()...)
			wantRoom(t, p, m.most-len(m.blocks))
			if t.Failed() {
				return
			}
		}
	}
}
