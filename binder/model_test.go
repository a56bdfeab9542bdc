package binder_test

import (
	"fmt"
	"maps"
	"slices"
	"strings"
	"testing"

	"emulsion/api"
	"emulsion/binder"
	"emulsion/plate"
)

// sequence draws the same numbers in each run.
type sequence uint64

func (q *sequence) below(n int) int {
	*q = *q*6364136223846793005 + 1442695040888963407
	return int(uint64(*q) >> 33 % uint64(n))
}

// some draws so many bytes.
func (q *sequence) some(n int) string {
	b := make([]byte, n)
	for i := range b {
		b[i] = byte(q.below(256))
	}
	return string(b)
}

// bools draws so many of them.
func (q *sequence) bools(n int) []bool {
	l := make([]bool, n)
	for i := range l {
		l[i] = q.below(2) == 1
	}
	return l
}

func put(key int, b string) binder.Change { return binder.Change{Key: key, Bytes: b} }

func gone(key int) binder.Change { return binder.Change{Key: key, Gone: true} }

// told tells changes: the number of each, how many bytes, and whether it is gone.
func told(l []binder.Change) string {
	text := ""
	for _, c := range l {
		text += fmt.Sprint("(", c.Key, " ", len(c.Bytes), " ", c.Gone, ")")
	}
	return text
}

// rep is so many of one byte.
func rep(n int, c byte) string { return strings.Repeat(string([]byte{c}), n) }

var (
	// zeros is a page of a new disk.
	zeros = rep(32, 0)
	// rotten is a page that is neither laid nor a slot.
	rotten = rep(32, 'r')
)

// bytes makes a text of numbers.
func bytes(l ...int) string {
	var b strings.Builder
	for _, x := range l {
		b.WriteByte(byte(x))
	}
	return b.String()
}

// sealed is b with zeros behind it up to 28 bytes, and their tally by the words of chapter 12.
func sealed(b string) string {
	b += strings.Repeat("\x00", 28-len(b))
	low, high := 0xACE1, 0
	for _, c := range []byte(b) {
		low = (low + int(c)) % 65521
		high = (high + low) % 65521
	}
	return b + bytes(low%256, low/256, high%256, high/256)
}

// laid is a page of bytes by the words of chapter 15.
func laid(b string) string { return sealed(bytes(len(b)) + b) }

// slotted is a slot by the words of chapter 15, whether it may be or not.
func slotted(gen int, pages ...int) string {
	b := bytes(0xA5, gen%256, gen/256%256, gen/65536%256, gen/16777216%256, len(pages))
	return sealed(b + bytes(pages...))
}

// parts cuts b by the words of chapter 15, byte by byte.
func parts(b string) []string {
	var l []string
	for i := range len(b) {
		if i%27 == 0 {
			l = append(l, "")
		}
		l[len(l)-1] += b[i : i+1]
	}
	return l
}

// textOn is what stands on those pages, if that is so many bytes in parts as above.
func textOn(disk []string, pages []int, size int) (string, bool) {
	text := ""
	for i, k := range pages {
		n := min(27, size-27*i)
		if n < 1 || k >= len(disk) || disk[k] != laid(disk[k][1:1+n]) {
			return "", false
		}
		text += disk[k][1 : 1+n]
	}
	return text, len(text) == size
}

// fix is the page of a write that is a Fix.
const fix = -1

// write is one of a commit: bytes laid on a page, or a Fix.
type write struct {
	page  int
	bytes string
}

// model is a binder by the words of the chapter: how many bytes each thing has, and where it and the table stand.
type model struct {
	gen   int
	sizes map[int]int
	where map[int][]int
	named []int
}

func newModel() *model { return &model{sizes: map[int]int{}, where: map[int][]int{}} }

func (m *model) copy() *model {
	return &model{m.gen, maps.Clone(m.sizes), maps.Clone(m.where), slices.Clone(m.named)}
}

func (m *model) keys() []int { return slices.Sorted(maps.Keys(m.sizes)) }

func (m *model) used() []int {
	l := slices.Clone(m.named)
	for _, pages := range m.where {
		l = append(l, pages...)
	}
	slices.Sort(l)
	return l
}

// free has the pages of a disk of so many that are not used.
func (m *model) free(pages int) []int {
	var l []int
	for k := 2; k < pages; k++ {
		if !slices.Contains(m.used(), k) {
			l = append(l, k)
		}
	}
	return l
}

// table is the bytes of the table.
func (m *model) table() string {
	b := bytes(len(m.sizes))
	for _, key := range m.keys() {
		b += bytes(key, m.sizes[key]%256, m.sizes[key]/256) + bytes(m.where[key]...)
	}
	return b
}

// may tells whether a commit of those is not ErrArg.
func (m *model) may(l []binder.Change) bool {
	for i, c := range l {
		for _, other := range l[:i] {
			if other.Key == c.Key {
				return false
			}
		}
		_, is := m.sizes[c.Key]
		if c.Key < 1 || c.Key > 90 || len(c.Bytes) > 300 || c.Gone && (!is || c.Bytes != "") {
			return false
		}
	}
	return true
}

// commit tells what a commit on a disk of so many pages tells, and if that is OK, what it writes and what there is behind it.
func (m *model) commit(pages int, l []binder.Change) (api.Errno, []write, *model) {
	if !m.may(l) {
		return api.ErrArg, nil, nil
	}
	free := m.free(pages)
	room := len(free)
	// More pages than any commit needs: whether there are so many is asked behind it.
	free = append(free, make([]int, 2000)...)
	next := m.copy()
	next.gen++
	var writes []write
	place := func(text string) []int {
		var on []int
		for _, part := range parts(text) {
			writes = append(writes, write{free[len(writes)], laid(part)})
			on = append(on, writes[len(writes)-1].page)
		}
		return on
	}
	for key := 1; key <= 90; key++ {
		for _, c := range l {
			if c.Key == key && c.Gone {
				delete(next.sizes, key)
				delete(next.where, key)
			} else if c.Key == key {
				next.sizes[key], next.where[key] = len(c.Bytes), place(c.Bytes)
			}
		}
	}
	next.named = place(next.table())
	if len(writes) > room || len(next.named) > 11 || m.gen == 1_000_000_000 {
		return api.ErrFull, nil, nil
	}
	return api.OK, append(writes, write{page: fix}, write{next.gen % 2, slotted(next.gen, next.named...)}, write{page: fix}), next
}

// slotOn is the gen and the pages of a slot, 0 of what is none.
func slotOn(page string) (int, []int) {
	gen := int(page[1]) + int(page[2])*256 + int(page[3])*65536 + int(page[4])*16777216
	var pages []int
	for i := range min(int(page[5]), 11) {
		pages = append(pages, int(page[6+i]))
		if pages[i] < 2 || pages[i] > 249 {
			return 0, nil
		}
	}
	if gen < 1 || gen > 1_000_000_000 || page != slotted(gen, pages...) {
		return 0, nil
	}
	return gen, pages
}

// opened is what opens of a disk of those pages; false, if it is ErrCorrupt.
func opened(disk []string) (*model, bool) {
	m := newModel()
	for k := range 2 {
		if gen, pages := slotOn(disk[k]); gen%2 == k && gen > m.gen {
			m.gen, m.named = gen, pages
		}
	}
	if m.gen == 0 {
		return m, true
	}
	text := ""
	for i, k := range m.named {
		if k >= len(disk) {
			return nil, false
		}
		n := int(disk[k][0])
		if n > 27 || n < 1 || i < len(m.named)-1 && n < 27 || disk[k] != laid(disk[k][1:1+n]) {
			return nil, false
		}
		text += disk[k][1 : 1+n]
	}
	return m, m.read(text) && m.apart(len(disk))
}

// read reads a table's bytes.
func (m *model) read(text string) bool {
	b := append([]byte(text), make([]byte, 1000)...)
	at, last := 1, 0
	for range b[0] {
		key, size := int(b[at]), int(b[at+1])+int(b[at+2])*256
		if key <= last || key > 90 || size > 300 {
			return false
		}
		at, last = at+3, key
		m.sizes[key], m.where[key] = size, nil
		for range parts(rep(size, 'x')) {
			m.where[key] = append(m.where[key], int(b[at]))
			at++
		}
	}
	return at == len(text)
}

// apart tells whether all pages of it are pages of a disk of so many, and none there twice.
func (m *model) apart(pages int) bool {
	l := m.used()
	return len(slices.Compact(slices.Clone(l))) == len(l) && (len(l) == 0 || l[0] >= 2 && l[len(l)-1] < pages)
}

// diskOf has all pages of a plate, also of one without power, of which nothing is wet.
func diskOf(p *plate.Plate) []string {
	p = p.Twin()
	p.Power()
	disk := make([]string, p.Pages())
	for k := range disk {
		disk[k], _ = p.Get(k)
	}
	return disk
}

// written is a disk behind some writes.
func written(disk []string, writes []write) []string {
	disk = slices.Clone(disk)
	for _, w := range writes {
		if w.page != fix {
			disk[w.page] = w.bytes
		}
	}
	return disk
}

// wetAt tells the pages that are wet, rising, when the power falls at the n-th of some writes.
func wetAt(writes []write, n int) []int {
	var wet []int
	for i, w := range writes[:n+1] {
		switch {
		case w.page != fix:
			wet = append(wet, w.page)
		case i < n:
			wet = nil
		}
	}
	slices.Sort(wet)
	return wet
}

// fallen is a disk when the power fell at the n-th of some writes.
func fallen(disk []string, writes []write, n int, keep []bool) []string {
	wet := wetAt(writes, n)
	last := written(disk, writes[:n+1])
	for i, k := range wet {
		if i >= len(keep) || !keep[i] {
			last[k] = disk[k]
		}
	}
	return last
}

// bench has a binder on a plate, beside what they are by the words.
type bench struct {
	t    *testing.T
	p    *plate.Plate
	b    *binder.Binder
	m    *model
	disk []string
}

// newBench opens a binder on a plate of so many pages.
func newBench(t *testing.T, pages int) *bench {
	t.Helper()
	return benchOn(t, plate.New(pages))
}

// benchOn opens a binder on a plate.
func benchOn(t *testing.T, p *plate.Plate) *bench {
	t.Helper()
	disk := diskOf(p)
	m, ok := opened(disk)
	b, err := binder.Open(p)
	if !ok || err != api.OK || b == nil {
		t.Fatalf("Open: error %d, and by the words %v", err, ok)
	}
	x := &bench{t: t, p: p, b: b, m: m, disk: disk}
	x.wantAll("opened")
	return x
}

// twin is another one just like it, that is opened anew.
func (x *bench) twin() *bench { x.t.Helper(); return benchOn(x.t, x.p.Twin()) }

// commit commits, and holds all that is told then against the words.
func (x *bench) commit(want api.Errno, l ...binder.Change) []write {
	x.t.Helper()
	what := "Commit" + told(l)
	was, handed := slices.Clone(l), append(slices.Clone(l), put(77, "behind"))[:len(l)]
	err, writes, next := x.m.commit(len(x.disk), l)
	if err != want {
		x.t.Fatalf("%s: by the words error %d, not %d", what, err, want)
	}
	wantErr(x.t, what, x.b.Commit(handed...), want)
	if !slices.Equal(handed, was) || handed[:len(l)+1][len(l)] != put(77, "behind") {
		x.t.Errorf("%s turned the list to %s", what, told(handed))
	}
	if err == api.OK {
		x.m, x.disk = next, written(x.disk, writes)
	}
	x.wantAll(what)
	return writes
}

// rot changes a page.
func (x *bench) rot(k int, page string) {
	x.t.Helper()
	if !x.p.Rot(k, page) {
		x.t.Fatalf("no page %d of %q", k, page)
	}
	x.disk[k] = page
}

// wantAll holds all calls and the disk against the words.
func (x *bench) wantAll(what string) {
	x.t.Helper()
	wantKept(x.t, what, x.b, x.m, len(x.disk))
	var corrupt []int
	for _, key := range append(x.m.keys(), 0, -1, 91, 256) {
		text, err := x.get(key)
		wantGet(x.t, what, x.b, key, text, err)
		if err == api.ErrCorrupt {
			corrupt = append(corrupt, key)
		}
	}
	for key := range 91 {
		if _, is := x.m.sizes[key]; !is {
			wantGet(x.t, what, x.b, key, "", api.ErrNone)
		}
	}
	wantList(x.t, what+": Check", x.b.Check(), corrupt)
	wantDisk(x.t, what, x.p, x.disk)
	wantList(x.t, what+": Wet", x.p.Wet(), nil)
}

// get is what Get tells with power.
func (x *bench) get(key int) (string, api.Errno) {
	size, is := x.m.sizes[key]
	if !is {
		return "", api.ErrNone
	}
	text, ok := textOn(x.disk, x.m.where[key], size)
	if !ok {
		return "", api.ErrCorrupt
	}
	return text, api.OK
}

// wantOff holds a binder of which a Commit told ErrOff against the words, with power or without.
func (x *bench) wantOff(what string) {
	x.t.Helper()
	on := x.p.On()
	wantKept(x.t, what, x.b, x.m, len(x.disk))
	for _, key := range append(x.m.keys(), 0, -1, 33, 90, 91) {
		wantGet(x.t, what, x.b, key, "", api.ErrOff)
	}
	wantList(x.t, what+": Check", x.b.Check(), nil)
	for _, l := range [][]binder.Change{nil, {put(1, ""), put(90, "")}, {put(7, "x")}, {put(0, "")}} {
		// ErrArg and ErrFull are told ahead of it.
		want, _, _ := x.m.commit(len(x.disk), l)
		if want == api.OK {
			want = api.ErrOff
		}
		wantErr(x.t, what+": Commit"+told(l), x.b.Commit(l...), want)
	}
	var l []binder.Change
	for key := range 90 {
		l = append(l, put(1+key, rep(300, 'l')))
	}
	wantErr(x.t, what+": Commit of too much", x.b.Commit(l...), api.ErrFull)
	wantKept(x.t, what, x.b, x.m, len(x.disk))
	wantDisk(x.t, what, x.p, x.disk)
	wantList(x.t, what+": Wet", x.p.Wet(), nil)
	if x.p.On() != on {
		x.t.Errorf("%s: power %v, not %v", what, x.p.On(), on)
	}
}

// wantKept holds what a binder tells, with power or without, against the words.
func wantKept(t *testing.T, what string, b *binder.Binder, m *model, pages int) {
	t.Helper()
	wantList(t, what+": Keys", b.Keys(), m.keys())
	wantList(t, what+": Used", b.Used(), m.used())
	wantInt(t, what+": Gen", b.Gen(), m.gen)
	wantInt(t, what+": Free", b.Free(), len(m.free(pages)))
}

func wantErr(t *testing.T, what string, got, want api.Errno) {
	t.Helper()
	if got != want {
		t.Errorf("%s: error %d, not %d", what, got, want)
	}
}

func wantInt(t *testing.T, what string, got, want int) {
	t.Helper()
	if got != want {
		t.Errorf("%s: %d, not %d", what, got, want)
	}
}

func wantList(t *testing.T, what string, got, want []int) {
	t.Helper()
	if !slices.Equal(got, want) {
		t.Errorf("%s: %v, not %v", what, got, want)
	}
}

func wantGet(t *testing.T, what string, b *binder.Binder, key int, want string, wantErr api.Errno) {
	t.Helper()
	if got, err := b.Get(key); got != want || err != wantErr {
		t.Errorf("%s: Get(%d): %q %d, not %q %d", what, key, got, err, want, wantErr)
	}
}

// wantDisk holds all pages against those that are wanted.
func wantDisk(t *testing.T, what string, p *plate.Plate, want []string) {
	t.Helper()
	for k, page := range diskOf(p) {
		if page != want[k] {
			t.Errorf("%s: the page %d is %q, not %q", what, k, page, want[k])
		}
	}
}

// wantOpen opens a plate: what it tells, and that nothing is written by it.
func wantOpen(t *testing.T, what string, p *plate.Plate, want api.Errno) *binder.Binder {
	t.Helper()
	disk, wet, on := diskOf(p), p.Wet(), p.On()
	p.Snag(0)
	b, err := binder.Open(p)
	if err != want || (b != nil) != (want == api.OK) {
		t.Errorf("%s: Open: %v, error %d, not %d", what, b != nil, err, want)
	}
	if p.On() != on || !slices.Equal(p.Wet(), wet) {
		t.Errorf("%s: Open wrote something", what)
	}
	p.Snag(-1)
	wantDisk(t, what, p, disk)
	return b
}
