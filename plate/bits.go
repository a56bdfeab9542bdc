package plate

import "emulsion/api"

const (
	// wordShift turns bits into words: 1<<wordShift bits are a word.
	wordShift = 6
	// wordMask leaves of a bit's number its place in its word.
	wordMask = 1<<wordShift - 1
	// words is how many words have a bit for each page that there may be.
	words = (api.MaxPages + wordMask) >> wordShift
)

// bits is a set of numbers from 0 to api.MaxPages less 1, each of which is a bit.
type bits [words]uint64

// bitsOf has the places of those that are true; places behind the last page that
// there may be count for nothing, as no more pages than these are wet.
func bitsOf(l []bool) bits {
	var b bits
	for i, in := range l[:min(len(l), api.MaxPages)] {
		if in {
			b.put(i)
		}
	}
	return b
}

func (b *bits) put(i int) { b[i>>wordShift] |= 1 << (i & wordMask) }

func (b *bits) cut(i int) { b[i>>wordShift] &^= 1 << (i & wordMask) }

func (b *bits) has(i int) bool { return b[i>>wordShift]>>(i&wordMask)&1 == 1 }
