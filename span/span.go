// Package span has some blocks, one behind the other.
package span

import "emulsion/api"

// blockShift turns bytes into blocks: 1<<blockShift is api.BlockSize.
const blockShift = 3

// Valid tells whether a span is one of so many blocks.
func Valid(s api.Span, blocks int) bool {
	return whole(s) && s.From+s.N <= blocks
}

// End tells where it ends; 0 of a span that is not whole.
func End(s api.Span) int {
	if !whole(s) {
		return 0
	}
	return s.From + s.N
}

// Meet tells what two have in common.
func Meet(a, b api.Span) (api.Span, bool) {
	if !whole(a) || !whole(b) {
		return api.Span{}, false
	}
	from, end := max(a.From, b.From), min(End(a), End(b))
	if from >= end {
		return api.Span{}, false
	}
	return between(from, end), true
}

// Touch tells whether two can be one.
func Touch(a, b api.Span) bool {
	return whole(a) && whole(b) && a.From <= End(b) && b.From <= End(a)
}

// Join tells two as one, if they touch.
func Join(a, b api.Span) (api.Span, bool) {
	if !Touch(a, b) {
		return api.Span{}, false
	}
	return between(min(a.From, b.From), max(End(a), End(b))), true
}

// Less tells what one has and the other one has not, rising.
func Less(a, b api.Span) []api.Span {
	if !whole(a) {
		return nil
	}
	both, ok := Meet(a, b)
	if !ok {
		return []api.Span{a}
	}
	var rest []api.Span
	if a.From < both.From {
		rest = append(rest, between(a.From, both.From))
	}
	if End(both) < End(a) {
		rest = append(rest, between(End(both), End(a)))
	}
	return rest
}

// Blocks tells the blocks of the n bytes from the byte at on.
func Blocks(at, n int) (api.Span, bool) {
	const volume = api.MaxBlocks << blockShift
	// The bound on n is a difference, since at+n may wrap round.
	if at < 0 || n < 1 || n > volume-at {
		return api.Span{}, false
	}
	first, last := at>>blockShift, (at+n-1)>>blockShift
	return between(first, last+1), true
}

// Has tells whether a block is in it.
func Has(s api.Span, k int) bool {
	return whole(s) && s.From <= k && k < End(s)
}

// whole bounds N by a difference, since From+N may wrap round.
func whole(s api.Span) bool {
	return s.From >= 0 && s.N >= 1 && s.N <= api.MaxBlocks-s.From
}

// between makes the span of the blocks from one on and ahead of another one.
func between(from, end int) api.Span {
	return api.Span{From: from, N: end - from}
}
