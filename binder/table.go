package binder

import (
	"emulsion/api"
	"emulsion/leaf"
)

const (
	// headSize is how many bytes of a table a thing has ahead of its pages: its number, and two of how many bytes it has.
	headSize = 3
	// byteShift turns bytes into bits: 1<<byteShift bits are a byte.
	byteShift = 3
)

// thing tells how many bytes a thing has, and on which pages; it is not changed, but another one is put in its place.
type thing struct {
	size  int
	pages []int
}

// table has each thing at its number, and nil where there is none.
type table [api.MaxKeys + 1]*thing

// find tells the thing of a number, whatever that is: nil, if there is none.
func (t *table) find(key int) *thing {
	if key < 0 || key >= len(t) {
		return nil
	}
	return t[key]
}

// keys tells which numbers have a thing, rising.
func (t *table) keys() []int {
	var keys []int
	for key, x := range t {
		if x != nil {
			keys = append(keys, key)
		}
	}
	return keys
}

// takes tells whether those changes may be, all at once.
func (t *table) takes(l []Change) bool {
	var seen [len(t)]bool
	for _, c := range l {
		if !t.takesOne(c) || seen[c.Key] {
			return false
		}
		seen[c.Key] = true
	}
	return true
}

func (t *table) takesOne(c Change) bool {
	switch {
	case c.Key < 1 || c.Key > api.MaxKeys:
		return false
	case c.Gone:
		return c.Bytes == "" && t[c.Key] != nil
	}
	return len(c.Bytes) <= api.MaxThing
}

// bytes tells the table as it is laid.
func (t *table) bytes() string {
	keys := t.keys()
	b := []byte{byte(len(keys))}
	for _, key := range keys {
		x := t[key]
		b = append(b, byte(key), byte(x.size), byte(x.size>>(1<<byteShift)))
		for _, k := range x.pages {
			b = append(b, byte(k))
		}
	}
	return string(b)
}

// tableOf reads a table of what bytes told; false, if they are not just those of one. Which pages it may name is not asked.
func tableOf(b string) (table, bool) {
	if b == "" {
		return table{}, false
	}
	var t table
	last, rest := 0, b[1:]
	for range int(b[0]) {
		key, x := thingOf(rest)
		if key <= last {
			return table{}, false
		}
		t[key], last, rest = x, key, rest[headSize+len(x.pages):]
	}
	if rest != "" {
		return table{}, false
	}
	return t, true
}

// thingOf reads the thing with which some bytes of a table begin, and its number: 0, if they begin with none.
func thingOf(b string) (int, *thing) {
	if len(b) < headSize {
		return 0, nil
	}
	key, size := int(b[0]), int(b[1])|int(b[2])<<(1<<byteShift)
	pages := make([]int, leaf.Need(size))
	if key > api.MaxKeys || size > api.MaxThing || len(pages) > len(b)-headSize {
		return 0, nil
	}
	for i := range pages {
		pages[i] = int(b[headSize+i])
	}
	return key, &thing{size: size, pages: pages}
}
