package binder

import (
	"cmp"
	"slices"

	"emulsion/api"
	"emulsion/leaf"
	"emulsion/plate"
)

// draft is a commit that is not written yet, and the edition that it leaves.
type draft struct {
	edition
	// free has the pages that were free ahead of it; each part is laid on the one of its place.
	free  []int
	parts []string
}

// draft plans changes that may be; false, if there is no room for them.
func (b *Binder) draft(l []Change) (*draft, bool) {
	d := &draft{free: b.free()}
	d.gen, d.things = b.now.gen+1, b.now.things
	for _, c := range slices.SortedFunc(slices.Values(l), byKey) {
		if !d.change(c) {
			return nil, false
		}
	}
	named, ok := d.place(d.things.bytes())
	d.named = named
	return d, ok && len(named) <= api.MaxSlotted && d.gen <= lastGen
}

// byKey compares changes.
func byKey(a, b Change) int { return cmp.Compare(a.Key, b.Key) }

// change makes of a thing what it becomes; false, if there is no room for it.
func (d *draft) change(c Change) bool {
	if c.Gone {
		d.things[c.Key] = nil
		return true
	}
	pages, ok := d.place(c.Bytes)
	d.things[c.Key] = &thing{size: len(c.Bytes), pages: pages}
	return ok
}

// place puts bytes on the next pages that are free: on which; false, if there are not as many.
func (d *draft) place(text string) ([]int, bool) {
	from := len(d.parts)
	d.parts = append(d.parts, leaf.Parts(text)...)
	if len(d.parts) > len(d.free) {
		return nil, false
	}
	return d.free[from:len(d.parts)], true
}

// write lays all of it on its pages. What is there ahead of it counts until the
// slot lasts, and the slot is not laid until all lasts that it names.
func (d *draft) write(p *plate.Plate) api.Errno {
	for i, part := range d.parts {
		page, _ := leaf.Lay(part)
		if err := p.Lay(d.free[i], page); err != api.OK {
			return err
		}
	}
	if err := p.Fix(); err != api.OK {
		return err
	}
	slot, _ := leaf.Slot(d.gen, d.named...)
	if err := p.Lay(d.gen%slots, slot); err != api.OK {
		return err
	}
	return p.Fix()
}
