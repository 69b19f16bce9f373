package disk

import (
	"strings"

	"linenpress/api"
)

// Work is a disk on which step after step is done in place: the calls of the
// chapter copy a disk at each step, which is dear where there are many.
type Work struct{ disk api.Disk }

// Begin: work on a copy of d; Check's error, if it is none.
func Begin(d api.Disk) (*Work, api.Errno) {
	if e := Check(d); e != api.OK {
		return nil, e
	}
	return &Work{copyOf(d)}, api.OK
}

// Write does what the chapter's Write does. What it refuses changes nothing.
func (w *Work) Write(at int, text string) api.Errno {
	p := api.Put{At: at, Text: text}
	if e := checkPut(w.disk, p); e != api.OK {
		return e
	}
	if len(w.disk.Wait) >= api.MaxWait {
		return api.ErrFull
	}
	w.disk.Wait = append(w.disk.Wait, copyOfPut(p))
	return api.OK
}

// Sync does what the chapter's Sync does.
func (w *Work) Sync() {
	w.settle(func(int) bool { return true })
}

// Crash does what the chapter's Crash does.
func (w *Work) Crash(keep []bool) {
	w.settle(func(i int) bool { return i < len(keep) && keep[i] })
}

// End: the disk, handed over; w has none any longer, so that nothing is shared.
func (w *Work) End() api.Disk {
	d := w.disk
	w.disk = api.Disk{}
	return d
}

// settle has those writes land of which lands says so; the others are lost.
func (w *Work) settle(lands func(i int) bool) {
	for i, p := range w.disk.Wait {
		if lands(i) {
			w.disk.Cells[p.At] = p.Text
		}
	}
	w.disk.Wait = nil // not [:0]: the texts of lost writes would live on behind it
}

// copyOf: the same disk, in new memory.
func copyOf(d api.Disk) api.Disk {
	c := api.Disk{Cells: make([]string, len(d.Cells)), Wait: make([]api.Put, len(d.Wait))}
	for i, text := range d.Cells {
		c.Cells[i] = strings.Clone(text)
	}
	for i, p := range d.Wait {
		c.Wait[i] = copyOfPut(p)
	}
	return c
}

func copyOfPut(p api.Put) api.Put { return api.Put{At: p.At, Text: strings.Clone(p.Text)} }
