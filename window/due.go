package window

import "longwire/api"

// wait tells how long a payload that was due so many times waits till it is due again.
func (w *Window) wait(tries int) int64 {
	wait := w.first
	for n := 1; n < tries && wait < w.most; n++ { // most stops it: twice a wait is never too much for a number
		wait = min(2*wait, w.most)
	}
	return wait
}

// Due tells what is due at now or was earlier, by rising numbers; each is due again a wait behind now.
func (w *Window) Due(now int64) []Item {
	if w.isNone() {
		return nil
	}
	now = min(max(now, 0), api.MaxTicks)
	var due []Item
	for _, n := range w.numbers() {
		k := w.items[n]
		if k.due > now {
			continue
		}
		k.tries++
		k.due = now + w.wait(k.tries)
		w.items[n] = k
		due = append(due, Item{Number: n, Payload: []byte(k.payload), Tries: k.tries})
	}
	return due
}

// Wakes tells the earliest tick at which something is due, and whether anything is kept.
func (w *Window) Wakes() (int64, bool) {
	if w.Len() == 0 {
		return 0, false
	}
	numbers := w.numbers()
	earliest := w.items[numbers[0]].due
	for _, n := range numbers[1:] {
		earliest = min(earliest, w.items[n].due)
	}
	return earliest, true
}
