package intake

import (
	"maps"

	"longwire/seq"
)

// Floor tells the number that it waits for.
func (i *Intake) Floor() uint32 {
	if i.isNone() {
		return 0
	}
	return i.floor
}

// Told tells what is told back: the floor, and the mask of what is kept behind it.
func (i *Intake) Told() (ack, mask uint32) {
	if i.isNone() {
		return 0, 0
	}
	return i.floor, seq.Mask(i.floor, i.has)
}

// Waits tells how many are kept.
func (i *Intake) Waits() int {
	if i.isNone() {
		return 0
	}
	return len(i.ahead)
}

// Bytes tells how many bytes those that are kept have.
func (i *Intake) Bytes() int {
	if i.isNone() {
		return 0
	}
	sum := 0
	for _, k := range i.ahead {
		sum += len(k.payload)
	}
	return sum
}

// Copy makes an intake that lives apart.
func (i *Intake) Copy() *Intake {
	if i.isNone() {
		return nil
	}
	return &Intake{floor: i.floor, ahead: maps.Clone(i.ahead)}
}
