package hash_test

import (
	"bytes"
	"sync"
	"testing"

	"longwire/hash"
)

// roomy tells bytes with room behind their end, and all of them with that room.
func roomy(many int, seed uint32) (front, all []byte) {
	all = filled(many+200, seed)
	return all[:many], all
}

// P2.2: the parts and the key read afterwards as before, also in the room behind their end.
func TestWhatIsHandedInStays(t *testing.T) {
	for _, keyMany := range keyLengths() {
		for _, many := range edges() {
			key, allKey := roomy(keyMany, 71)
			first, allFirst := roomy(many, 72)
			second, allSecond := roomy(many/2+1, 73)
			wasKey, wasFirst, wasSecond := bytes.Clone(allKey), bytes.Clone(allFirst), bytes.Clone(allSecond)
			hash.Sha256(first, second)
			hash.Sha256(key)
			hash.Hmac(key, first, second)
			hash.Hmac(key)
			if !bytes.Equal(allKey, wasKey) || !bytes.Equal(allFirst, wasFirst) || !bytes.Equal(allSecond, wasSecond) {
				t.Errorf("key of %d, %d bytes: something is changed", keyMany, many)
			}
		}
	}
}

// P2.2: the list of the parts stays too, also in the room behind its end.
func TestListOfPartsStays(t *testing.T) {
	a, b, c := filled(10, 1), filled(64, 2), filled(7, 3)
	all := [][]byte{a, nil, b, c, c}
	list := all[:3]
	want := wanted(c, append(bytes.Clone(a), b...))
	for range 2 {
		if hash.Hmac(c, list...) != want || hash.Sha256(list...) != hash.Sha256(a, b) {
			t.Error("another hash")
		}
	}
	for i, same := range [][]byte{a, nil, b, c, c} {
		if !bytes.Equal(all[i], same) {
			t.Errorf("part %d is changed", i)
		}
	}
	if all[1] != nil || &all[3][0] != &c[0] {
		t.Error("a part is another one")
	}
}

// P2.2: the key may be a part as well, and parts may lie over each other.
func TestKeyIsAlsoPart(t *testing.T) {
	for _, many := range keyLengths() {
		key := filled(many, 81)
		if got, want := hash.Hmac(key, key, key[many/2:]), wanted(key, append(bytes.Clone(key), key[many/2:]...)); got != want {
			t.Errorf("key of %d: %x, want %x", many, got, want)
		}
	}
}

// R7: calls at one time do not meet each other.
func TestCallsAtOneTime(t *testing.T) {
	key, message := filled(100, 91), filled(500, 92)
	sum, mac := hash.Sha256(message), hash.Hmac(key, message)
	var wait sync.WaitGroup
	for range 8 {
		wait.Go(func() {
			for range 50 {
				if hash.Sha256(message) != sum || hash.Hmac(key, message) != mac {
					t.Error("another hash")
					return
				}
			}
		})
	}
	wait.Wait()
}
