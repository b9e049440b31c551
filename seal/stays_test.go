package seal_test

import (
	"bytes"
	"sync"
	"testing"

	"longwire/api"
	"longwire/seal"
)

// roomy tells bytes with room behind their end, and all of them with that room.
func roomy(many int, seed uint32) (front, all []byte) {
	all = filled(many+100, seed)
	return all[:many], all
}

// told is all that a ring tells, of some numbers.
type told struct {
	hello, up, down seal.Key
	token           uint64
}

func toldOf(r *seal.Ring) told {
	return told{r.Hello(), r.Way(seal.Up, 7, 1, 2, 3), r.Way(seal.Down, 7, 1, 2, 3), r.Token(7, 1)}
}

// P3.4: the same calls again tell the same, whatever was called between.
func TestTheSameAgain(t *testing.T) {
	secret, part := filled(64, 1), filled(300, 2)
	r, k := ringOf(t, secret), derived(t, secret, "label", part)
	first, tag := toldOf(r), k.Tag(part)
	for range 3 {
		seal.Derive(nil, "label", part)
		derived(t, part[:64], "other", secret, part)
		r.Way(2, 0, 0, 0, 0)
		r.Token(0, 0)
		if toldOf(r) != first || toldOf(ringOf(t, bytes.Clone(secret))) != first {
			t.Error("a ring tells another thing")
		}
		if derived(t, secret, "label", part) != k || k.Tag(part) != tag {
			t.Error("another key, or tag")
		}
	}
}

// P3.4: the secret is not kept: it may be changed behind New.
func TestSecretIsNotKept(t *testing.T) {
	for _, many := range []int{1, 32, 64} {
		secret, all := roomy(many, 21)
		r := ringOf(t, secret)
		other := ringOf(t, secret)
		want := toldOf(ringOf(t, bytes.Clone(secret)))
		if toldOf(r) != want {
			t.Errorf("a secret of %d: another thing", many)
		}
		for i := range all {
			all[i] ^= 255
		}
		if toldOf(r) != want || toldOf(other) != want {
			t.Errorf("a secret of %d: changed behind New, the ring tells another thing", many)
		}
		if toldOf(ringOf(t, secret)) == want {
			t.Errorf("a secret of %d: the changed one tells the same", many)
		}
	}
}

// P3.4: parts and secrets are not kept: what is derived of others in the same memory is of these.
func TestPartsAreNotKept(t *testing.T) {
	secret, part := filled(16, 31), filled(40, 32)
	k := derived(t, secret, "l", part)
	tag := k.Tag(part)
	part[0]++
	if derived(t, secret, "l", part) != wantedKey(secret, "l", part) || k.Tag(part) == tag {
		t.Error("the changed part is not seen")
	}
	secret[0]++
	if derived(t, secret, "l", part) != wantedKey(secret, "l", part) {
		t.Error("the changed secret is not seen")
	}
	part[0]--
	secret[0]--
	if derived(t, secret, "l", part) != k || k.Tag(part) != tag {
		t.Error("changed back, another key, or tag")
	}
}

// R3: what is handed in reads afterwards as before, also in the room behind its end.
func TestWhatIsHandedInStays(t *testing.T) {
	for _, many := range []int{0, 1, 3, 32, 63, 64, 65, 256, 300} {
		secret, allSecret := roomy(many, 41)
		first, allFirst := roomy(many, 42)
		second, allSecond := roomy(many/2, 43)
		wasSecret, wasFirst, wasSecond := bytes.Clone(allSecret), bytes.Clone(allFirst), bytes.Clone(allSecond)
		if r, e := seal.New(secret); e == api.OK {
			toldOf(r)
		}
		seal.Derive(secret, "label", first, nil, second, first)
		k, _ := seal.Derive([]byte("key"), "label", first, second)
		k.Tag(first)
		k.Tag(secret)
		if !bytes.Equal(allSecret, wasSecret) || !bytes.Equal(allFirst, wasFirst) || !bytes.Equal(allSecond, wasSecond) {
			t.Errorf("of %d bytes: something is changed", many)
		}
	}
}

// R3: the list of the parts stays, also in the room behind its end; the secret may be a part, too.
func TestListOfPartsStays(t *testing.T) {
	a, b, c := filled(10, 1), filled(64, 2), filled(7, 3)
	all := [][]byte{a, nil, b, c, c}
	list := all[:3]
	if derived(t, b, "l", list...) != wantedKey(b, "l", a, nil, b) {
		t.Error("another key")
	}
	for i, same := range [][]byte{a, nil, b, c, c} {
		if len(all[i]) != len(same) || len(same) > 0 && &all[i][0] != &same[0] {
			t.Errorf("part %d is another one", i)
		}
	}
}

// R3: a key that asks for a tag stays.
func TestKeyStays(t *testing.T) {
	k := seal.Key(filled(32, 5))
	was := k
	k.Tag(k[:])
	if k != was {
		t.Error("the key is changed")
	}
}

// R7: calls at one time do not meet each other.
func TestCallsAtOneTime(t *testing.T) {
	secret, part := filled(64, 91), filled(500, 92)
	r, k := ringOf(t, secret), derived(t, secret, "l", part)
	want, tag := toldOf(r), k.Tag(part)
	var wait sync.WaitGroup
	for range 8 {
		wait.Go(func() {
			for range 50 {
				if got, e := seal.Derive(secret, "l", part); got != k || e != api.OK || k.Tag(part) != tag || toldOf(r) != want {
					t.Error("another key, tag, or token")
					return
				}
			}
		})
	}
	wait.Wait()
}
