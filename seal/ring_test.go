package seal_test

import (
	"encoding/binary"
	"math"
	"testing"

	"longwire/api"
	"longwire/seal"
)

// ringOf tells the ring of a secret, which must be OK.
func ringOf(t *testing.T, secret []byte) *seal.Ring {
	t.Helper()
	r, e := seal.New(secret)
	if e != api.OK || r == nil {
		t.Fatalf("New: %v, %d, want a ring, OK", r, e)
	}
	return r
}

// way is what the key of a way is asked of.
type way struct {
	way            int
	session, epoch uint32
	client, server uint64
}

// of tells the key of the way that a ring has.
func (w way) of(r *seal.Ring) seal.Key {
	return r.Way(w.way, w.session, w.epoch, w.client, w.server)
}

// wanted tells the key of the way, made from the words of the chapter alone.
func (w way) wanted(secret []byte) seal.Key {
	return wantedKey(secret, "way", []byte{byte(w.way)},
		binary.BigEndian.AppendUint32(nil, w.session), binary.BigEndian.AppendUint32(nil, w.epoch),
		binary.BigEndian.AppendUint64(nil, w.client), binary.BigEndian.AppendUint64(nil, w.server))
}

// numbers of sessions and epochs, and nonces, at their edges and between.
func fours() []uint32 {
	return []uint32{0, 1, 2, 255, 256, 0x01020304, 1 << 31, math.MaxUint32}
}

func eights() []uint64 {
	return []uint64{0, 1, 256, 0x0102030405060708, 1 << 63, math.MaxUint64}
}

// ways tells ways of all these.
func ways() []way {
	var l []way
	for _, w := range []int{seal.Up, seal.Down} {
		for _, session := range fours() {
			for _, epoch := range fours() {
				for _, client := range eights() {
					for _, server := range eights() {
						l = append(l, way{w, session, epoch, client, server})
					}
				}
			}
		}
	}
	return l
}

// wantedToken tells the token, made from the words of the chapter alone.
func wantedToken(secret []byte, session, epoch uint32) uint64 {
	k := wantedKey(secret, "token")
	message := binary.BigEndian.AppendUint32(binary.BigEndian.AppendUint32(nil, session), epoch)
	return binary.BigEndian.Uint64(signed(k[:], message))
}

// P3.2: Up is 0, Down is 1.
func TestWaysNumbers(t *testing.T) {
	if seal.Up != 0 || seal.Down != 1 {
		t.Errorf("Up %d, Down %d", seal.Up, seal.Down)
	}
}

// P3.2: New takes secrets of 1 to 64 bytes, and no others.
func TestNewSecrets(t *testing.T) {
	for many := range 70 {
		secret := filled(many, 3)
		r, e := seal.New(secret)
		if many == 0 || many > 64 {
			if r != nil || e != api.ErrArg {
				t.Errorf("a secret of %d: %v, %d, want none, ErrArg", many, r, e)
			}
			continue
		}
		if r == nil || e != api.OK {
			t.Fatalf("a secret of %d: %v, %d, want a ring, OK", many, r, e)
		}
		if got, want := r.Hello(), wantedKey(secret, "hello"); got != want {
			t.Errorf("a secret of %d: Hello %x, want %x", many, got, want)
		}
		w := way{seal.Down, 7, 1, 2, 3}
		if got, want := w.of(r), w.wanted(secret); got != want {
			t.Errorf("a secret of %d: Way %x, want %x", many, got, want)
		}
		if got, want := r.Token(7, 1), wantedToken(secret, 7, 1); got != want {
			t.Errorf("a secret of %d: Token %016x, want %016x", many, got, want)
		}
	}
	for _, secret := range [][]byte{nil, {}, filled(70, 3)[:0], filled(128, 3), filled(256, 3), filled(257, 3), filled(65537, 3)} {
		if r, e := seal.New(secret); r != nil || e != api.ErrArg {
			t.Errorf("a secret of %d: %v, %d, want none, ErrArg", len(secret), r, e)
		}
	}
}

// P3.2: a secret of bytes 0 is one, too.
func TestSecretOfZeros(t *testing.T) {
	for _, many := range []int{1, 64} {
		secret := make([]byte, many)
		r, w := ringOf(t, secret), way{seal.Up, 1, 2, 3, 4}
		if r.Hello() != wantedKey(secret, "hello") || w.of(r) != w.wanted(secret) || r.Token(1, 2) != wantedToken(secret, 1, 2) {
			t.Errorf("%d zeros: another key, or token", many)
		}
	}
}

// P3.2: the keys and tokens that are known.
func TestRingKnown(t *testing.T) {
	r := ringOf(t, []byte("key"))
	wantKey(t, "Hello", r.Hello(), "88357cb820f884c382e07e95d69c2b22e8c53c6e993aef89830927cef18d8376")
	for _, c := range []struct {
		way  way
		want string
	}{
		{way{seal.Up, 0, 0, 0, 0}, "6d3b15baabacd462065e110504c26cd91abcf26bc1ca7c28a2d46193a4d44d80"},
		{way{seal.Down, 0, 0, 0, 0}, "bd71a7d3baf5e00b3a54d418c4077260110082a488f3f595dbecfabe59e29547"},
		{way{seal.Up, 7, 1, 0x0102030405060708, 0xf0e0d0c0b0a09080}, "5e55a2a57daa8738b3a48eec5a918f2e778d8db81ab1c9730aabe1bbb2581ed5"},
		{way{seal.Down, 7, 1, 0x0102030405060708, 0xf0e0d0c0b0a09080}, "c6725b88611bccad6e574aaff93f4889236ca23e5aaf75ec1b1c04b99fe3dece"},
		{way{seal.Up, math.MaxUint32, math.MaxUint32, math.MaxUint64, math.MaxUint64}, "a0f9bc189f0160d5d89b576d920e2535db083f98f8844af6577b9dbead79806c"},
		{way{seal.Down, math.MaxUint32, math.MaxUint32, math.MaxUint64, math.MaxUint64}, "f28203d9ea696144303b4cae31a2dd84f613759645193bad4611e0c96d17ebcd"},
	} {
		wantKey(t, "Way", c.way.of(r), c.want)
	}
	for _, c := range []struct {
		session, epoch uint32
		want           uint64
	}{
		{0, 0, 0x80680e847150873f},
		{7, 1, 0xc7ba6e6a31047eac},
		{1, 7, 0x08ff649fb52c52af},
		{0x01020304, 0xf1f2f3f4, 0xc093b42b649dbe66},
		{math.MaxUint32, math.MaxUint32, 0x1140776dadc038dc},
	} {
		if got := r.Token(c.session, c.epoch); got != c.want {
			t.Errorf("Token(%d, %d): %016x, want %016x", c.session, c.epoch, got, c.want)
		}
	}
}

// P3.2, P3.3: the keys of ways are those of the chapter, and all apart.
func TestWaysApart(t *testing.T) {
	secret, seen := []byte("key"), apart{}
	r := ringOf(t, secret)
	seen.add(t, "Hello", r.Hello())
	seen.add(t, "the token's key", derived(t, secret, "token"))
	seen.add(t, "the label way alone", derived(t, secret, "way"))
	for _, w := range ways() {
		got := w.of(r)
		if want := w.wanted(secret); got != want {
			t.Errorf("%v: %x, want %x", w, got, want)
		}
		seen.add(t, "a way", got)
	}
}

// P3.3: what is exchanged has another key, or token.
func TestExchangedApart(t *testing.T) {
	r := ringOf(t, []byte("key"))
	k := r.Way(seal.Up, 7, 1, 2, 3)
	if r.Way(seal.Up, 7, 1, 3, 2) == k {
		t.Error("the nonces exchanged: the same key")
	}
	if r.Way(seal.Up, 1, 7, 2, 3) == k {
		t.Error("session and epoch exchanged: the same key")
	}
	if r.Way(seal.Down, 7, 1, 2, 3) == k {
		t.Error("the ways exchanged: the same key")
	}
	if r.Token(7, 1) == r.Token(1, 7) {
		t.Error("session and epoch exchanged: the same token")
	}
}

// P3.2, P3.3: tokens are those of the chapter, and all apart.
func TestTokensApart(t *testing.T) {
	secret := filled(64, 4)
	r, seen := ringOf(t, secret), map[uint64]bool{0: true}
	for _, session := range fours() {
		for _, epoch := range fours() {
			got := r.Token(session, epoch)
			if want := wantedToken(secret, session, epoch); got != want {
				t.Errorf("Token(%d, %d): %016x, want %016x", session, epoch, got, want)
			}
			if seen[got] {
				t.Errorf("Token(%d, %d): %016x is there already", session, epoch, got)
			}
			seen[got] = true
		}
	}
}

// P3.3: rings of unlike secrets have unlike keys and tokens.
func TestSecretsApart(t *testing.T) {
	seen, tokens := apart{}, map[uint64]bool{}
	for many := 1; many <= 64; many++ {
		r := ringOf(t, filled(64, 6)[:many])
		seen.add(t, "Hello", r.Hello())
		seen.add(t, "Up", r.Way(seal.Up, 7, 1, 2, 3))
		seen.add(t, "Down", r.Way(seal.Down, 7, 1, 2, 3))
		if tokens[r.Token(7, 1)] {
			t.Errorf("a secret of %d: a token that is there already", many)
		}
		tokens[r.Token(7, 1)] = true
	}
}

// P3.2: a way that is neither Up nor Down has the key of bytes 0, also where its lowest byte is one of them.
func TestNoWay(t *testing.T) {
	r := ringOf(t, []byte("key"))
	for _, w := range []int{2, 3, 255, 256, 257, 1 << 32, 1<<32 + 1, math.MaxInt, -1, -2, -255, -256, math.MinInt, math.MinInt + 1} {
		for _, n := range []uint32{0, 7, math.MaxUint32} {
			if k := r.Way(w, n, n, uint64(n), uint64(n)); k != (seal.Key{}) {
				t.Errorf("Way(%d): %x", w, k)
			}
		}
	}
}

// P3.2: no ring has the keys of bytes 0, and the token 0.
func TestNoRing(t *testing.T) {
	var declared seal.Ring
	failed, _ := seal.New(nil)
	for i, r := range []*seal.Ring{nil, {}, new(seal.Ring), &declared, failed} {
		if k := r.Hello(); k != (seal.Key{}) {
			t.Errorf("ring %d: Hello %x", i, k)
		}
		for _, w := range []int{seal.Up, seal.Down, 2, -1} {
			for _, n := range []uint32{0, 7, math.MaxUint32} {
				if k := r.Way(w, n, n, uint64(n), uint64(n)); k != (seal.Key{}) {
					t.Errorf("ring %d: Way(%d) %x", i, w, k)
				}
			}
		}
		for _, session := range fours() {
			for _, epoch := range fours() {
				if n := r.Token(session, epoch); n != 0 {
					t.Errorf("ring %d: Token(%d, %d) %016x", i, session, epoch, n)
				}
			}
		}
	}
}

// P3.2: what a ring tells is what Derive tells.
func TestRingIsDerive(t *testing.T) {
	secret := filled(33, 12)
	r := ringOf(t, secret)
	if r.Hello() != derived(t, secret, "hello") {
		t.Error("Hello is another key")
	}
	if r.Way(seal.Down, 7, 1, 2, 3) != derived(t, secret, "way", []byte{1}, []byte{0, 0, 0, 7}, []byte{0, 0, 0, 1}, []byte{0, 0, 0, 0, 0, 0, 0, 2}, []byte{0, 0, 0, 0, 0, 0, 0, 3}) {
		t.Error("Way is another key")
	}
	if r.Token(7, 1) != derived(t, secret, "token").Tag([]byte{0, 0, 0, 7, 0, 0, 0, 1}) {
		t.Error("Token is another tag")
	}
}
