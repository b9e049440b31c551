package session_test

import (
	"math"
	"testing"

	"longwire/api"
	"longwire/resume"
	"longwire/session"
)

// answerTo tells the Welcome to a nonce, of a session and an epoch.
func answerTo(nonce uint64, session, epoch uint32) welcome {
	return welcome{session, epoch, nonce, 21, tokenOf(session, epoch), 0}
}

// P12.2: what a client can't be made of, and what is just right.
func TestNewClient(t *testing.T) {
	r := ringOf(t, secret)
	for _, k := range []session.Kept{{}, {Session: 1, Epoch: 1}, {Session: 5, Epoch: 7, Token: 9}, {Session: math.MaxUint32, Epoch: math.MaxUint32, Token: math.MaxUint64}} {
		nearKept(t, k)
		for _, none := range noRings() {
			if c, e := session.NewClient(none, k); c != nil || e != api.ErrArg {
				t.Errorf("of no ring, and %v: %v, %d, want none, ErrArg", k, c, e)
			}
		}
	}
	for _, k := range []session.Kept{{Session: 1}, {Epoch: 1}, {Session: 5, Token: 9}, {Epoch: 5, Token: 9}, {Session: math.MaxUint32}, {Epoch: math.MaxUint32}} {
		if c, e := session.NewClient(r, k); c != nil || e != api.ErrArg {
			t.Errorf("of %v: %v, %d, want none, ErrArg", k, c, e)
		}
	}
}

// P12.2: the Hello of one that knows no session, and of one that knows one.
func TestStart(t *testing.T) {
	had := resume.Ask{Next: 6, Open: []resume.Have{{Id: 2, Out: 7, Err: 8, Status: true}, {Id: 4}, {Id: 5, Out: math.MaxUint32}}}
	for _, ask := range []resume.Ask{asks(1), asks(math.MaxUint32), had, asks(17, 1, 2, 3, 4, 5, 6, 7, 8, 9, 10, 11, 12, 13, 14, 15, 16)} {
		for _, nonce := range []uint64{0, 11, math.MaxUint64} {
			nearOf(t, 0, 0).starts(nonce, ask)
			nearOf(t, 5, 3).starts(nonce, ask)
			nearKept(t, session.Kept{Session: 5, Epoch: 3}).starts(nonce, ask)
			nearKept(t, session.Kept{Session: math.MaxUint32, Epoch: math.MaxUint32, Token: math.MaxUint64}).starts(nonce, ask)
		}
	}
}

// P12.2: the Hello of one that knows no session has no token, whatever it was made with.
func TestStartWithoutToken(t *testing.T) {
	c := nearKept(t, session.Kept{Token: 9})
	c.starts(11, asks(1))
	f := farOf(t, 5, 0, 0)
	if got, e := f.s.Take(c.c.Again(), 21, 0); e != api.OK || !got.Begins {
		t.Errorf("it is answered by %+v, %d", got, e)
	}
}

// P12.2: what may not be told is no Hello, and lets what waits wait.
func TestStartOfWhatMayNotBe(t *testing.T) {
	bad := []resume.Ask{
		{}, asks(1, 1), asks(1, 0), asks(5, 0), asks(5, 5), asks(5, 6), asks(5, 2, 2), asks(5, 3, 2),
		asks(99, 1, 2, 3, 4, 5, 6, 7, 8, 9, 10, 11, 12, 13, 14, 15, 16, 17),
	}
	for _, ask := range bad {
		for _, c := range []near{nearOf(t, 0, 0), nearOf(t, 5, 3)} {
			k := c.c.Kept()
			for range 2 {
				if b, e := c.c.Start(11, ask); e != api.ErrArg || len(b) != 0 {
					t.Errorf("Start of %v is %x, %d, want nothing, ErrArg", ask, b, e)
				}
			}
			c.wantIdle()
			was := c.starts(12, asks(1))
			if b, e := c.c.Start(11, ask); e != api.ErrArg || len(b) != 0 {
				t.Errorf("Start of %v is %x, %d, want nothing, ErrArg", ask, b, e)
			}
			c.wantWaits(was)
			c.wantKept(k)
			c.stays(answerTo(11, 5, 4).bytes(), api.ErrStale)
			c.enters(answerTo(12, 5, 4))
		}
	}
}

// P12.2: the last Hello waits, and none ahead of it.
func TestStartTwice(t *testing.T) {
	c := nearOf(t, 0, 0)
	c.starts(11, asks(1))
	c.starts(12, asks(2, 1))
	c.stays(answerTo(11, 5, 1).bytes(), api.ErrStale)
	c.stays(refuse{0, 0, 11}.bytes(), api.ErrStale)
	c.enters(answerTo(12, 5, 1))
	c.starts(11, asks(2, 1))
	c.starts(11, asks(3, 1, 2))
	c.enters(answerTo(11, 5, 2))
}

// P12.2: Again of one that waits, that does not, and behind each answer.
func TestAgain(t *testing.T) {
	c := nearOf(t, 0, 0)
	c.wantIdle()
	c.starts(11, asks(1))
	c.isRefused(refuse{0, 0, 11}.bytes())
	c.starts(12, asks(1))
	c.stays(refuse{0, 0, 11}.bytes(), api.ErrStale)
	c.enters(answerTo(12, 5, 1))
	c.stays(answerTo(12, 5, 2).bytes(), api.ErrStale)
	c.starts(13, asks(1))
	c.stays(answerTo(12, 5, 2).bytes(), api.ErrStale)
	c.enters(answerTo(13, 5, 4))
	c.wantKept(keptOf(5, 4))
}

// P12.3: a client that waits for nothing takes no answer, to a nonce of 0 neither.
func TestWaitsForNothing(t *testing.T) {
	for _, c := range []near{nearOf(t, 0, 0), nearOf(t, 5, 3)} {
		for _, nonce := range []uint64{0, 11} {
			c.stays(answerTo(nonce, 5, 4).bytes(), api.ErrStale)
			c.stays(refuse{0, 0, nonce}.bytes(), api.ErrStale)
			c.stays(refuse{5, 3, nonce}.bytes(), api.ErrStale)
		}
		c.starts(11, asks(1))
		c.isRefused(refuse{5, 3, 11}.bytes())
		c.stays(answerTo(11, 5, 4).bytes(), api.ErrStale)
		c.stays(answerTo(0, 5, 4).bytes(), api.ErrStale)
		c.starts(0, asks(1))
		c.stays(answerTo(11, 5, 4).bytes(), api.ErrStale)
		c.enters(answerTo(0, 5, 4))
		c.stays(refuse{5, 3, 0}.bytes(), api.ErrStale)
	}
}

// P12.3: the nonce has to be that of the Hello that waits, to the last bit.
func TestNonceThatWaits(t *testing.T) {
	const nonce = 0x0102030405060708
	c := nearOf(t, 0, 0)
	c.starts(nonce, asks(1))
	for bit := range 64 {
		c.stays(answerTo(nonce^1<<bit, 5, 1).bytes(), api.ErrStale)
		c.stays(refuse{0, 0, nonce ^ 1<<bit}.bytes(), api.ErrStale)
	}
	w := answerTo(nonce, 5, 1)
	w.client, w.server = 21, nonce // the right one at the wrong place
	c.stays(w.bytes(), api.ErrStale)
	c.enters(answerTo(nonce, 5, 1))
}

// P12.3: a Welcome's session: 0, another one than the client knows, its own, and any, if it knows none.
func TestWelcomesSession(t *testing.T) {
	for _, session := range []uint32{1, 5, math.MaxUint32} {
		c := nearOf(t, 0, 0)
		c.starts(11, asks(1))
		c.stays(answerTo(11, 0, 1).bytes(), api.ErrStale)
		c.enters(answerTo(11, session, 1))
		c.starts(12, asks(1))
		c.stays(answerTo(12, 0, 2).bytes(), api.ErrStale)
		c.stays(answerTo(12, session-1, 2).bytes(), api.ErrStale)
		c.stays(answerTo(12, session+1, 2).bytes(), api.ErrStale)
		c.enters(answerTo(12, session, 2))
	}
}

// P12.3: a Welcome's epoch has to be above the client's, 0 of one that knows none.
func TestWelcomesEpoch(t *testing.T) {
	for _, k := range []session.Kept{{}, keptOf(5, 1), keptOf(5, 3), keptOf(5, math.MaxUint32-1), keptOf(5, math.MaxUint32)} {
		for _, epoch := range []uint32{0, 1, 2, 3, 4, 5, math.MaxUint32 - 1, math.MaxUint32} {
			c := nearKept(t, k)
			c.starts(11, asks(1))
			if epoch > k.Epoch {
				c.enters(answerTo(11, 5, epoch))
			} else {
				c.stays(answerTo(11, 5, epoch).bytes(), api.ErrStale)
			}
		}
	}
}

// P12.3: a Welcome that comes twice is taken once.
func TestWelcomeTwice(t *testing.T) {
	c := nearOf(t, 5, 3)
	c.starts(11, asks(1))
	c.enters(answerTo(11, 5, 4))
	c.stays(answerTo(11, 5, 4).bytes(), api.ErrStale)
	c.starts(11, asks(1)) // the same nonce: the epoch still tells that it is late
	c.stays(answerTo(11, 5, 4).bytes(), api.ErrStale)
	c.enters(answerTo(11, 5, 5))
}

// P12.3: a token, a nonce and a last id are kept, and told, whatever they are.
func TestWelcomeTells(t *testing.T) {
	for _, w := range []welcome{
		{5, 4, 11, 0, 0, 0},
		{5, 4, 11, math.MaxUint64, math.MaxUint64, math.MaxUint32},
		{5, math.MaxUint32, 11, 11, 11, 11},
		{5, 4, 11, 0x0102030405060708, 0x1112131415161718, 0x21222324},
	} {
		c := nearOf(t, 5, 3)
		c.starts(11, asks(1))
		c.enters(w)
		if c.starts(12, asks(1)); c.c.Kept().Token != w.token {
			t.Errorf("the token is %x, want %x", c.c.Kept().Token, w.token)
		}
	}
}

// P12.3: a Refuse of the nonce that waits, of whatever session and epoch, and of an earlier one; what is kept stays.
func TestRefused(t *testing.T) {
	for _, k := range []session.Kept{{}, keptOf(5, 3), {Session: 5, Epoch: 3}} {
		for _, r := range []refuse{{0, 0, 12}, {5, 3, 12}, {6, 9, 12}, {0, 1, 12}, {5, 2, 12}} {
			c := nearKept(t, k)
			c.starts(11, asks(1))
			c.starts(12, asks(1))
			c.stays(refuse{r.session, r.epoch, 11}.bytes(), api.ErrStale)
			c.isRefused(r.bytes())
			c.stays(r.bytes(), api.ErrStale)
			c.starts(13, asks(1))
			c.stays(r.bytes(), api.ErrStale)
			c.enters(answerTo(13, 5, 4))
		}
	}
}

// P12.2, P12.3: all of no client, and of one that NewClient did not make.
func TestNoClient(t *testing.T) {
	failed, _ := session.NewClient(nil, session.Kept{})
	for _, c := range []*session.Client{nil, {}, new(session.Client), failed} {
		for _, ask := range []resume.Ask{asks(1), {}} {
			if b, e := c.Start(11, ask); e != api.ErrNil || len(b) != 0 {
				t.Errorf("Start is %x, %d, want nothing, ErrNil", b, e)
			}
		}
		for _, b := range [][]byte{nil, []byte("no frame"), answerTo(11, 5, 1).bytes(), refuse{0, 0, 0}.bytes(), gram{kind: dataKind}.bytes()} {
			if got, e := c.Take(b); e != api.ErrNil || got != (session.Begin{}) {
				t.Errorf("Take is %+v, %d, want nothing, ErrNil", got, e)
			}
		}
		if len(c.Again()) != 0 || c.Waits() || c.Kept() != (session.Kept{}) {
			t.Error("none waits, or keeps something")
		}
	}
}
