package mux_test

import (
	"bytes"
	"encoding/binary"
	"fmt"
	"slices"
	"strings"
	"testing"

	"longwire/api"
	"longwire/arq"
	"longwire/mux"
	"longwire/seal"
)

// The channels, by the chapter's words.
const (
	command = 0
	signal  = 1
	stdout  = 2
	stderr  = 3
	status  = 4
)

// latest is the latest tick that there is.
const latest = 1 << 40

// config tells what a client's end is told.
func config() arq.Config {
	return arq.Config{
		Session: 7,
		Epoch:   2,
		Out:     keyOf("up"),
		In:      keyOf("down"),
		First:   10,
		Most:    30,
	}
}

// keyOf tells a key of a name.
func keyOf(name string) seal.Key {
	var k seal.Key
	copy(k[:], name)
	return k
}

// across tells what the end at the other side is told.
func across(c arq.Config) arq.Config {
	c.Out, c.In = c.In, c.Out
	return c
}

// endOf tells an end with so many numbers.
func endOf(t *testing.T, c arq.Config, numbers uint32) *arq.End {
	t.Helper()
	c.Limit = numbers
	e, err := arq.New(c)
	if err != api.OK {
		t.Fatalf("no end: %d", err)
	}
	return e
}

// bench is a mux, its very end, and the bare end at the other side.
type bench struct {
	t          *testing.T
	m          *mux.Mux
	own, other *arq.End
	now        int64
}

// benchOf tells a bench with a new mux.
func benchOf(t *testing.T, side, limit int) *bench {
	t.Helper()
	return benchWith(t, side, limit, 100000)
}

// benchWith tells a bench whose mux has an end of so many numbers.
func benchWith(t *testing.T, side, limit int, numbers uint32) *bench {
	t.Helper()
	own, other := endOf(t, config(), numbers), endOf(t, across(config()), 100000)
	m, err := mux.New(side, limit, own)
	if m == nil || err != api.OK {
		t.Fatalf("New(%d, %d) is %v, %d", side, limit, m, err)
	}
	return &bench{t, m, own, other, 0}
}

// lineOf tells two benches whose muxes have each other's keys: Up, and Down. The bare ends stay unused.
func lineOf(t *testing.T, limit int) (up, down *bench) {
	t.Helper()
	up, down = benchOf(t, mux.Up, limit), benchOf(t, mux.Down, limit)
	down.own, down.other = down.other, down.own
	m, err := mux.New(mux.Down, limit, down.own)
	want(t, "New", err, api.OK)
	down.m = m
	return up, down
}

// through brings all that one side sends now to the other one, and acks back, and tells what comes out.
func through(t *testing.T, from, to *bench) []mux.Message {
	t.Helper()
	var all []mux.Message
	for range 10 {
		datagrams, err := from.m.Frames(from.now)
		want(t, "Frames", err, api.OK)
		for _, d := range datagrams {
			l, err := to.m.Take(d)
			want(t, "Take", err, api.OK)
			all = append(all, l...)
		}
		for _, d := range to.own.Frames(to.now) {
			_, err := from.m.Take(d)
			want(t, "Take of an ack", err, api.OK)
		}
	}
	return all
}

// in tells the datagrams by which the other side sends payloads now.
func (b *bench) in(payloads ...string) [][]byte {
	b.t.Helper()
	for _, p := range payloads {
		if err := b.other.Send([]byte(p), b.now); err != api.OK {
			b.t.Fatalf("the other end refuses a payload of %d bytes: %d", len(p), err)
		}
	}
	return b.other.Frames(b.now)
}

// atOnce brings the payloads to the mux, in such an order of datagrams that one call of Take has all of them to tell.
func (b *bench) atOnce(payloads ...string) ([]mux.Message, api.Errno) {
	b.t.Helper()
	datagrams := b.in(payloads...)
	for k := len(datagrams) - 1; k > 0; k-- {
		l, err := b.m.Take(datagrams[k])
		if len(l) != 0 || err != api.OK {
			b.t.Fatalf("Take ahead of its turn is %v, %d", l, err)
		}
	}
	return b.m.Take(datagrams[0])
}

// take brings the payloads to the mux one by one, which all must be OK, and tells what comes out; the other side's window is empty behind it.
func (b *bench) take(payloads ...string) []mux.Message {
	b.t.Helper()
	var all []mux.Message
	for _, p := range payloads {
		for _, d := range b.in(p) {
			l, err := b.m.Take(d)
			if err != api.OK {
				b.t.Fatalf("Take of %.20q is %d", p, err)
			}
			all = append(all, l...)
		}
		for _, d := range b.own.Frames(b.now) {
			b.other.Take(d)
		}
	}
	return all
}

// sent tells the payloads that the other side has of all that the mux sends now, and acks them.
func (b *bench) sent(err api.Errno) []string {
	b.t.Helper()
	datagrams, got := b.m.Frames(b.now)
	want(b.t, "Frames", got, err)
	var all []string
	for _, d := range datagrams {
		l, err := b.other.Take(d)
		want(b.t, "the other end's Take", err, api.OK)
		for _, p := range l {
			all = append(all, string(p))
		}
	}
	for _, d := range b.other.Frames(b.now) {
		_, err := b.m.Take(d)
		want(b.t, "Take of an ack", err, api.OK)
	}
	return all
}

// wantSent asks for the payloads that the mux sends now.
func (b *bench) wantSent(payloads ...string) {
	b.t.Helper()
	if got := b.sent(api.OK); !slices.Equal(got, payloads) {
		b.t.Fatalf("payloads %.300q, want %.300q", got, payloads)
	}
}

// want asks for the error of a call.
func want(t *testing.T, call string, got, e api.Errno) {
	t.Helper()
	if got != e {
		t.Fatalf("%s is %d, want %d", call, got, e)
	}
}

// lefts is a number for each channel.
type lefts [5]int

// counts is what a mux tells of itself.
type counts struct {
	left, held   lefts
	idle, broken bool
	waits        int
}

// countsOf tells what a mux tells of itself.
func countsOf(m *mux.Mux) counts {
	c := counts{idle: m.Idle(), broken: m.Broken(), waits: m.Waits()}
	for channel := range c.left {
		c.left[channel], c.held[channel] = m.Left(channel), m.Held(channel)
	}
	return c
}

// wantCounts holds what a mux tells of itself against what it must be; of what is no channel nothing is told.
func wantCounts(t *testing.T, m *mux.Mux, c counts) {
	t.Helper()
	if got := countsOf(m); got != c {
		t.Fatalf("counts %v, want %v", got, c)
	}
	for _, channel := range []int{-1 << 63, -256, -1, 5, 6, 255, 256, 1<<32 + 2, 1<<63 - 1} {
		if m.Left(channel) != 0 || m.Held(channel) != 0 {
			t.Fatalf("of channel %d %d is left, %d held", channel, m.Left(channel), m.Held(channel))
		}
	}
}

// wantGrams holds datagrams against what they must be.
func wantGrams(t *testing.T, got, want [][]byte) {
	t.Helper()
	if !slices.EqualFunc(got, want, bytes.Equal) {
		t.Fatalf("datagrams %x, want %x", got, want)
	}
}

// wantMessages holds messages against what they must be.
func wantMessages(t *testing.T, got []mux.Message, want ...mux.Message) {
	t.Helper()
	if !slices.EqualFunc(got, want, same) {
		t.Fatalf("messages %q, want %q", shown(got), shown(want))
	}
}

// shown tells messages as short texts.
func shown(l []mux.Message) []string {
	var s []string
	for _, x := range l {
		s = append(s, fmt.Sprintf("%d: %d bytes, %.20q", x.Channel, len(x.Body), x.Body))
	}
	return s
}

// same tells whether two messages are alike; a body of none may be told in both ways.
func same(x, y mux.Message) bool {
	return x.Channel == y.Channel && bytes.Equal(x.Body, y.Body)
}

// message tells a message of so many bytes, which are unlike their neighbours.
func message(channel, long int) mux.Message {
	b := make([]byte, long)
	for k := range b {
		b[k] = byte(k + k>>8 + channel)
	}
	return mux.Message{Channel: channel, Body: b}
}

// part tells the payload of a part.
func part(channel int, last byte, piece string) string {
	return string([]byte{byte(channel), last}) + piece
}

// grant tells the payload of a grant.
func grant(channel int, total uint64) string {
	return string(binary.BigEndian.AppendUint64([]byte{5, byte(channel)}, total))
}

// partsOf tells the payloads of a message's parts.
func partsOf(x mux.Message) []string {
	var l []string
	for at := 0; at == 0 || at < len(x.Body); at += 254 {
		end := min(at+254, len(x.Body))
		last := byte(0)
		if end == len(x.Body) {
			last = 1
		}
		l = append(l, part(x.Channel, last, string(x.Body[at:end])))
	}
	return l
}

// long tells a text of so many bytes.
func long(n int) string {
	return strings.Repeat("x", n)
}
