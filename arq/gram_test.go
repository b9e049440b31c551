package arq_test

import (
	"bytes"
	"crypto/hmac"
	"crypto/sha256"
	"encoding/binary"
	"hash/crc32"

	"longwire/arq"
	"longwire/seal"
)

// The kinds of frames.
const (
	hello   = 1
	welcome = 2
	data    = 3
	ack     = 4
	refuse  = 5
)

// gram is what a datagram tells; its bytes are made from the words of the chapters, by the standard library.
type gram struct {
	kind                              byte
	session, epoch, number, ack, mask uint32
	payload                           string
}

// dataOf tells a Data datagram of config's session and epoch.
func dataOf(number, ack, mask uint32, payload string) gram {
	return gram{data, config().Session, config().Epoch, number, ack, mask, payload}
}

// ackOf tells an Ack datagram of config's session and epoch.
func ackOf(told, mask uint32) gram {
	return gram{kind: ack, session: config().Session, epoch: config().Epoch, ack: told, mask: mask}
}

// signed tells what is signed of it.
func (g gram) signed() []byte {
	b := []byte{g.kind}
	for _, n := range []uint32{g.session, g.epoch, g.number, g.ack, g.mask} {
		b = binary.BigEndian.AppendUint32(b, n)
	}
	b = binary.BigEndian.AppendUint16(b, uint16(len(g.payload)))
	return append(b, g.payload...)
}

// tag tells the tag of it by a key.
func (g gram) tag(key seal.Key) uint64 {
	h := hmac.New(sha256.New, key[:])
	h.Write(g.signed())
	return binary.BigEndian.Uint64(h.Sum(nil))
}

// tagged tells the datagram with a tag.
func (g gram) tagged(tag uint64) []byte {
	return checked(binary.BigEndian.AppendUint64(g.signed(), tag))
}

// by tells the datagram with the tag by a key.
func (g gram) by(key seal.Key) []byte {
	return g.tagged(g.tag(key))
}

// in tells the datagram as an end of config takes it.
func (g gram) in() []byte {
	return g.by(config().In)
}

// checked tells bytes with their check behind them.
func checked(b []byte) []byte {
	return binary.BigEndian.AppendUint32(bytes.Clone(b), crc32.ChecksumIEEE(b))
}

// flipped tells a datagram with a bit turned; its check stays as it was.
func flipped(b []byte, bit int) []byte {
	c := bytes.Clone(b)
	c[bit/8] ^= 1 << (bit % 8)
	return c
}

// rechecked tells a datagram with the check that is right for what is ahead of it.
func rechecked(b []byte) []byte {
	return checked(b[:len(b)-4])
}

// config tells what an end is told: all of it is unlike.
func config() arq.Config {
	return arq.Config{
		Session: 0x01020304,
		Epoch:   0x0a0b0c0d,
		Out:     keyOf("out"),
		In:      keyOf("in"),
		Limit:   1000,
		First:   10,
		Most:    30,
	}
}

// keyOf tells a key of a name.
func keyOf(name string) seal.Key {
	return seal.Key(sha256.Sum256([]byte(name)))
}

// across tells what the end at the other side is told: it has both keys the other way round.
func across(c arq.Config) arq.Config {
	c.Out, c.In = c.In, c.Out
	return c
}
