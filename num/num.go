// Package num: numbers as bytes, and cut short: see ../../shared/doc/01-num.md.
package num

import "thresher/api"

const (
	more  = 0x80 // the bit of a byte that has another one behind it
	group = 7    // bits of the number in a byte
	tenth = 9    // where the byte stands that has room for one bit alone
)

// The kinds of shifts are numbers of the face: P1.2 fixes their order.
const (
	left = iota
	rightSigned
	rightPlain
)

func Bytes(n int64) string {
	var b []byte
	u := turn(n)
	for u >= more {
		b = append(b, uint8(u)|more)
		u >>= group
	}
	return string(append(b, uint8(u)))
}

func Take(s string) (n int64, k int, e api.Errno) {
	var u uint64
	for i := range len(s) {
		b := s[i]
		// A greater one would not fit into 64 bits, or go on behind them.
		if i == tenth && b > 1 {
			return 0, 0, api.ErrBad
		}
		u |= uint64(b&^more) << (group * i)
		if b >= more {
			continue
		}
		// The same number has fewer bytes: each is to have one form alone.
		if b == 0 && i > 0 {
			return 0, 0, api.ErrBad
		}
		return turnBack(u), i + 1, api.OK
	}
	return 0, 0, api.ErrCut
}

// turn lays the sign into the lowest bit, so that numbers just below 0 are small, too.
func turn(n int64) uint64 {
	if n < 0 {
		// -2n - 1 is 2n with all bits turned: no overflow, not even for the least n.
		return ^(uint64(n) << 1)
	}
	return uint64(n) << 1
}

func turnBack(u uint64) int64 {
	half := int64(u >> 1)
	if u&1 == 1 {
		return ^half
	}
	return half
}

func Cut(n int64, bits int, signed bool) (int64, api.Errno) {
	if signed {
		return cutSigned(n, bits)
	}
	return cutPlain(n, bits)
}

func cutSigned(n int64, bits int) (int64, api.Errno) {
	switch bits {
	case 8:
		return int64(int8(n)), api.OK
	case 16:
		return int64(int16(n)), api.OK
	case 32:
		return int64(int32(n)), api.OK
	}
	return 0, api.ErrForm
}

func cutPlain(n int64, bits int) (int64, api.Errno) {
	switch bits {
	case 8:
		return int64(uint8(n)), api.OK
	case 16:
		return int64(uint16(n)), api.OK
	case 32:
		return int64(uint32(n)), api.OK
	}
	return 0, api.ErrForm
}

func Shift(n int64, by int64, kind int) (int64, api.Errno) {
	// 2^64 is a multiple of 64: without its sign by leaves the same rest, from 0 on.
	k := uint64(by) % 64
	switch kind {
	case left:
		return n << k, api.OK
	case rightSigned:
		return n >> k, api.OK
	case rightPlain:
		return int64(uint64(n) >> k), api.OK
	}
	return 0, api.ErrForm
}

func Four(n uint32) string {
	return string([]byte{uint8(n >> 24), uint8(n >> 16), uint8(n >> 8), uint8(n)})
}

func TakeFour(s string) (uint32, api.Errno) {
	if len(s) < 4 {
		return 0, api.ErrCut
	}
	return uint32(s[0])<<24 | uint32(s[1])<<16 | uint32(s[2])<<8 | uint32(s[3]), api.OK
}
