package wal

import "stile/api"

// A frame's head is two whole numbers: the record's length, and its CRC. Each frame has a multiple of the head's bytes, so that a head never stands in two sectors.
const (
	wholeBytes = 4
	headBytes  = 2 * wholeBytes
)

// polynomial is IEEE 802.3's, its lowest term in the highest bit.
const polynomial = 0xedb88320

// frameBytes is how many bytes the frame of a record of so many has.
func frameBytes(record int) int {
	return headBytes + (record+headBytes-1)/headBytes*headBytes
}

func appendFrame(frames, record []byte) []byte {
	end := len(frames) + frameBytes(len(record))
	frames = appendWhole(frames, uint32(len(record)))
	frames = appendWhole(frames, crc(record))
	frames = append(frames, record...)
	return append(frames, make([]byte, end-len(frames))...)
}

// nextRecord is the record of the frame that is taken next, or none if no right frame is.
func nextRecord(take func(n int) []byte) []byte {
	head := take(headBytes)
	if head == nil {
		return nil
	}
	length, sum := whole(head), whole(head[wholeBytes:])
	if length < 1 || length > api.MaxRecord {
		return nil
	}
	body := take(frameBytes(int(length)) - headBytes)
	if body == nil {
		return nil
	}
	record, rest := body[:length], body[length:]
	if crc(record) != sum || !isBlank(rest) {
		return nil
	}
	return record
}

func isBlank(b []byte) bool {
	for _, c := range b {
		if c != 0 {
			return false
		}
	}
	return true
}

func appendWhole(b []byte, n uint32) []byte {
	for i := range wholeBytes {
		b = append(b, byte(n>>(8*i)))
	}
	return b
}

func whole(b []byte) uint32 {
	var n uint32
	for i := range wholeBytes {
		n |= uint32(b[i]) << (8 * i)
	}
	return n
}

func crc(b []byte) uint32 {
	sum := ^uint32(0)
	for _, c := range b {
		sum ^= uint32(c)
		for range 8 {
			if sum&1 == 1 {
				sum = sum>>1 ^ polynomial
			} else {
				sum >>= 1
			}
		}
	}
	return ^sum
}
