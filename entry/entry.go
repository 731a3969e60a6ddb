// Package entry is layer 1: see the document's chapter.
package entry

import (
	"waymark/api"
)

const (
	mostEntries = 1000
	entryBytes  = 4
)

// Bits of an entry's fields, and how far each is shifted in the entry's word;
// TTL has the lowest ones.
const (
	labelBits = 20
	classBits = 3
	ttlBits   = 8

	lastShift  = ttlBits
	classShift = lastShift + 1
	labelShift = classShift + classBits
)

// Put writes the stack l, 4 bytes an entry.
func Put(l []api.Entry) ([]byte, api.Errno) {
	if !isStack(l) {
		return nil, api.ErrArg
	}
	out := make([]byte, 0, entryBytes*len(l))
	for _, e := range l {
		w := pack(e)
		out = append(out, byte(w>>24), byte(w>>16), byte(w>>8), byte(w))
	}
	return out, api.OK
}

// Get reads back what Put writes.
func Get(b []byte) ([]api.Entry, api.Errno) {
	// The length is looked at ahead, lest long wrong bytes cost much memory.
	if len(b)%entryBytes != 0 || len(b) > mostEntries*entryBytes {
		return nil, api.ErrBytes
	}
	out := make([]api.Entry, 0, len(b)/entryBytes)
	for i := 0; i < len(b); i += entryBytes {
		w := uint32(b[i])<<24 | uint32(b[i+1])<<16 | uint32(b[i+2])<<8 | uint32(b[i+3])
		out = append(out, unpack(w))
	}
	// Four bytes always hold numbers within their bits, so that only a stack
	// of none and the places of Last can still be wrong here.
	if !isStack(out) {
		return nil, api.ErrBytes
	}
	return out, api.OK
}

// isStack tells whether l can be written: neither empty nor too long, all
// numbers within their bits, Last at the last entry and nowhere else.
func isStack(l []api.Entry) bool {
	if len(l) == 0 || len(l) > mostEntries {
		return false
	}
	for i, e := range l {
		if !fits(e.Label, labelBits) || !fits(e.Class, classBits) || !fits(e.TTL, ttlBits) {
			return false
		}
		if e.Last != (i == len(l)-1) {
			return false
		}
	}
	return true
}

func fits(n, bits int) bool {
	return 0 <= n && n < 1<<bits
}

// pack makes the word of an entry whose numbers are within their bits.
func pack(e api.Entry) uint32 {
	w := uint32(e.Label)<<labelShift | uint32(e.Class)<<classShift | uint32(e.TTL)
	if e.Last {
		w |= 1 << lastShift
	}
	return w
}

func unpack(w uint32) api.Entry {
	return api.Entry{
		Label: int(w >> labelShift),
		Class: int(w >> classShift & (1<<classBits - 1)),
		TTL:   int(w & (1<<ttlBits - 1)),
		Last:  w>>lastShift&1 == 1,
	}
}
