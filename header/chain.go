package header

import (
	"slabvault/api"
	"slabvault/check"
	"slabvault/extent"
	"slabvault/octet"
)

// chain is what has been read of a chain of blocks.
type chain struct {
	file   []byte
	used   []api.Extent
	total  int // the Sizes of used
	stream []byte
}

// readChain tells the bytes of the stream that the blocks from first on have, and their extents. It panics with the Errno of the first fault.
func readChain(b []byte, first api.Extent) ([]byte, []api.Extent) {
	// No extent that may be reaches beyond MaxFile, so what stands there is of no account.
	c := chain{file: b[:min(len(b), api.MaxFile)]}
	for next := first; next != noExtent; {
		c.enter(next)
		next = c.readBlock(next)
	}
	c.wantApart()
	return c.stream, c.used
}

// enter takes the extent of a block among those of the chain.
//
// Whether they meet is not asked of each one, which would take too long in a long chain, but where the chain ends, where it would else be told that the bytes end, and where they must meet, being more than the file: all other faults are the same Errno as this.
func (c *chain) enter(x api.Extent) {
	c.used = append(c.used, x)
	c.total += x.Size
	if x.Size > len(c.file)-x.At {
		c.wantApart()
		panic(api.ErrShort)
	}
	if c.total > len(c.file) {
		panic(api.ErrCorrupt)
	}
}

// wantApart gives up, if two extents of the chain have a byte in common.
func (c *chain) wantApart() {
	if extent.Meets(c.used) {
		panic(api.ErrCorrupt)
	}
}

// readBlock takes the bytes of the stream from the block of an extent within the file, and tells the next one's extent.
func (c *chain) readBlock(x api.Extent) api.Extent {
	plain, e := check.Unseal(c.file[x.At : x.At+x.Size])
	if e != api.OK {
		panic(api.ErrCorrupt)
	}
	count := numberAt(plain, 0)
	next := api.Extent{At: numberAt(plain, numberWidth), Size: numberAt(plain, 2*numberWidth)}
	room := plain[headWidth:]
	if count < 1 || count > len(room) || !isNoughts(room[count:]) {
		panic(api.ErrCorrupt)
	}
	if next != noExtent && (count < len(room) || isTooNarrow(next)) {
		panic(api.ErrCorrupt)
	}
	c.stream = append(c.stream, room[:count]...)
	return next
}

// readMessages tells the messages of a stream. It panics with ErrCorrupt, if no messages that may be have it.
func readMessages(stream []byte) []api.Message {
	count, at := numberAt(stream, 0), numberWidth
	if count > api.MaxItems {
		panic(api.ErrCorrupt)
	}
	var l []api.Message
	// No room is made for so many ahead: a count that is too great is found out where the stream ends.
	for range count {
		m := api.Message{Kind: numberAt(stream, at)}
		x, next, e := octet.GetBytes(stream, at+numberWidth)
		if e != api.OK || isOfNoKind(m) {
			panic(api.ErrCorrupt)
		}
		m.Bytes = x
		l = append(l, m)
		at = next
	}
	if at != len(stream) {
		panic(api.ErrCorrupt)
	}
	return l
}

// numberAt tells the number at a place. It panics with ErrCorrupt, if the bytes end within it.
func numberAt(b []byte, at int) int {
	u, e := octet.Get(b, at, numberWidth, true)
	if e != api.OK {
		panic(api.ErrCorrupt)
	}
	return int(u)
}

// isNoughts says whether all bytes are 0.
func isNoughts(b []byte) bool {
	for _, x := range b {
		if x != 0 {
			return false
		}
	}
	return true
}
