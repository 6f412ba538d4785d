package match

// What the bytes of tokens leave room for.
const (
	copyMark = 128           // the least first byte of a copy
	maxRun   = copyMark      // a run's first byte is below it, and tells one fewer than there are
	minCopy  = 4             // a shorter one would save nothing, once a run is begun behind it
	maxCopy  = minCopy + 127 // as many as a copy's first byte tells
	maxBack  = 255           // the greatest distance that a byte tells
)

// token is a run or a copy.
type token struct {
	isCopy bool
	count  int    // bytes that it tells
	back   int    // of a copy: how many places ahead of each the same one stands
	run    []byte // of a run: these
}

// firstToken tells the first of tokens, and those behind it; false if it ends early.
func firstToken(b []byte) (t token, rest []byte, whole bool) {
	head, b := int(b[0]), b[1:]
	if head >= copyMark {
		if len(b) == 0 {
			return token{}, nil, false
		}
		return token{isCopy: true, count: head - copyMark + minCopy, back: int(b[0])}, b[1:], true
	}
	count := head + 1
	if len(b) < count {
		return token{}, nil, false
	}
	return token{count: count, run: b[:count]}, b[count:], true
}

// appendTo tells a token's bytes behind those that were told so far. A copy goes byte by byte, because it may reach into itself.
func (t token) appendTo(out []byte) []byte {
	if !t.isCopy {
		return append(out, t.run...)
	}
	for range t.count {
		out = append(out, out[len(out)-t.back])
	}
	return out
}
