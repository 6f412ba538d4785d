package match

import "slabvault/api"

// takeTokens tells the bytes of any tokens, of which the first one at fault says what is wrong with all.
func takeTokens(b []byte, most int) ([]byte, api.Errno) {
	var out []byte
	fault := api.OK
taking:
	for len(b) > 0 {
		t, rest, whole := firstToken(b)
		switch {
		case !whole || t.isCopy && (t.back == 0 || t.back > len(out)):
			fault = api.ErrCorrupt
			break taking
		case t.count > most-len(out):
			fault = api.ErrBig
			break taking
		}
		out, b = t.appendTo(out), rest
	}
	if fault != api.OK {
		return nil, fault
	}
	return out, api.OK
}
