package match

// appendTokens tells the tokens of bytes.
func appendTokens(out, b []byte) []byte {
	run := 0
	for at := 0; at < len(b); {
		count, back := longest(b, at)
		if count < minCopy {
			at++
			continue
		}
		out = appendRuns(out, b[run:at])
		out = append(out, byte(copyMark+count-minCopy), byte(back))
		at += count
		run = at
	}
	return appendRuns(out, b[run:])
}

// appendRuns tells bytes by as few runs as there may be.
func appendRuns(out, b []byte) []byte {
	for len(b) > 0 {
		count := min(len(b), maxRun)
		out = append(out, byte(count-1))
		out = append(out, b[:count]...)
		b = b[count:]
	}
	return out
}

// longest tells how many bytes from a place on a copy has at most, and the least distance at which so many stand. It stops at the longest copy that there may be, because no farther one is better.
func longest(b []byte, at int) (count, back int) {
	for d := 1; d <= min(at, maxBack) && count < maxCopy; d++ {
		if n := alike(b, at, d); n > count {
			count, back = n, d
		}
	}
	return count, back
}

// alike tells how many bytes from a place on are those that stand back places ahead of each.
func alike(b []byte, at, back int) int {
	end := min(len(b), at+maxCopy)
	for p := at; p < end; p++ {
		if b[p] != b[p-back] {
			return p - at
		}
	}
	return end - at
}
