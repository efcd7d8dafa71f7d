package value

// Like: is the pattern like s?
func Like(s, pattern string) bool {
	at, in := 0, 0        // how far s is stood for, by how much of the pattern
	again, behind := 0, 0 // up to where the last % stands for it, and where the pattern goes on behind that % (0: none yet)
	for at < len(s) {
		switch {
		case in < len(pattern) && pattern[in] == '%':
			in++
			// Only the last % is ever gone back to: the ones ahead of it need stand for no more than they do.
			again, behind = at, in
		case in < len(pattern) && standsFor(pattern[in], s[at]):
			at++
			in++
		case behind > 0:
			again++
			at, in = again, behind
		default:
			return false
		}
	}
	for in < len(pattern) && pattern[in] == '%' {
		in++
	}
	return in == len(pattern)
}

// standsFor: does a byte of a pattern, other than %, stand for the byte c?
func standsFor(p, c byte) bool {
	return p == '_' || small(p) == small(c)
}

// small is a letter from A to Z as that from a to z; any other byte as it is.
func small(c byte) byte {
	if 'A' <= c && c <= 'Z' {
		return c - 'A' + 'a'
	}
	return c
}

// large is a letter from a to z as that from A to Z; any other byte as it is.
func large(c byte) byte {
	if 'a' <= c && c <= 'z' {
		return c - 'a' + 'A'
	}
	return c
}
