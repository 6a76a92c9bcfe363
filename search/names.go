package search

// What is handed to these functions has been read from messages: it is a name.

// same tells whether names are equal but for the case of letters. Lengths are no letters: they are too small.
func same(a, b string) bool {
	if len(a) != len(b) {
		return false
	}
	for i := range len(a) {
		if small(a[i]) != small(b[i]) {
			return false
		}
	}
	return true
}

func small(c byte) byte {
	if c >= 'A' && c <= 'Z' {
		return c + 'a' - 'A'
	}
	return c
}

// liesIn tells whether a name is the same as another one, or has it behind some labels.
func liesIn(name, other string) bool {
	for len(name) > len(other) {
		name = name[1+int(name[0]):]
	}
	return same(name, other)
}
