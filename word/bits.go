package word

const wordBits = 64

// truth is 1 of yes, 0 of no.
func truth(yes bool) int64 {
	if yes {
		return 1
	}
	return 0
}

// bit is a word's bit k.
func bit(a int64, k int) int64 { return a >> k & 1 }

// ones is how many bits are 1.
func ones(a int64) int64 {
	n := int64(0)
	for k := range wordBits {
		n += bit(a, k)
	}
	return n
}

// lead is how many bits stand above the highest 1.
func lead(a int64) int64 {
	for k := range wordBits {
		if bit(a, wordBits-1-k) == 1 {
			return int64(k)
		}
	}
	return wordBits
}

// flip is the bits, the last one first.
func flip(a int64) int64 {
	out := int64(0)
	for k := range wordBits {
		out = out<<1 | bit(a, k)
	}
	return out
}
