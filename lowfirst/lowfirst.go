// Package lowfirst lays numbers as so many bytes, the lowest byte first.
package lowfirst

// Bytes are a number's lowest ones, so many.
func Bytes(n, size int) string {
	var s []byte
	for range size {
		s = append(s, byte(n))
		n >>= 8
	}
	return string(s)
}

// Number is the one that has these bytes, eight at most.
func Number(s string) int {
	n := 0
	for i := range len(s) {
		n |= int(s[i]) << (8 * i)
	}
	return n
}
