package wire

// turned is the divisor of the sum, its lowest power in the highest bit.
const turned = 0xEDB88320

// Sum of all bytes.
func Sum(s string) uint32 {
	table := remainders()
	sum := ^uint32(0)
	for i := range len(s) {
		sum ^= uint32(s[i])
		sum = sum>>4 ^ table[sum&15]
		sum = sum>>4 ^ table[sum&15]
	}
	return ^sum
}

// remainders: what four steps to the right join to a sum, by the four bits that
// go out. Four bits and not eight, since the array is made anew for each sum and
// most texts that are summed are short.
func remainders() [16]uint32 {
	var table [16]uint32
	for i := range table {
		r := uint32(i)
		for range 4 {
			out := r & 1
			r >>= 1
			if out == 1 {
				r ^= turned
			}
		}
		table[i] = r
	}
	return table
}
