package frame

// turner is put together with what was odd and is halved.
const turner = 3988292384

// halve is one of the eight steps that a sum takes for a byte.
func halve(x uint32) uint32 {
	return x>>1 ^ turner&-(x&1)
}

// steps tells what four halvings make of each number of four bits. It is made anew for each sum: of whole bytes it would take longer to make than most sums that go by it.
func steps() (t [16]uint32) {
	for i := range t {
		t[i] = halve(halve(halve(halve(uint32(i)))))
	}
	return t
}

// Sum is the sum of bytes.
func Sum(b []byte) uint32 {
	t := steps()
	s := ^uint32(0)
	for _, c := range b {
		s ^= uint32(c)
		s = s>>4 ^ t[s&15]
		s = s>>4 ^ t[s&15]
	}
	return ^s
}
