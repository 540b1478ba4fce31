package record

// modulus: the greatest prime number below 65536.
const modulus = 65521

// sum gives the check sum of bytes (P15).
func sum(bytes []byte) uint32 {
	a, b := uint32(1), uint32(0)
	for _, c := range bytes {
		a = (a + uint32(c)) % modulus
		b = (b + a) % modulus
	}
	return b<<16 + a
}
