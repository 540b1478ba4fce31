// Package wire: numbers as bytes, the highest byte first, on which codec and record stand.
package wire

// AppendNumber writes as many bytes of a number as width says.
func AppendNumber(out []byte, n, width int) []byte {
	for i := range width {
		out = append(out, byte(n>>(8*(width-1-i))))
	}
	return out
}

// Reader reads bytes from their head on.
type Reader struct {
	Rest string // what is not read yet
}

// Number reads a number of this width; of fewer bytes, where fewer are left.
func (r *Reader) Number(width int) int {
	n := 0
	for _, b := range []byte(r.Take(width)) {
		n = n<<8 | int(b)
	}
	return n
}

// Take gives what there is, where less is left than is asked for; of a size below 0, which eight bytes may tell, nothing.
func (r *Reader) Take(size int) string {
	size = max(0, min(size, len(r.Rest)))
	taken := r.Rest[:size]
	r.Rest = r.Rest[size:]
	return taken
}
