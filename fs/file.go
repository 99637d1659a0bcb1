package fs

import "slices"

// file has bytes, of which the first kept ones stay wherever the machine falls.
type file struct {
	data []byte
	kept int
}

// fall leaves of what waits so many bytes, as far as there are so many: they are kept from then on.
func (f *file) fall(stay int) {
	f.kept += min(max(stay, 0), len(f.data)-f.kept)
	f.data = f.data[:f.kept]
}

// turn turns, from the bit at on, those that bits has, as far as they are there.
func (f *file) turn(at int, bits uint32) {
	for i := range min(32, 8*len(f.data)-at) {
		if bits>>i&1 == 1 {
			f.data[(at+i)/8] ^= 1 << ((at + i) % 8)
		}
	}
}

func (f *file) clone() *file {
	return &file{data: slices.Clone(f.data), kept: f.kept}
}
