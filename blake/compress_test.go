package blake

import "testing"

// P2.1: both halves of the byte count go into a block, and so does whether it is the last one. No string that can be held tells the upper half, so compress itself is called; the numbers are those of another program.
func TestCompressCount(t *testing.T) {
	var m [16]uint32
	for i := range m {
		for j := range 4 {
			m[i] |= uint32(byte((4*i+j)*7+3)) << (8 * j)
		}
	}
	h := initial
	h[0] ^= 0x01010020
	for _, c := range []struct {
		n    uint64
		last bool
		want [8]uint32
	}{
		{0x123456789abcdef0, false, [8]uint32{0x30950ba6, 0x216a849f, 0x48b1c4b7, 0xc270a342, 0xba9c5527, 0xca375857, 0xe3da2caf, 0x825afbe4}},
		{0xfedcba9876543210, true, [8]uint32{0x9ece6db5, 0xac0d8647, 0x89a0bdb8, 0x435fd29e, 0x818deef1, 0xcbb00d0c, 0x3daf8f2e, 0xaba0fa97}},
	} {
		if got := compress(h, m, c.n, c.last); got != c.want {
			t.Errorf("after %#x bytes, last %v: %#x", c.n, c.last, got)
		}
	}
}
