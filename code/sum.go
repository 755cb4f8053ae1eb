package code

// sumSteps tells what the four lowest bits of the register take into the rest as they fall out of it; one bit at a time would take in 0xEDB88320 up to four times.
var sumSteps = [16]uint32{
	0x00000000, 0x1db71064, 0x3b6e20c8, 0x26d930ac,
	0x76dc4190, 0x6b6b51f4, 0x4db26158, 0x5005713c,
	0xedb88320, 0xf00f9344, 0xd6d6a3e8, 0xcb61b38c,
	0x9b64c2b0, 0x86d3d2d4, 0xa00ae278, 0xbdbdf21c,
}

// Sum tells the check sum of bytes.
func Sum(b []byte) uint32 {
	sum := ^uint32(0)
	for _, c := range b {
		// The bits that come are held against those that fall out, so they may be taken in ahead.
		sum ^= uint32(c)
		for range 2 {
			sum = sum>>4 ^ sumSteps[sum&15]
		}
	}
	return ^sum
}
