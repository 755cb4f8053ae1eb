package disk

import "tally/api"

// Crash tells what would be left, were the power off now.
func (d *Disk) Crash(picks []int) []api.FileBytes {
	left := d.names.after(pick(picks, 0, len(d.names.moves)))
	img := make([]api.FileBytes, len(left))
	for i, name := range sorted(left) {
		f := left[name]
		img[i] = api.FileBytes{Name: name, Data: f.after(pick(picks, i+1, f.units()))}
	}
	return img
}

// pick tells how many of so many changes the pick at i leaves.
func pick(picks []int, i, changes int) int {
	if i >= len(picks) {
		return 0
	}
	ways := changes + 1
	return (picks[i]%ways + ways) % ways
}
