package disk

import "tally/api"

// power counts the strokes, and says what goes wrong at them.
type power struct {
	off     bool
	strokes int // since New or Load
	ahead   int // of these, the ones ahead of the plan
	plan    api.Plan
}

// Plan says what is to go wrong.
func (d *Disk) Plan(p api.Plan) {
	if d.power.off {
		return
	}
	d.power.plan = p
	d.power.ahead = d.power.strokes
}

// Strokes tells how many strokes there have been.
func (d *Disk) Strokes() int {
	return d.power.strokes
}

// now is the stroke under way, as the plan counts.
func (p *power) now() int {
	return p.strokes - p.ahead
}

// stroke counts one more; ErrDiskOff, if the power goes off at it.
func (p *power) stroke() api.Errno {
	p.strokes++
	if p.now() == p.plan.Off {
		p.off = true
		return api.ErrDiskOff
	}
	return api.OK
}

// isFull tells whether the plan refuses an Append at the stroke under way.
func (p *power) isFull() bool {
	return p.plan.FullFrom >= 1 && p.plan.FullFrom <= p.now() && p.now() <= p.plan.FullTo
}
