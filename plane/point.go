package plane

import (
	"sort"

	"tally/api"
)

// maxPairs is more pairs of legs than lie within MaxNumber steps: n pairs have more than n times n of them.
const maxPairs = 1 << 20

// Spiral tells the point at which one stands behind k steps on the spiral.
func Spiral(k int) complex128 {
	if k < 0 || k > api.MaxNumber {
		return 0
	}
	pairs := pairsWithin(k)
	steps := k - stepsOf(pairs)
	// The leg that is under way is one step longer than those of the last whole pair; what it does not take goes along the leg behind it.
	first := min(steps, pairs+1)
	leg := 2 * pairs
	return corner(pairs) + along(leg, first) + along(leg+1, steps-first)
}

// pairsWithin tells how many whole pairs of legs lie within k steps.
func pairsWithin(k int) int {
	return sort.Search(maxPairs, func(n int) bool { return stepsOf(n+1) > k })
}

// stepsOf tells the steps of the first so many pairs of legs: a pair's legs are one longer each than those of the pair ahead, so they are twice the sum of 1 to pairs.
func stepsOf(pairs int) int { return pairs * (pairs + 1) }

// corner tells the point behind so many pairs of legs: each goes against the one ahead of it and one step further, so that the corners stand by turns to the right above and to the left below.
func corner(pairs int) complex128 {
	far := float64((pairs + 1) / 2)
	if pairs%2 == 0 {
		far = float64(-pairs / 2)
	}
	return complex(far, far)
}

// along tells how far so many steps of a leg go.
func along(leg, steps int) complex128 {
	return direction(leg) * complex(float64(steps), 0)
}

// direction tells the one step of a leg.
func direction(leg int) complex128 {
	directions := [4]complex128{1, 1i, -1, -1i}
	return directions[leg%len(directions)]
}

// Turn turns a point about the middle by so many quarters to the left.
func Turn(z complex128, quarters int) complex128 {
	// The last two bits tell what is left of whole turns, below 0 too.
	for range quarters & 3 {
		z *= 1i
	}
	// Multiplying can leave a zero with the sign of minus; with 0 added it is a plain one.
	return z + 0
}

// Apart tells the square of the distance of two points.
func Apart(a, b complex128) int {
	d := a - b
	return int(real(d * conjugate(d)))
}

func conjugate(z complex128) complex128 { return complex(real(z), -imag(z)) }
