package plane_test

import (
	"math"
	"math/rand"
	"testing"

	"tally/api"
	"tally/plane"
)

// far is the greatest part of a near point.
const far = 1 << 25

// parts are numbers at the edges of what a near point's parts may be, and small ones.
var parts = []float64{-far, -far + 1, -1001, -1000, -3, -2, -1, 0, 1, 2, 3, 1000, 1001, far - 1, far}

// drawn makes a near point at random.
func drawn(r *rand.Rand) complex128 {
	return complex(float64(r.Intn(2*far+1)-far), float64(r.Intn(2*far+1)-far))
}

// plain tells whether both parts are whole numbers and no zero has the sign of minus.
func plain(z complex128) bool {
	for _, f := range []float64{real(z), imag(z)} {
		if f != math.Trunc(f) || f == 0 && math.Signbit(f) {
			return false
		}
	}
	return true
}

// edge tells how far out of the middle a point's greater part is.
func edge(z complex128) int {
	return int(max(math.Abs(real(z)), math.Abs(imag(z))))
}

// P3.1: the chapter's examples.
func TestSpiralExamples(t *testing.T) {
	for k, want := range []complex128{0, 1, 1 + 1i, 1i, -1 + 1i, -1, -1 - 1i, -1i, 1 - 1i, 2 - 1i, 2} {
		if z := plane.Spiral(k); z != want {
			t.Errorf("Spiral(%d) = %v, want %v", k, z, want)
		}
	}
	if z := plane.Spiral(24); z != 2-2i {
		t.Errorf("Spiral(24) = %v", z)
	}
	if z := plane.Spiral(25); z != 3-2i {
		t.Errorf("Spiral(25) = %v", z)
	}
}

// P3.1: numbers that are none of the spiral stand in the middle; the last that is one does not.
func TestSpiralEnds(t *testing.T) {
	for _, k := range []int{-1, -2, -api.MaxNumber, math.MinInt, math.MinInt + 1, api.MaxNumber + 1, api.MaxNumber + 2, 2 * api.MaxNumber, math.MaxInt - 1, math.MaxInt} {
		if z := plane.Spiral(k); z != 0 {
			t.Errorf("Spiral(%d) = %v, want 0", k, z)
		}
	}
	for _, c := range []struct {
		k    int
		want complex128
	}{{api.MaxNumber, -(1 << 19) + 1<<19*1i}, {api.MaxNumber - 1, -(1 << 19) + 1 + 1<<19*1i}} {
		if z := plane.Spiral(c.k); z != c.want {
			t.Errorf("Spiral(%d) = %v, want %v", c.k, z, c.want)
		}
	}
}

// P3.1: the spiral walked step by step, as the chapter tells it; no zero has a sign.
func TestSpiralWalked(t *testing.T) {
	x, y, dx, dy := 0, 0, 1, 0
	k := 0
	for leg := 0; leg < 3000; leg++ {
		for range leg/2 + 1 {
			if z := plane.Spiral(k); z != complex(float64(x), float64(y)) || !plain(z) {
				t.Fatalf("Spiral(%d) = %v, want %d, %d", k, z, x, y)
			}
			x, y, k = x+dx, y+dy, k+1
		}
		dx, dy = -dy, dx
	}
}

// P3.1: the corners of the whole spiral, leg by leg, and the steps about them.
func TestSpiralCorners(t *testing.T) {
	x, y, dx, dy := 0, 0, 1, 0
	k := 0
	for leg := 0; k <= api.MaxNumber; leg++ {
		for s := -1; s <= 1; s++ {
			want := complex(float64(x+s*dx), float64(y+s*dy))
			if s < 0 {
				want = complex(float64(x+s*dy), float64(y-s*dx))
			}
			if k == 0 && s < 0 || k+s > api.MaxNumber {
				continue
			}
			if z := plane.Spiral(k + s); z != want {
				t.Fatalf("Spiral(%d) = %v, want %v", k+s, z, want)
			}
		}
		long := leg/2 + 1
		x, y, k = x+long*dx, y+long*dy, k+long
		dx, dy = -dy, dx
	}
}

// P3.2: the chapter's examples, and numbers of quarters at the ends of their type.
func TestTurnExamples(t *testing.T) {
	for _, c := range []struct {
		quarters int
		want     complex128
	}{{0, 2 + 1i}, {1, -1 + 2i}, {2, -2 - 1i}, {3, 1 - 2i}, {4, 2 + 1i}, {5, -1 + 2i}, {-1, 1 - 2i}, {-2, -2 - 1i}, {-3, -1 + 2i}, {-4, 2 + 1i}, {-5, 1 - 2i}, {math.MaxInt, 1 - 2i}, {math.MaxInt - 1, -2 - 1i}, {math.MinInt, 2 + 1i}, {math.MinInt + 1, -1 + 2i}} {
		if z := plane.Turn(2+1i, c.quarters); z != c.want {
			t.Errorf("Turn(2+i, %d) = %v, want %v", c.quarters, z, c.want)
		}
	}
}

// P3.2, P3.6: one quarter takes x to the right and y above to y to the left and x above; four are none; of two turnings together; no zero has a sign.
func TestTurnOfPoints(t *testing.T) {
	r := rand.New(rand.NewSource(3))
	var points []complex128
	for _, x := range parts {
		for _, y := range parts {
			points = append(points, complex(x, y))
		}
	}
	for range 500 {
		points = append(points, drawn(r))
	}
	for _, z := range points {
		if g := plane.Turn(z, 1); g != complex(-imag(z), real(z)) {
			t.Fatalf("Turn(%v, 1) = %v", z, g)
		}
		for p := -9; p <= 9; p++ {
			once := plane.Turn(z, p)
			if !plain(once) {
				t.Fatalf("Turn(%v, %d) = %v", z, p, once)
			}
			if plane.Turn(z, p+4) != once || plane.Turn(z, p-4) != once {
				t.Fatalf("Turn(%v, %d) is another four quarters further", z, p)
			}
			for q := -9; q <= 9; q++ {
				if g, want := plane.Turn(once, q), plane.Turn(z, p+q); g != want {
					t.Fatalf("Turn(Turn(%v, %d), %d) = %v, want %v", z, p, q, g, want)
				}
			}
		}
	}
}

// P3.3: the chapter's example, and the greatest distances of near points.
func TestApartExamples(t *testing.T) {
	for _, c := range []struct {
		a, b complex128
		want int
	}{
		{1 + 2i, 4 - 2i, 25}, {0, 0, 0}, {0, 1, 1}, {1i, 0, 1}, {-1, 1i, 2},
		{far + far*1i, -far - far*1i, 1 << 53}, {far - far*1i, -far + far*1i, 1 << 53},
		{far, -far, 1 << 52}, {far + far*1i, -far - (far-1)*1i, 1<<52 + (1<<26-1)*(1<<26-1)},
		{far + far*1i, -(far - 1) - (far-1)*1i, 2 * (1<<26 - 1) * (1<<26 - 1)},
	} {
		if n := plane.Apart(c.a, c.b); n != c.want {
			t.Errorf("Apart(%v, %v) = %d, want %d", c.a, c.b, n, c.want)
		}
	}
}

// P3.3, P3.6: against whole numbers; the same both ways; 0 just of the same; turning keeps it.
func TestApartOfPoints(t *testing.T) {
	r := rand.New(rand.NewSource(36))
	check := func(a, b complex128) {
		t.Helper()
		x, y := int(real(a))-int(real(b)), int(imag(a))-int(imag(b))
		n := plane.Apart(a, b)
		if n != x*x+y*y || plane.Apart(b, a) != n || (n == 0) != (a == b) || n < 0 {
			t.Fatalf("Apart(%v, %v) = %d, the other way %d, want %d", a, b, n, plane.Apart(b, a), x*x+y*y)
		}
		for q := -4; q <= 4; q++ {
			if g := plane.Apart(plane.Turn(a, q), plane.Turn(b, q)); g != n {
				t.Fatalf("Apart(%v, %v) turned by %d = %d, want %d", a, b, q, g, n)
			}
		}
	}
	for range 20000 {
		a, b := drawn(r), drawn(r)
		check(a, b)
		check(a, a)
		check(a, complex(real(a), imag(b)))
	}
	for _, x := range parts {
		for _, y := range parts {
			for range 20 {
				check(complex(x, y), complex(parts[r.Intn(len(parts))], parts[r.Intn(len(parts))]))
			}
		}
	}
}

// P3.5: each step is one long.
func TestSpiralSteps(t *testing.T) {
	one := func(k int) {
		t.Helper()
		if n := plane.Apart(plane.Spiral(k), plane.Spiral(k+1)); n != 1 {
			t.Fatalf("Spiral(%d) and the next are %d apart", k, n)
		}
	}
	for k := range 100000 {
		one(k)
		one(api.MaxNumber - 1 - k)
	}
	r := rand.New(rand.NewSource(35))
	for range 200000 {
		one(r.Intn(api.MaxNumber))
	}
}

// P3.5: the points that are at most 1000 from the middle are the first 2001 times 2001 of the spiral, each once; all later ones are further out.
func TestSpiralTellsEachOnce(t *testing.T) {
	const width = 2001
	seen := make([]bool, width*width)
	for k := range width * width {
		z := plane.Spiral(k)
		if edge(z) > 1000 {
			t.Fatalf("Spiral(%d) = %v", k, z)
		}
		at := (int(real(z))+1000)*width + int(imag(z)) + 1000
		if seen[at] {
			t.Fatalf("Spiral(%d) = %v is told twice", k, z)
		}
		seen[at] = true
	}
	// Behind n times n points the square of n by n is full: the next stands outside of it.
	for n := width; n*n <= api.MaxNumber; n += 2 {
		for _, k := range []int{n * n, n*n + n/2, n*n + n, n*n + 2*n, n*n + 3*n, min(n*n+4*n+3, api.MaxNumber)} {
			if z := plane.Spiral(min(k, api.MaxNumber)); edge(z) != n/2+1 {
				t.Fatalf("Spiral(%d) = %v", k, z)
			}
		}
	}
}

// R1: points that are not near: each call ends.
func TestFarPoints(t *testing.T) {
	odd := []float64{math.NaN(), math.Inf(1), math.Inf(-1), math.MaxFloat64, -math.MaxFloat64, math.SmallestNonzeroFloat64, 0.5, math.Copysign(0, -1), far + 1}
	for _, x := range odd {
		for _, y := range odd {
			z := complex(x, y)
			plane.Turn(z, 3)
			plane.Apart(z, 1)
			plane.Apart(1, z)
			plane.Apart(z, z)
		}
	}
}
