package turn

// A quotient of two constants is exact till it is laid into its array, and is so rounded once, as one division would be.

// sines are the quotients of 1 and 1!, 3!, 5!, up to 17!, every second one turned.
func sines() [9]float64 {
	return [9]float64{
		1, -1.0 / 6, 1.0 / 120, -1.0 / 5040, 1.0 / 362880,
		-1.0 / 39916800, 1.0 / 6227020800, -1.0 / 1307674368000, 1.0 / 355687428096000,
	}
}

// cosines are the quotients of 1 and 0!, 2!, 4!, up to 16!, every second one turned.
func cosines() [9]float64 {
	return [9]float64{
		1, -1.0 / 2, 1.0 / 24, -1.0 / 720, 1.0 / 40320,
		-1.0 / 3628800, 1.0 / 479001600, -1.0 / 87178291200, 1.0 / 20922789888000,
	}
}

// tangents are the quotients of 1 and 1, 3, 5, up to 47, every second one turned.
func tangents() [24]float64 {
	return [24]float64{
		1, -1.0 / 3, 1.0 / 5, -1.0 / 7, 1.0 / 9, -1.0 / 11, 1.0 / 13, -1.0 / 15,
		1.0 / 17, -1.0 / 19, 1.0 / 21, -1.0 / 23, 1.0 / 25, -1.0 / 27, 1.0 / 29, -1.0 / 31,
		1.0 / 33, -1.0 / 35, 1.0 / 37, -1.0 / 39, 1.0 / 41, -1.0 / 43, 1.0 / 45, -1.0 / 47,
	}
}

// fold works a row out at z, from its last number down to its first.
func fold(row []float64, z float64) float64 {
	last := len(row) - 1
	p := row[last]
	for k := last - 1; k >= 0; k-- {
		p = float64(p*z) + row[k]
	}
	return p
}
