package field

// Curve stands for the polynomials of a degree below the number of its points:
// by their values at the points it tells their values elsewhere.
type Curve struct {
	points []uint16
	scales []uint16 // for each point: 1 over its differences from all others
}

// Through answers the curve with these points; no two may be the same.
func Through(points []uint16) Curve {
	curve := Curve{
		points: append([]uint16{}, points...),
		scales: make([]uint16, len(points)),
	}
	for i := range points {
		curve.scales[i] = Inverse(differences(points, i))
	}
	return curve
}

// differences multiplies the differences of point i from all the others.
func differences(points []uint16, i int) uint16 {
	product := uint16(1)
	for k, point := range points {
		if k != i {
			product = Times(product, points[i]^point)
		}
	}
	return product
}

// Weights answers, for each point, how often the value there counts in the
// value at the given number.
func (c Curve) Weights(at uint16) []uint16 {
	weights := append([]uint16{}, c.scales...)
	// Each weight lacks its own point's difference only. Two walks that multiply
	// what is ahead and what is behind spare dividing, so a number that is
	// itself a point needs no case of its own.
	ahead := uint16(1)
	for i := range weights {
		weights[i] = Times(weights[i], ahead)
		ahead = Times(ahead, at^c.points[i])
	}
	behind := uint16(1)
	for i := len(weights) - 1; i >= 0; i-- {
		weights[i] = Times(weights[i], behind)
		behind = Times(behind, at^c.points[i])
	}
	return weights
}
