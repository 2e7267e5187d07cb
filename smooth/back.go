package smooth

import (
	"lookout/api"
	"lookout/state"
)

// stepBack makes the step back to s from what is known of the state dt seconds behind it. How much of that counts for s hangs on s alone, so it is reckoned once and kept in the step.
func stepBack(s api.State, dt, sway float64) func(n api.State) api.State {
	p := state.Ahead(s, dt, sway)
	d := float64(p.PXX*p.PVV) - float64(p.PXV*p.PXV)
	if !(d > 0) || !finite(d) {
		return func(api.State) api.State { return s }
	}
	gains := func(m1, m2 float64) (c1, c2 float64) {
		c1 = (float64(m1*p.PVV) - float64(m2*p.PXV)) / d
		c2 = (float64(m2*p.PXX) - float64(m1*p.PXV)) / d
		return c1, c2
	}
	c11, c12 := gains(s.PXX+float64(dt*s.PXV), s.PXV)
	c21, c22 := gains(s.PXV+float64(dt*s.PVV), s.PVV)
	return func(n api.State) api.State {
		ex, ev := n.X-p.X, n.V-p.V
		exx, exv, evv := n.PXX-p.PXX, n.PXV-p.PXV, n.PVV-p.PVV
		t11, t12 := products(c11, exx, c12, exv), products(c11, exv, c12, evv)
		t21, t22 := products(c21, exx, c22, exv), products(c21, exv, c22, evv)
		r := api.State{
			X:   s.X + products(c11, ex, c12, ev),
			V:   s.V + products(c21, ex, c22, ev),
			PXX: notBelow0(s.PXX + products(t11, c11, t12, c12)),
			PXV: s.PXV + products(t11, c21, t12, c22),
			PVV: notBelow0(s.PVV + products(t21, c21, t22, c22)),
		}
		// No square is below 0 any more, so what may not be is not finite.
		if !state.May(r) {
			return s
		}
		return r
	}
}

// products is a x + b y, each product rounded by itself.
func products(a, x, b, y float64) float64 { return float64(a*x) + float64(b*y) }

// notBelow0 leaves -0 and what is no number as they are, unlike max.
func notBelow0(x float64) float64 {
	if x < 0 {
		return 0
	}
	return x
}
