package tracks

import "lookout/api"

// past is what a track was behind its last steps: when it holds MaxHistory of them, a new one takes the place of the oldest.
type past struct {
	steps  []moment
	oldest int
}

// moment is a track's place behind one step.
type moment struct{ x, y api.State }

func (p *past) keep(x, y api.State) {
	if len(p.steps) < api.MaxHistory {
		p.steps = append(p.steps, moment{x, y})
		return
	}
	p.steps[p.oldest] = moment{x, y}
	p.oldest = (p.oldest + 1) % api.MaxHistory
}

// told is all that is kept, the earliest first, in new lists.
func (p *past) told() (x, y []api.State) {
	n := len(p.steps)
	x, y = make([]api.State, n), make([]api.State, n)
	for i := range n {
		m := p.steps[(p.oldest+i)%n]
		x[i], y[i] = m.x, m.y
	}
	return x, y
}
