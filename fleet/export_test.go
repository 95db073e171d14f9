package fleet

import "orchardry/api"

// Overhear has a scorer hear a call that the log has not. Nothing that may be called comes to that, as what is told was safe before; but a Crash has to say what becomes of such a scorer.
func (f *Fleet) Overhear(i int, c api.Call) error {
	s := f.scorers[i]
	return s.Hear(c, s.Index()+1)
}
