package score

import "orchardry/flat"

// Place of a version that is kept: which one it is, and where what was made of it lies.
type Place struct {
	Name   string
	Number int
	Flat   *flat.Flat
}

// Kept gives what is kept, the version that was asked for last at the end. No call tells which ones these are, so tests look at them here.
func (s *Scorer) Kept() []Place {
	var places []Place
	for _, l := range s.kept {
		places = append(places, Place{l.name, l.number, l.flat})
	}
	return places
}
