package sole

import (
	"slices"

	"ablaut/api"
	"ablaut/syms"
)

// visit is a spot to which two ways come with a gap: from which visit, by its number, and what they write by the last step.
type visit struct {
	at   spot
	g    gap
	from int
	a, b string
}

// read returns what the one way reads by the last step.
func (v visit) read() string {
	if v.at[2] == 0 {
		return ""
	}
	return string([]byte{byte(v.at[2] - 1)})
}

// witness returns a word and two words that are held with it, of two relations whose ways do not agree.
func (s square) witness(sigma []string) ([][]string, bool, api.Errno) {
	x, y, z := s.unlike()
	if len(x) > api.MaxWord || len(y) > api.MaxWord || len(z) > api.MaxWord {
		return nil, false, api.ErrLarge
	}
	below := [][]string{word(y, sigma), word(z, sigma)}
	slices.SortFunc(below, syms.Compare)
	return [][]string{word(x, sigma), below[0], below[1]}, true, api.OK
}

// unlike returns what two ways read, which do it by the fewest steps, that write unlike words, and these words.
func (s square) unlike() (x, y, z string) {
	ending := s.ending()
	gaps := map[spot][]gap{}
	l := []visit{{from: -1}}
	for i := 0; i < len(l); i++ { // the list grows meanwhile
		v := l[i]
		if s.isEnd(v.at) && v.g != (gap{}) {
			return trace(l, i)
		}
		s.onward(v.at, func(to spot, a, b string) {
			g := v.g.after(a, b)
			// Whatever both write from a spot on, it does not close two unlike gaps: a third one is never needed.
			if !ending[to] || len(gaps[to]) == 2 || slices.Contains(gaps[to], g) {
				return
			}
			gaps[to] = append(gaps[to], g)
			l = append(l, visit{to, g, i, a, b})
		})
	}
	return "", "", ""
}

// trace returns what two ways have read, and what each one has written, when they come to a visit.
func trace(l []visit, i int) (x, y, z string) {
	for ; i >= 0; i = l[i].from {
		x, y, z = l[i].read()+x, l[i].a+y, l[i].b+z
	}
	return x, y, z
}
