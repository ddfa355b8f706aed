package sole

import (
	"slices"

	"ablaut/api"
)

// read returns a reader of a function for which there is one; false if it is larger than readers may be.
func read(r *relation) (*book, bool) {
	// Behind a word, the reader is to know to which states it leads, and what is left to write at each of them: a team.
	numbers := map[string]int{}
	var teams [][]step
	fits := true
	enter := func(team []step) step {
		s := step{out: takeShared(team)}
		fits = fits && len(s.out) <= api.MaxWord && isShort(team)
		i, there := numbers[key(team)]
		if !there {
			i = len(teams)
			numbers[key(team)] = i
			teams = append(teams, team)
		}
		s.to = i
		return s
	}
	b := &book{begin: enter(r.closed(step{})).out}
	moves := 0
	for i := 0; i < len(teams) && fits; i++ { // the list grows meanwhile
		var l []move
		for x := 1; x < len(r.onward[0]); x++ {
			if team := r.closed(r.follow(teams[i], x)...); len(team) > 0 {
				l = append(l, move{x - 1, enter(team)})
			}
		}
		b.moves = append(b.moves, l)
		b.lasts = append(b.lasts, r.last(teams[i]))
		moves += len(l)
		fits = fits && len(teams) <= api.MaxStates && moves <= api.MaxArcs
	}
	return b, fits
}

// follow returns where a symbol leads from a team.
func (r *relation) follow(team []step, x int) []step {
	var l []step
	for _, s := range team {
		for _, t := range r.onward[s.to][x] {
			l = append(l, step{t.to, s.out + t.out})
		}
	}
	return l
}

// closed returns the team of some states and those to which ways lead from these that read nothing. Of a function that is trimmed there is but one thing left to write at each.
func (r *relation) closed(l ...step) []step {
	var team []step
	there := make([]bool, len(r.ends))
	add := func(s step) {
		if !there[s.to] {
			there[s.to] = true
			team = append(team, s)
		}
	}
	for _, s := range l {
		add(s)
	}
	for i := 0; i < len(team); i++ { // the list grows meanwhile
		s := team[i]
		for _, t := range r.onward[s.to][0] {
			add(step{t.to, s.out + t.out})
		}
	}
	slices.SortFunc(team, func(s, t step) int { return s.to - t.to })
	return team
}

// last returns what is written if a word ends with a team.
func (r *relation) last(team []step) last {
	for _, s := range team {
		if r.ends[s.to] {
			return last{true, s.out}
		}
	}
	return last{}
}

// takeShared takes off what all of a team are to write first, and returns it.
func takeShared(team []step) string {
	first := team[0].out
	for _, s := range team {
		first = first[:shared(first, s.out)]
	}
	for i := range team {
		team[i].out = team[i].out[len(first):]
	}
	return first
}

// isShort reports whether what is left to write at each of a team is no longer than a word.
func isShort(team []step) bool {
	return !slices.ContainsFunc(team, func(s step) bool { return len(s.out) > api.MaxWord })
}

// key returns a text that equal teams whose words are short, and only these, have in common.
func key(team []step) string {
	var text []byte
	for _, s := range team {
		text = append(text, byte(s.to), byte(len(s.out)))
		text = append(text, s.out...)
	}
	return string(text)
}
