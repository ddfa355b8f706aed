package det

// classes are the states of a table, divided into such as are not known to be unlike.
type classes struct {
	of    []int // the class of each state
	order []int // the states, those of one class side by side
	place []int // where each state stands in order
	from  []int // where each class begins in order
	to    []int // behind its last state
	met   []int // how many of a class were met; they are its first ones
}

// halves returns the classes of states that are ends and that are none, if there are any.
func halves(ends []bool) *classes {
	c := &classes{of: make([]int, len(ends)), place: make([]int, len(ends))}
	for _, kind := range []bool{true, false} {
		begin := len(c.order)
		for q, end := range ends {
			if end == kind {
				c.of[q], c.place[q] = len(c.from), len(c.order)
				c.order = append(c.order, q)
			}
		}
		if len(c.order) > begin {
			c.add(begin, len(c.order))
		}
	}
	return c
}

// add makes a stretch of order a class, whose number it returns.
func (c *classes) add(from, to int) int {
	c.from = append(c.from, from)
	c.to = append(c.to, to)
	c.met = append(c.met, 0)
	return len(c.from) - 1
}

// size returns how many states a class has.
func (c *classes) size(k int) int { return c.to[k] - c.from[k] }

// meet puts a state, which was not met, among those of its class that were, and reports whether it is the first one of these.
func (c *classes) meet(q int) bool {
	k := c.of[q]
	front := c.from[k] + c.met[k]
	other := c.order[front]
	c.order[front], c.order[c.place[q]] = q, other
	c.place[other], c.place[q] = c.place[q], front
	c.met[k]++
	return c.met[k] == 1
}

// split makes the states of a class that were met a class of their own, and returns its number; none if no others would be left. None of the class is met any more.
func (c *classes) split(k int) int {
	met := c.met[k]
	c.met[k] = 0
	if met == c.size(k) {
		return none
	}
	fresh := c.add(c.from[k], c.from[k]+met)
	c.from[k] = c.to[fresh]
	for _, q := range c.order[c.from[fresh]:c.to[fresh]] {
		c.of[q] = fresh
	}
	return fresh
}

// sources returns for each symbol the states from which it leads to a class.
func (c *classes) sources(k, symbols int, back [][]step) [][]int {
	l := make([][]int, symbols)
	for _, q := range c.order[c.from[k]:c.to[k]] {
		for _, s := range back[q] {
			l[s.symbol] = append(l[s.symbol], s.from)
		}
	}
	return l
}

// classes divides the states of a table until those of one class lead to ends by the same words; false if there are more than most classes.
func (t table) classes(most int) (*classes, bool) {
	c := halves(t.ends)
	back := t.back()
	var todo []int // the classes by which others are still to be split
	waits := make([]bool, len(t.next))
	push := func(k int) {
		waits[k] = true
		todo = append(todo, k)
	}
	for k := range c.from {
		push(k)
	}
splitting:
	for len(todo) > 0 {
		k := todo[len(todo)-1]
		todo = todo[:len(todo)-1]
		waits[k] = false
		// All sources ahead of the first split: the class itself may be split by them.
		for _, from := range c.sources(k, t.symbols(), back) {
			for _, old := range c.hit(from) {
				fresh := c.split(old)
				if fresh == none {
					continue
				}
				if len(c.from) > most {
					break splitting
				}
				// Where the whole was used already, one half tells as much as both; the smaller one is less work.
				if !waits[old] && c.size(old) < c.size(fresh) {
					push(old)
				} else {
					push(fresh)
				}
			}
		}
	}
	return c, len(c.from) <= most
}

// hit meets the states of a list, and returns the classes that have some of them.
func (c *classes) hit(l []int) []int {
	var hit []int
	for _, q := range l {
		if c.meet(q) {
			hit = append(hit, c.of[q])
		}
	}
	return hit
}
