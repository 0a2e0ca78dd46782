package rounds

const (
	forEver = -1 // the life of a state that can go on for ever
	unknown = -2
)

// machine does tasks, and knows how long their states live.
type machine struct {
	tasks
	lives []int // by the numbers of the states, unknown until a life is asked for
}

// newMachine returns a machine for tasks.
func newMachine(k tasks) *machine {
	m := &machine{tasks: k, lives: make([]int, k.product())}
	for number := range m.lives {
		m.lives[number] = unknown
	}
	return m
}

// goesOn reports whether the tasks can be done for ever.
func (m *machine) goesOn() bool { return m.life(m.fresh()) == forEver }

// life returns the greatest number of days that can be done from a state without failing,
// or forEver.
func (m *machine) life(s state) int {
	number := m.number(s)
	if m.lives[number] != unknown {
		return m.lives[number]
	}
	// A state that is met again while its own life is sought leads to itself.
	m.lives[number] = forEver
	longest := 0
	for task := range m.within {
		next, ok := m.next(s, task)
		if !ok {
			continue
		}
		life := m.life(next)
		if life == forEver {
			return forEver
		}
		longest = max(longest, life+1)
	}
	m.lives[number] = longest
	return longest
}

// ahead returns the first task that costs a state no more of its life than the day, and
// the state that comes, or false if every task fails.
func (m *machine) ahead(s state) (int, state, bool) {
	wanted := m.life(s)
	if wanted != forEver {
		wanted--
	}
	for task := range m.within {
		if next, ok := m.next(s, task); ok && m.life(next) == wanted {
			return task, next, true
		}
	}
	return 0, state{}, false
}

// last returns the first slice of as many tasks as can be done, if the tasks cannot be
// done for ever.
func (m *machine) last() []int {
	var done []int
	s := m.fresh()
	for {
		task, next, ok := m.ahead(s)
		if !ok {
			return done
		}
		done = append(done, task)
		s = next
	}
}

// round returns what is done between a state and its return, if the tasks can be done for
// ever.
func (m *machine) round() []int {
	var done []int
	s := m.fresh()
	days := map[int]int{} // on which the states came, by their numbers
	for {
		number := m.number(s)
		if day, ok := days[number]; ok {
			return done[day:]
		}
		days[number] = len(done)
		task, next, _ := m.ahead(s)
		done = append(done, task)
		s = next
	}
}
