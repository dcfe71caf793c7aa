package auto

import (
	"slices"

	"bobbinet/api"
)

// row is the successor of a state for each letter, or -1 where there is none.
type row [api.MaxTypes]int

// machine is an automaton with any number of states, which begins in state 0.
type machine struct {
	next  []row
	final []bool
}

// numbering returns a function that numbers keys from 0, in the order in which it first meets them.
func numbering[K comparable]() func(key K) int {
	numbers := map[K]int{}
	return func(key K) int {
		n, isKnown := numbers[key]
		if !isKnown {
			n = len(numbers)
			numbers[key] = n
		}
		return n
	}
}

// explore returns the machine whose states are the keys that steps lead to from the first one, in breadth-first order.
func explore[K comparable](first K, isFinal func(key K) bool, step func(key K, letter int) (K, bool)) machine {
	number := numbering[K]()
	number(first)
	keys := []K{first}
	var m machine
	for i := 0; i < len(keys); i++ {
		var successors row
		for letter := range successors {
			successors[letter] = -1
			key, ok := step(keys[i], letter)
			if !ok {
				continue
			}
			successors[letter] = number(key)
			if successors[letter] == len(keys) {
				keys = append(keys, key)
			}
		}
		m.next = append(m.next, successors)
		m.final = append(m.final, isFinal(keys[i]))
	}
	return m
}

// distances returns how many letters it takes at least from each state to a final one, or -1 where none can be reached.
func (m machine) distances() []int {
	left := make([]int, len(m.next))
	before := make([][]int, len(m.next))
	var queue []int
	for state, successors := range m.next {
		if m.final[state] {
			queue = append(queue, state)
		} else {
			left[state] = -1
		}
		for _, next := range successors {
			if next >= 0 {
				before[next] = append(before[next], state)
			}
		}
	}
	for i := 0; i < len(queue); i++ {
		for _, state := range before[queue[i]] {
			if left[state] < 0 {
				left[state] = left[queue[i]] + 1
				queue = append(queue, state)
			}
		}
	}
	return left
}

// trimmed returns the machine without the states, but state 0, from which no final state can be reached.
func (m machine) trimmed() machine {
	left := m.distances()
	isFinal := func(state int) bool { return m.final[state] }
	return explore(0, isFinal, func(state, letter int) (int, bool) {
		next := m.next[state][letter]
		return next, next >= 0 && left[next] >= 0
	})
}

// look is what tells states of a trimmed machine apart: whether they are final, and the classes of their successors.
type look struct {
	isFinal bool
	next    row
}

// classes returns the class of each state of a trimmed machine, numbered in the order of the states, and how many there are. States are in the same class if they accept the same words. More classes than MaxStates may be divided further.
func (m machine) classes() (class []int, count int) {
	class, count = make([]int, len(m.next)), 1
	for {
		number := numbering[look]()
		finer, most := make([]int, len(m.next)), 0
		for state, successors := range m.next {
			for letter, next := range successors {
				if next >= 0 {
					successors[letter] = class[next]
				}
			}
			finer[state] = number(look{m.final[state], successors})
			most = max(most, finer[state]+1)
		}
		if most == count || most > api.MaxStates {
			return finer, most
		}
		class, count = finer, most
	}
}

// canonical returns the canonical automaton that accepts the same words as m. As the states of the trimmed machine are in breadth-first order and a class is first reached at its first state, the classes are in breadth-first order, too.
func canonical(m machine) (api.Auto, api.Errno) {
	m = m.trimmed()
	class, count := m.classes()
	if count > api.MaxStates {
		return api.Auto{}, api.ErrSize
	}
	var a api.Auto
	for state, successors := range m.next {
		if class[state] < len(a.Next) {
			continue
		}
		for letter, next := range successors {
			if next >= 0 {
				successors[letter] = class[next]
			}
		}
		a.Next = append(a.Next, slices.Clone(successors[:]))
		a.Final = append(a.Final, m.final[state])
	}
	return a, api.OK
}
