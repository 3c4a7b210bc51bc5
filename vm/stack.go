package vm

import "slices"

// stack is things of any one type, one on top of the other.
type stack[T any] struct{ things []T }

// put puts x on top.
func (s *stack[T]) put(x T) {
	s.things = append(s.things, x)
}

// top is the thing on top, which stays.
func (s *stack[T]) top() T {
	return s.things[len(s.things)-1]
}

// take takes the thing on top.
func (s *stack[T]) take() T {
	x := s.top()
	s.drop(1)
	return x
}

// takeRow takes so many things, in the order in which they were put.
func (s *stack[T]) takeRow(count int) []T {
	row := slices.Clone(s.things[len(s.things)-count:])
	s.drop(count)
	return row
}

// drop takes so many things away; the spare room would else keep them.
func (s *stack[T]) drop(count int) {
	rest := len(s.things) - count
	clear(s.things[rest:])
	s.things = s.things[:rest]
}

// twin is a stack of the same things.
func (s *stack[T]) twin() stack[T] {
	return stack[T]{slices.Clone(s.things)}
}
