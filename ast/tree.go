package ast

import (
	"iter"
	"slices"
)

// A place is the place of an element of a tree: its number and its level.
type place struct {
	number, level int
}

// A part is what is left of a list, whose elements have the same level.
type part[T any] struct {
	list  []T
	level int
}

// A pair consists of two lists that are compared.
type pair[T any] struct {
	a, b []T
}

// The functions of this file keep the lists that are still to be visited in a slice. If they called themselves for each level instead, a unit that is deep enough would exceed the stack, from which a program cannot recover.

// visit visits the elements of a list in the order of their numbers: each one is followed by those of the lists inside it.
func visit[T any](list []T, inside func(T) (first, second []T)) iter.Seq2[place, T] {
	return func(yield func(place, T) bool) {
		var open []part[T]
		push := func(list []T, level int) {
			if len(list) > 0 {
				open = append(open, part[T]{list, level})
			}
		}
		push(list, 1)
		for number := 0; len(open) > 0; number++ {
			next := pop(&open)
			element := next.list[0]
			if !yield(place{number, next.level}, element) {
				return
			}
			// The last list that is pushed is the first one to be visited.
			first, second := inside(element)
			push(next.list[1:], next.level)
			push(second, next.level+1)
			push(first, next.level+1)
		}
	}
}

// equalTrees reports whether two lists are equal, with all lists inside their elements. Two elements are compared by same, without these lists.
func equalTrees[T any](a, b []T, inside func(T) (first, second []T), same func(x, y T) bool) bool {
	open := []pair[T]{{a, b}}
	push := func(a, b []T) {
		if len(a) > 0 || len(b) > 0 {
			open = append(open, pair[T]{a, b})
		}
	}
	for len(open) > 0 {
		next := pop(&open)
		if !slices.EqualFunc(next.a, next.b, same) {
			return false
		}
		for k := range next.a {
			firstA, secondA := inside(next.a[k])
			firstB, secondB := inside(next.b[k])
			push(firstA, firstB)
			push(secondA, secondB)
		}
	}
	return true
}

// cloneTrees returns a copy of a list, with all lists inside its elements, in new memory. The lists of one element are replaced by copies of their own by renew.
func cloneTrees[T any](list []T, inside func(T) (first, second []T), renew func(*T)) []T {
	clone := copyOf(list)
	open := [][]T{clone}
	for len(open) > 0 {
		next := pop(&open)
		for k := range next {
			renew(&next[k])
			first, second := inside(next[k])
			if len(first) > 0 {
				open = append(open, first)
			}
			if len(second) > 0 {
				open = append(open, second)
			}
		}
	}
	return clone
}

// pop removes the last element of a list and returns it.
func pop[T any](list *[]T) T {
	last := len(*list) - 1
	element := (*list)[last]
	*list = (*list)[:last]
	return element
}

// copyOf returns a copy of a list in new memory.
func copyOf[T any](list []T) []T {
	return append([]T(nil), list...)
}
