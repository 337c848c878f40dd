package match

import (
	"iter"
	"maps"
	"slices"
)

const (
	plus = "+" // as a level of a filter it meets any one
	hash = "#" // as the last level of a filter it meets all that are left
)

// branch is a tree of maps: levels lead on from it, and what ends at it stands there by names. Nothing is behind a nil one.
type branch[T any] struct {
	next map[string]*branch[T]
	ends map[string]T
	size int // how much ends at it, or further on
}

// bare tells a branch at which nothing ends.
func bare[T any]() *branch[T] {
	return &branch[T]{next: map[string]*branch[T]{}, ends: map[string]T{}}
}

// get tells what ends behind some levels, by a name.
func (b *branch[T]) get(levels []string, name string) (thing T, is bool) {
	switch {
	case b == nil:
		return thing, false
	case len(levels) > 0:
		return b.next[levels[0]].get(levels[1:], name)
	}
	thing, is = b.ends[name]
	return thing, is
}

// put lets a thing end behind some levels, in place of one of that name: was there none?
func (b *branch[T]) put(levels []string, name string, thing T) (fresh bool) {
	if len(levels) == 0 {
		_, was := b.ends[name]
		b.ends[name], fresh = thing, !was
	} else {
		level := levels[0]
		if b.next[level] == nil {
			b.next[level] = bare[T]()
		}
		fresh = b.next[level].put(levels[1:], name, thing)
	}
	if fresh {
		b.size++
	}
	return fresh
}

// drop lets no thing of that name end behind some levels, and no branch be left at which nothing ends: was there one?
func (b *branch[T]) drop(levels []string, name string) (was bool) {
	switch {
	case b == nil:
		return false
	case len(levels) == 0:
		_, was = b.ends[name]
		delete(b.ends, name)
	default:
		on := b.next[levels[0]]
		was = on.drop(levels[1:], name)
		if was && on.size == 0 {
			delete(b.next, levels[0])
		}
	}
	if was {
		b.size--
	}
	return was
}

// met tells what ends at filters that meet a name of such levels. Open tells whether a first + or # meets it; each later one does.
func (b *branch[T]) met(levels []string, open bool) (found []T) {
	var gather func(at *branch[T], left []string, open bool)
	gather = func(at *branch[T], left []string, open bool) {
		if at == nil {
			return
		}
		if open {
			gather(at.next[hash], nil, true)
		}
		if len(left) == 0 {
			found = slices.AppendSeq(found, maps.Values(at.ends))
			return
		}
		if open {
			gather(at.next[plus], left[1:], true)
		}
		gather(at.next[left[0]], left[1:], true)
	}
	gather(b, levels, open)
	return found
}

// branches goes over it and all that are further on.
func (b *branch[T]) branches() iter.Seq[*branch[T]] {
	return func(yield func(*branch[T]) bool) {
		for left := []*branch[T]{b}; len(left) > 0; {
			last := len(left) - 1
			at := left[last]
			if !yield(at) {
				return
			}
			left = slices.AppendSeq(left[:last], maps.Values(at.next))
		}
	}
}

// all goes over what ends at it, or further on.
func (b *branch[T]) all() iter.Seq[T] {
	return func(yield func(T) bool) {
	walk:
		for at := range b.branches() {
			for _, thing := range at.ends {
				if !yield(thing) {
					break walk
				}
			}
		}
	}
}
