// Package store: what was met before is found again.
package store

// Store keeps one value for each key. Make it by New.
type Store[K comparable, V any] struct {
	kept map[K]V
}

// New makes a store that keeps nothing yet.
func New[K comparable, V any]() *Store[K, V] {
	return &Store[K, V]{kept: map[K]V{}}
}

// Find answers what is kept for a key. At a key that is new, it keeps what first answers.
func (s *Store[K, V]) Find(key K, first func() V) V {
	if value, ok := s.kept[key]; ok {
		return value
	}
	value := first()
	s.kept[key] = value
	return value
}
