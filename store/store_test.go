package store

import "testing"

func TestFind(t *testing.T) {
	made := 0
	next := func() int { made++; return made }
	s := New[string, int]()
	for _, c := range []struct {
		key  string
		want int
	}{{"a", 1}, {"b", 2}, {"a", 1}, {"", 3}, {"b", 2}, {"", 3}} {
		if got := s.Find(c.key, next); got != c.want {
			t.Errorf("%q: got %d, want %d", c.key, got, c.want)
		}
	}
	if made != 3 {
		t.Errorf("made %d values, want 3", made)
	}
	if got := New[string, int]().Find("a", func() int { return 9 }); got != 9 {
		t.Errorf("another store answers %d, want 9", got)
	}
}

func TestFindWithinFind(t *testing.T) {
	type pair struct{ a, b byte }
	s := New[pair, pair]()
	got := s.Find(pair{1, 2}, func() pair {
		return s.Find(pair{3, 4}, func() pair { return pair{5, 6} })
	})
	if got != (pair{5, 6}) || s.Find(pair{3, 4}, nil) != got || s.Find(pair{1, 2}, nil) != got {
		t.Errorf("got %v", got)
	}
}
