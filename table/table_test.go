package table

import "testing"

func mustRead(t *testing.T, text string) Table {
	t.Helper()
	out, place, ok := Read(text)
	if !ok || place != 0 {
		t.Fatalf("Read(%q): place %d, %v", text, place, ok)
	}
	return out
}

func TestReadAndText(t *testing.T) {
	for _, text := range []string{"-", "4", "0;1;2;3;4;-", "-,00ff>0000", "-,6162>0001,6363>0000;3,0909>0001,0a0a>0000,ffff>0001"} {
		if again := mustRead(t, text).Text(); again != text {
			t.Errorf("%q is written %q", text, again)
		}
	}
	for _, c := range []struct {
		text  string
		place int
	}{{"", 0}, {"-;", 1}, {"-;5", 1}, {"-,6161>0002;-", 0}, {"-;-;-,6160>0000", 2}, {"-,6162>0000,6263>0000", 0}} {
		if out, place, ok := Read(c.text); out != nil || place != c.place || ok {
			t.Errorf("Read(%q) = %v %d %v, want the place %d", c.text, out, place, ok, c.place)
		}
	}
}

func TestNext(t *testing.T) {
	table := mustRead(t, "-,0000>0001,6163>0000,ffff>0002;0;1")
	for _, c := range []struct {
		at   int
		b    byte
		want int
	}{{0, 0, 1}, {0, 1, Nowhere}, {0, '`', Nowhere}, {0, 'a', 0}, {0, 'b', 0}, {0, 'c', 0}, {0, 'd', Nowhere}, {0, 254, Nowhere}, {0, 255, 2}, {1, 0, Nowhere}, {2, 255, Nowhere}, {Nowhere, 0, Nowhere}, {Nowhere, 255, Nowhere}} {
		if got := table.Next(c.at, c.b); got != c.want {
			t.Errorf("from %d by %q to %d, want %d", c.at, c.b, got, c.want)
		}
	}
	for at, want := range map[int]int{Nowhere: NoTag, 0: NoTag, 1: 0, 2: 1} {
		if got := table.Tag(at); got != want {
			t.Errorf("state %d has the tag %d, want %d", at, got, want)
		}
	}
	for at, want := range map[int]bool{Nowhere: false, 0: true, 1: false, 2: false} {
		if got := table.GoesOn(at); got != want {
			t.Errorf("from state %d one goes on: %v, want %v", at, got, want)
		}
	}
}

// Differ holds for tables that are not least, too.
func TestDiffer(t *testing.T) {
	for _, c := range []struct {
		a, b, want string
		differ     bool
	}{
		{"-", "-", "", false}, {"-", "0", "", true}, {"1", "0", "", true},
		{"-", "-,6161>0001;-", "", false}, {"-,6161>0001;0", "-,6161>0002;4;0", "", false},
		{"0,6161>0000", "0,6161>0001;0,6161>0002;0,6161>0001", "", false},
		{"0,6161>0000", "0,6161>0001;0,6161>0002;1,6161>0001", "aa", true},
		{"-,6162>0001;0", "-,6161>0001;0", "b", true}, {"-,0000>0001,ffff>0001;0", "-,ffff>0001;0", "\x00", true},
		{"-,6161>0001,6262>0002;-,6262>0003;-,6161>0003;0", "-", "ab", true}, {"-,6161>0001,6262>0002;-,6262>0002;0", "-", "b", true},
	} {
		a, b := mustRead(t, c.a), mustRead(t, c.b)
		if w, differ := Differ(a, b); w != c.want || differ != c.differ {
			t.Errorf("Differ(%q, %q) = %q %v, want %q %v", c.a, c.b, w, differ, c.want, c.differ)
		}
		if w, differ := Differ(b, a); w != c.want || differ != c.differ {
			t.Errorf("Differ(%q, %q) = %q %v, want %q %v", c.b, c.a, w, differ, c.want, c.differ)
		}
	}
}

func TestAhead(t *testing.T) {
	for _, c := range []struct {
		text string
		want int
	}{
		{"-", 0}, {"0", 0}, {"-,6161>0001;0", 0}, {"0,00ff>0000", 0}, {"-,00ff>0001;0,00ff>0001", 0},
		{"0,6161>0000", 1}, {"0,6161>0001;0", 0}, {"0,6161>0001;0,6262>0002;0", 1}, {"0,6161>0001;-,6262>0000", 2},
		{"-,6161>0001;0,6262>0002;-,6262>0002,6363>0003;0", Endless},
		{"-,6161>0001;0,00ff>0002;-,00ff>0002", 0},                         // no gap
		{"-,6161>0001,6262>0002;0;-,6262>0002,6363>0001", 0},               // the loop is ahead of every token
		{"-,6161>0001;0,6262>0002,6363>0003;-,6161>0004;-,6161>0002;0", 3}, // a short way and a long one
		{"-,6161>0001;0,00ff>0002;-,0060>0002,6161>0001,62ff>0002", 0},     // a loop that only a tag ends
	} {
		if got := Ahead(mustRead(t, c.text)); got != c.want {
			t.Errorf("Ahead(%q) = %d, want %d", c.text, got, c.want)
		}
	}
}
