package set

import "testing"

func TestText(t *testing.T) {
	asked := 0
	counting := func(b byte) bool { asked++; return b == 7 }
	for _, c := range []struct {
		in   Set
		want string
	}{
		{AnyOf(), ""}, {AllOf(), "0-ff"}, {Outside(AnyOf()), "0-ff"}, {Outside(AllOf()), ""},
		{Span('a', 'a'), "61-61"}, {Span('a', 'c'), "61-63"}, {Span(0, 255), "0-ff"}, {Span(255, 255), "ff-ff"}, {Span(0, 0), "0-0"}, {Span('b', 'a'), ""},
		{AnyOf(Span('x', 'z'), Span('a', 'b')), "61-62,78-7a"}, {AnyOf(Span('a', 'b'), Span('c', 'd')), "61-64"}, {AnyOf(Span('a', 'c'), Span('b', 'd')), "61-64"},
		{AllOf(Span('a', 'c'), Span('b', 'd')), "62-63"}, {AllOf(Span('a', 'b'), Span('c', 'd')), ""}, {AllOf(Span('a', 'c')), "61-63"},
		{Outside(Span('a', 'c')), "0-60,64-ff"}, {Outside(Span(0, 'a')), "62-ff"}, {Lay(counting), "7-7"},
	} {
		if got := Text(c.in); got != c.want {
			t.Errorf("got %q, want %q", got, c.want)
		}
	}
	if asked != 256 {
		t.Errorf("a set that was laid down was asked %d times, want 256", asked)
	}
}
