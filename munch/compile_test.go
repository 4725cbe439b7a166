package munch_test

import (
	"math/rand"
	"slices"
	"strings"
	"testing"

	"munch/munch"
)

// tryCompile answers the table of a good list, after it has asked all that P5 says of a table by itself.
func tryCompile(t *testing.T, list string) secondTable {
	t.Helper()
	text, fault, place := munch.Compile(list)
	if fault != munch.OK || place != 0 {
		t.Fatalf("P5: Compile(%q) = %d %d, want 0 0", list, fault, place)
	}
	if fault, place := munch.CheckTable(text); fault != munch.OK || place != 0 {
		t.Fatalf("P5: Compile(%q) = %.200q, but CheckTable says %d %d", list, text, fault, place)
	}
	states, _, _ := secondRead(text)
	if !states.inOrder() {
		t.Errorf("P5: Compile(%q) = %.200q: a state is not met, or not in its order", list, text)
	}
	if !states.hopeful() {
		t.Errorf("P5: Compile(%q) = %.200q: a state comes to no tag", list, text)
	}
	if !states.joined() {
		t.Errorf("P5: Compile(%q) = %.200q: two edges could be one", list, text)
	}
	return states
}

// inOrder tells whether all states are met, and first met in the order of their numbers.
func (s secondTable) inOrder() bool {
	met := 1
	for at := range s {
		if at >= met {
			return false
		}
		for b := range 256 {
			to := s.next(at, b)
			if to > met {
				return false
			}
			if to == met {
				met++
			}
		}
	}
	return met == len(s)
}

// hopeful tells whether each state but the first comes to a tag.
func (s secondTable) hopeful() bool {
	good := make([]bool, len(s))
	for again := true; again; {
		again = false
		for at, state := range s {
			hope := state.tag >= 0
			for _, e := range state.edges {
				hope = hope || good[e.state]
			}
			again = again || hope != good[at]
			good[at] = hope
		}
	}
	return !slices.Contains(good[1:], false)
}

func (s secondTable) joined() bool {
	for _, state := range s {
		for i := range len(state.edges) - 1 {
			if e, f := state.edges[i], state.edges[i+1]; e.to+1 == f.from && e.state == f.state {
				return false
			}
		}
	}
	return true
}

// apart finds two states that no text tells apart, by marking the pairs that one does. (State len(s) is where one cannot go on.)
func (s secondTable) apart() (int, int, bool) {
	n := len(s) + 1
	next := func(at, b int) int {
		if at == len(s) {
			return at
		}
		if to := s.next(at, b); to >= 0 {
			return to
		}
		return len(s)
	}
	marked := make([][]bool, n)
	for p := range marked {
		marked[p] = make([]bool, n)
		for q := range marked[p] {
			marked[p][q] = p == len(s) && q < p && s[q].tag >= 0 || q == len(s) && p < q && s[p].tag >= 0 || p < len(s) && q < len(s) && s[p].tag != s[q].tag
		}
	}
	for again := true; again; {
		again = false
		for p := range n {
			for q := range p {
				for b := 0; b < 256 && !marked[p][q]; b++ {
					if marked[next(p, b)][next(q, b)] {
						marked[p][q], marked[q][p], again = true, true, true
					}
				}
			}
		}
	}
	for p := range len(s) {
		for q := range p {
			if !marked[p][q] {
				return p, q, false
			}
		}
	}
	return 0, 0, true
}

// tryTags holds the table against the second reading at texts that come over every edge and past every edge.
func (s secondTable) tryTags(t *testing.T, r *rand.Rand, list string) {
	t.Helper()
	text, _, _ := munch.Compile(list)
	second := asking(list)
	signs := lowBytes(list) + "\xff"
	try := func(w string) {
		t.Helper()
		tag, fault, place := munch.Walk(text, w)
		if want := second.tag(w); tag != want || fault != munch.OK || place != 0 {
			t.Fatalf("P5: on the table of %q, Walk(%q) = %d %d %d, want %d 0 0", list, w, tag, fault, place, want)
		}
		if tag != s.walk(w) {
			t.Fatalf("P7: on the table of %q, Walk(%q) = %d, want %d", list, w, tag, s.walk(w))
		}
	}
	for _, way := range s.ways() {
		try(way)
		for i := range len(signs) {
			w := way + signs[i:i+1]
			try(w)
			try(w + madeText(r, signs, 1))
			try(w + madeText(r, signs, 5))
		}
	}
}

func tryLeast(t *testing.T, r *rand.Rand, list string) {
	t.Helper()
	states := tryCompile(t, list)
	if p, q, ok := states.apart(); !ok {
		t.Errorf("P5: in the table of %q no text tells %d and %d apart", list, p, q)
	}
	states.tryTags(t, r, list)
}

func TestCompile(t *testing.T) {
	for _, c := range []struct{ list, want string }{
		{"", "0"}, {"\n", "0"}, {"[]\n", "1"}, {"[]\n\n\n\n", "1"}, {"[]\n[]\n[]\n[]\n", "4"},
		{"[]", "-"}, {"a&b", "-"}, {"!.*", "-"}, {"a[]\n[]", "-"}, {"[]\n[]\n[]\n[]\n[]", "-"},
		{".*", "0,00ff>0000"}, {"!", "-,00ff>0001;0,00ff>0001"}, {"a*", "0,6161>0000"}, {"a+", "-,6161>0001;0,6161>0001"}, {"a?", "0,6161>0001;0"},
		{"a\n.", "-,0060>0001,6161>0002,62ff>0001;1;0"}, {"[b-c]\n[a-d]", "-,6161>0001,6263>0002,6464>0001;1;0"},
		{"!a", "0,0060>0001,6161>0002,62ff>0001;0,00ff>0001;-,00ff>0001"},
		{"b|a", "-,6162>0001;0"}, {"bx|ay", "-,6161>0001,6262>0002;-,7979>0003;-,7878>0003;0"}, {"az|bzz", "-,6161>0001,6262>0002;-,7a7a>0003;-,7a7a>0001;0"},
		{"\xff|\x00", "-,0000>0001,ffff>0001;0"}, {"[^a]", "-,0060>0001,62ff>0001;0"},
		{"(ab)*", "0,6161>0001;-,6262>0000"}, {"a{2,3}", "-,6161>0001;-,6161>0002;0,6161>0003;0"},
		{"a\nb\nc\nd\ne", "-,6161>0001,6262>0002,6363>0003,6464>0004,6565>0005;0;1;2;3;4"},
		{"e\nd\nc\nb\na", "-,6161>0001,6262>0002,6363>0003,6464>0004,6565>0005;4;3;2;1;0"},
		{"if\n[a-z]+", "-,6168>0001,6969>0002,6a7a>0001;1,617a>0001;1,6165>0001,6666>0003,677a>0001;0,617a>0001"},
		{"ab|cb|[^ac]b[]", "-,6161>0001,6363>0001;-,6262>0002;0"},
	} {
		if table, fault, place := munch.Compile(c.list); table != c.want || fault != munch.OK || place != 0 {
			t.Errorf("P5: Compile(%q) = %q %d %d, want %q 0 0", c.list, table, fault, place, c.want)
		}
		tryLeast(t, rand.New(rand.NewSource(20)), c.list)
	}
}

// Lists that mean the same have the same table; those of other lines have another one.
func TestSameTables(t *testing.T) {
	line := map[string]int{}
	for i, lists := range [][]string{
		{"a|b", "[ab]", "b|a", "[a-b]", "(a|b)", "[ba]", "\\a|\\b", "a{1,1}|b", "[a-c]&!c", "[ab]\na", "[ab]\n[]", "a|b\nb", "a|b&!.."},
		{"(a|b)*", "(a*b*)*", "[ab]*", "(a*|b)*", "(b*a*)*", "(a+|b+)*", "[ab]*&.*", "!.*[^ab].*", "(a|b)*(a*b*)*", "([ab]{1,3})*", "(a?b?)*", "(|a|b)*"},
		{".*", "!([])", "![]", "[^]*", "(a|[^a])*", ".*.*", ".*|a", "(.|)*", ".*\na", "(.*)+", ".?.*"},
		{"a\nb", "a\nb|a", "a\n[ab]", "a\nb\na", "a\nb\n[]", "a\nb&!a", "a&!b\nb&!a"},
		{"b\na", "b\na|b", "[b]\n[ab]"},
		{"", "()", "|", "!.+", "a{0,1}&()", "[]*", "a*&b*", "\n", "\n()", "!..*", "()*", "(){3,9}"},
		{"[]", "!.*", "a&b", "a&!a", "a[]", "[]\n[]", "[^\x00-\xff]", "[]+", ".&..", "!a&a"},
		{"a{2,4}", "aaa?a?", "aa(a|aa|)", "a{2,2}a{0,2}", "aa|aaa|aaaa", "a{0,4}&!a?", "(a|aa){2,2}", "a{2,4}&a*", "a{1,2}a{1,2}"},
		{"a+", "aa*", "a*a", "a*&!", "a{1,1}a*", "(a+)+", "a+a?", "a{1,2}a*", "!&a*", "a*a+"},
		{"!a", "!(a)", "!a|a", "!a&.*", "![a]", "!a\nb", "!a&!a", "|[^a]|...*"},
		{"!a|b", "!a&!b", "![ab]", "!b|a"},
		{".*a.*", "!([^a])*", "[^a]*a.*", ".*a[^a]*", "!([^a]*)"},
		{"if\n[a-z]+", "if\n[a-z][a-z]*", "if\n[a-z]*[a-z]", "if\n[a-z]+&!if", "i(f)\n[a-mn-z]+"},
		{"[\\\n]", "[\\\n-\\\n]", ".&![^\\\n]"},
	} {
		want, _, _ := munch.Compile(lists[0])
		if other, met := line[want]; met {
			t.Errorf("P5: lines %d and %d have the table %q", other, i, want)
		}
		line[want] = i
		for _, list := range lists {
			table, fault, place := munch.Compile(list)
			if table != want || fault != munch.OK || place != 0 {
				t.Errorf("P5: Compile(%q) = %q %d %d, but that of %q is %q", list, table, fault, place, lists[0], want)
			}
			if differ, w, fault, place := munch.Differ(list, lists[0]); differ || w != "" || fault != munch.OK || place != 0 {
				t.Errorf("P8: Differ(%q, %q) = %v %q %d %d, want false \"\" 0 0", list, lists[0], differ, w, fault, place)
			}
		}
	}
}

func TestCompileMadeUpLists(t *testing.T) {
	r := rand.New(rand.NewSource(21))
	for range 2000 {
		list := madeGoodList(r)
		if strings.Count(tableOf(list), ";") < 40 {
			tryLeast(t, r, list)
		}
	}
}

func tableOf(list string) string {
	text, _, _ := munch.Compile(list)
	return text
}

func TestSameMeaningSameTable(t *testing.T) {
	r := rand.New(rand.NewSource(22))
	tables := map[string]int{}
	for range 4000 {
		a, b := twoWritten(r)
		ofA, ofB := tableOf(a), tableOf(b)
		tables[ofA]++
		if ofA != ofB {
			t.Fatalf("P5: %q and %q mean the same, but have the tables %q and %q", a, b, ofA, ofB)
		}
		if differ, w, fault, place := munch.Differ(a, b); differ || w != "" || fault != munch.OK || place != 0 {
			t.Fatalf("P8: Differ(%q, %q) = %v %q %d %d, want false \"\" 0 0", a, b, differ, w, fault, place)
		}
	}
	if len(tables) < 500 {
		t.Errorf("only %d tables were met", len(tables))
	}
}

// Two lists have the same table just if all texts have the same tags, so just if Differ finds none.
func TestOtherMeaningOtherTable(t *testing.T) {
	r := rand.New(rand.NewSource(23))
	same := 0
	for range 3000 {
		a, b := madeGoodList(r), madeGoodList(r)
		differ, w, _, _ := munch.Differ(a, b)
		if differ == (tableOf(a) == tableOf(b)) {
			t.Fatalf("P5: %q and %q: Differ says %v %q, the tables are %q and %q", a, b, differ, w, tableOf(a), tableOf(b))
		}
		if !differ {
			same++
		}
	}
	if same == 0 || same == 3000 {
		t.Errorf("%d of 3000 pairs mean the same", same)
	}
}

// heavyLists have as many states as there can be, or as many edges.
func heavyLists() map[string]int {
	return map[string]int{
		".*a.{8,8}": 512, "[ab]*a[ab]{8,8}": 512, "(a|b)*a[ab]{7,7}": 256, "!.*[a-z].{8,8}": 512, "[a6b]*a[a|b]{8,8}": 767, "a{9,9}b": 11, "(a{9,9})*": 9, "(a{9,9}b)*": 10, "((a{3,3}){3,3})*": 9,
		"(aaa)*&(aa)*&(aaaaa)*": 30, "(aaaa)*\n(aaa)*\n(aaa)*": 12, "[ab]{9,9}\n.": 11, ".{0,9}\n.": 10,
	}
}

func TestCompileHeavyLists(t *testing.T) {
	r := rand.New(rand.NewSource(24))
	for list, count := range heavyLists() {
		states := tryCompile(t, list)
		if len(states) != count {
			t.Errorf("P5: the table of %q has %d states, want %d", list, len(states), count)
		}
		second, table := ready(list), tableOf(list)
		for range 500 {
			w := madeText(r, "ab6c", 40)
			tag, _, _ := munch.Walk(table, w)
			if want := second.tag(w); tag != want {
				t.Fatalf("P5: on the table of %q, Walk(%q) = %d, want %d", list, w, tag, want)
			}
		}
	}
}

// A list may have a table that CheckTable finds too long: P5 names no error for that, so Compile answers it all the same.
func TestCompileAboveTheLengthOfTables(t *testing.T) {
	const odd = "!#%')/13579;=?ACEGIKMOQSUWY_acegikmoqsuwy{}"
	list := ".*[" + odd + "].{8,8}"
	table, fault, place := munch.Compile(list)
	if fault != munch.OK || place != 0 || len(table) <= 200000 {
		t.Fatalf("P5: Compile(%q) = %d bytes, %d %d", list, len(table), fault, place)
	}
	tryCheckTable(t, table, munch.ErrLong, 0)
	states, _, _ := secondReadAnyLength(table)
	if len(states) != 512 || !states.inOrder() || !states.joined() || !states.hopeful() {
		t.Errorf("P5: Compile(%q) is not the least table; it has %d states", list, len(states))
	}
	second, r := ready(list), rand.New(rand.NewSource(25))
	for range 500 {
		w := madeText(r, odd+" &BDF", 20)
		if got, want := states.walk(w), second.tag(w); got != want {
			t.Errorf("P5: on the table of %q, one comes by %q to %d, want %d", list, w, got, want)
		}
	}
}

func TestCompileGivesTheErrorOfCheck(t *testing.T) {
	for _, list := range badLists() {
		fault, place := munch.Check(list)
		if table, got, gotPlace := munch.Compile(list); table != "" || got != fault || gotPlace != place {
			t.Errorf("P5: Compile(%.90q) = %q %d %d, want \"\" %d %d", list, table, got, gotPlace, fault, place)
		}
		if ahead, got, gotPlace := munch.Ahead(list); ahead != 0 || got != fault || gotPlace != place {
			t.Errorf("P11: Ahead(%.90q) = %d %d %d, want 0 %d %d", list, ahead, got, gotPlace, fault, place)
		}
	}
}

// badLists has at least one list for each error and place.
func badLists() []string {
	return []string{"a!", "(", "a{2,1}", "[b-a]", "\\\n", "\n\n\n\n\n", rep("(", 9) + rep(")", 9), "a" + rep("(", 9) + rep(")", 9), rep("a", 11), "a{9,9}a{2,2}", rep("a", 81), rep("|", 81), rep("!", 81), "a)", "a\n*", "*", rep("(", 9) + rep(")", 9) + "!", "((((((((((" + rep("a", 11) + "))))))))))"}
}
