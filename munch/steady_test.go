package munch_test

import (
	"fmt"
	"math/rand"
	"runtime"
	"sync"
	"testing"
	"time"

	"munch/munch"
)

// tryPlain asks what P1 says of the calls at any strings.
func tryPlain(t *testing.T, list, w string) {
	t.Helper()
	tryPlainList(t, list, w)
	tryPlainDiffer(t, list, w)
	tryPlainTable(t, list, w)
}

func tryPlainList(t *testing.T, list, w string) {
	t.Helper()
	fault, place := munch.Check(list)
	if fault < munch.OK || fault > munch.ErrWeight {
		t.Errorf("P1: Check(%.90q) = %d", list, fault)
	}
	if fault != munch.ErrText && fault != munch.ErrNest && place != 0 {
		t.Errorf("P1: Check(%.90q) = %d with the place %d, want 0", list, fault, place)
	}
	if place < 0 || place > len(list) {
		t.Errorf("P1: Check(%.90q): the place %d is none of the text", list, place)
	}
	tag, tagFault, tagPlace := munch.Tag(list, w)
	if tagFault != fault || tagPlace != place {
		t.Errorf("P1: Tag(%.90q, %.90q) fails with %d %d, Check with %d %d", list, w, tagFault, tagPlace, fault, place)
	}
	if fault != munch.OK && tag != 0 {
		t.Errorf("P1: Tag(%.90q, %.90q) = %d beside an error, want 0", list, w, tag)
	}
	table, tableFault, tablePlace := munch.Compile(list)
	if tableFault != fault || tablePlace != place || (fault == munch.OK) != (table != "") {
		t.Errorf("P1: Compile(%.90q) = %.90q %d %d, Check says %d %d", list, table, tableFault, tablePlace, fault, place)
	}
	ahead, aheadFault, aheadPlace := munch.Ahead(list)
	if aheadFault != fault || aheadPlace != place || fault != munch.OK && ahead != 0 || ahead < -1 {
		t.Errorf("P1: Ahead(%.90q) = %d %d %d, Check says %d %d", list, ahead, aheadFault, aheadPlace, fault, place)
	}
}

func tryPlainDiffer(t *testing.T, a, b string) {
	t.Helper()
	want, wantPlace := munch.Check(a)
	if want == munch.OK {
		want, wantPlace = munch.Check(b)
	}
	differ, w, fault, place := munch.Differ(a, b)
	if fault != want || place != wantPlace || (fault != munch.OK || !differ) && w != "" || fault != munch.OK && differ {
		t.Errorf("P1: Differ(%.90q, %.90q) = %v %.90q %d %d, Check says %d %d", a, b, differ, w, fault, place, want, wantPlace)
	}
}

func tryPlainTable(t *testing.T, table, w string) {
	t.Helper()
	fault, place := munch.CheckTable(table)
	switch {
	case fault == munch.ErrTable && 0 <= place && place <= 9999:
	case (fault == munch.OK || fault == munch.ErrLong) && place == 0:
	default:
		t.Errorf("P1: CheckTable(%.90q) = %d %d", table, fault, place)
	}
	tag, tagFault, tagPlace := munch.Walk(table, w)
	if tagFault != fault || tagPlace != place || fault != munch.OK && tag != 0 || tag < -1 || tag > 4 {
		t.Errorf("P1: Walk(%.90q, %.90q) = %d %d %d, CheckTable says %d %d", table, w, tag, tagFault, tagPlace, fault, place)
	}
}

func allBytes() string {
	out := make([]byte, 256)
	for b := range out {
		out[b] = byte(b)
	}
	return string(out)
}

func TestAnyStrings(t *testing.T) {
	r := rand.New(rand.NewSource(1))
	any := allBytes()
	for range 20000 {
		tryPlain(t, madeText(r, any, 100), madeText(r, any, 100))
		tryPlain(t, madeText(r, "a-]^[\\{,19}(|)&!*\n.", 100), madeText(r, "a\n", 10))
		tryPlain(t, madeText(r, "|&()*\n", 20), madeText(r, "a\n", 10))
		tryPlainTable(t, madeText(r, "-0>,;", 10), madeText(r, "a\n", 10))
		tryPlainTable(t, madeText(r, "-,0000>0000;", 30), any)
	}
}

func TestVeryLongStrings(t *testing.T) {
	const long = 1 << 22
	for _, sign := range []string{"(", "[", "a", "!", "\\", "\n", "|", "\xff", "a{1,9}", "(a)*"} {
		list := rep(sign, long)
		if fault, place := munch.Check(list); fault != munch.ErrLong || place != 0 {
			t.Errorf("P3: Check of %q many times = %d %d, want 1 0", sign, fault, place)
		}
		tryPlain(t, list, list)
	}
	tryTag(t, "a*", 0, rep("a", long))
	tryTag(t, "a*\n.*", 1, rep("a", long)+"b")
	tryTag(t, "(ab)*", -1, rep("ab", long)+"a")
	tryTag(t, "!(a|b)*", 0, rep("ab", long)+"c")
	tryPlainTable(t, "0,6161>0000", rep("a", long)+"b")
	tryPlainTable(t, "-"+edges(256), string(make([]byte, long)))
	if tag, fault, place := munch.Walk("-,6161>0001;3,6262>0000", rep("ab", long)+"a"); tag != 3 || fault != munch.OK || place != 0 {
		t.Errorf("P7: Walk by a long text = %d %d %d, want 3 0 0", tag, fault, place)
	}
}

// Lists with as many trees to come to as there can be, and texts that come to all of them.
func TestHeavyLists(t *testing.T) {
	r := rand.New(rand.NewSource(2))
	all := make([]byte, 1<<18)
	for i := range all {
		all[i] = byte(r.Intn(256))
	}
	few := madeText(r, "ab", 1<<18)
	for _, list := range []string{
		".*a.{8,8}", "(a|b)*a[ab]{7,7}", "!.*[a-z].{8,8}", "(a*b?){1,5}", "((a?b*){2,2}c*){2,2}", "(.?a?){5,5}", "((((a*)*b)*|c*)*|.*a.{4,4})*",
		"(aaa)*&!(aaaaa)*", ".*a..&!.*b..", "(.*a|b.*){2,2}(a?b?)", ".*a.\n.*b.\n.*c.\n.", "(a+b+){1,2}(b+a+){1,3}", "(a{1,3}|b{1,3}){1,1}(ab)*", rep("(a?", 8) + rep(")*", 8),
	} {
		second := ready(list)
		for _, w := range []string{"", "a", "ab", "aabbaabb", "abababababababa"} {
			compareTag(t, list, second, w)
		}
		tryPlain(t, list, string(all))
		tryPlain(t, list, few)
	}
	// The library takes no counts as high as these.
	tryTag(t, rep("(", 8)+rep("){9,9}", 8), 0, "")
	tryTag(t, rep("(", 8)+rep("){9,9}", 8), -1, "a", few)
	tryTag(t, rep("(", 8)+"|"+rep("){0,9}", 8)+"a*", 0, "", "a", rep("a", 1000))
}

type question struct{ list, w string }

// answer is what all calls answer, written down.
type answer string

func ask(q question) answer {
	var out []any
	add := func(results ...any) { out = append(out, results...) }
	fault, place := munch.Check(q.list)
	add(fault, place)
	tag, fault, place := munch.Tag(q.list, q.w)
	add(tag, fault, place)
	table, fault, place := munch.Compile(q.list)
	add(table, fault, place)
	fault, place = munch.CheckTable(q.list)
	add(fault, place)
	fault, place = munch.CheckTable(table)
	add(fault, place)
	tag, fault, place = munch.Walk(table, q.w)
	add(tag, fault, place)
	differ, w, fault, place := munch.Differ(q.list, q.w)
	add(differ, w, fault, place)
	ahead, fault, place := munch.Ahead(q.list)
	add(ahead, fault, place)
	x, fault, place := munch.New(q.list)
	add(x != nil, fault, place)
	if x != nil {
		add(told(x.Feed(q.w)), told(x.Feed(q.w)), told(x.Close()))
	}
	return answer(fmt.Sprintf("%q", out))
}

func questions() []question {
	r := rand.New(rand.NewSource(5))
	var out []question
	for range 400 {
		out = append(out, question{madeList(r), madeText(r, "abc", 6)}, question{madeText(r, "a[](|)*&!\n", 12), "a"})
	}
	return append(out, question{".\n.\n.\n.\n.", "a"}, question{"[]\n.\n[]\n.\n.", "a"}, question{"a\nb\nc\nd\n.", "x"}, question{rep("a", 81), "a"}, question{rep("a", 11), "a"}, question{"", ""})
}

func TestSameAnswersInWhateverOrder(t *testing.T) {
	all := questions()
	first := make([]answer, len(all))
	for i, q := range all {
		first[i] = ask(q)
	}
	for i := len(all) - 1; i >= 0; i-- {
		for range 3 {
			if again := ask(all[i]); again != first[i] {
				t.Fatalf("P2: %q: first %s, then %s", all[i], first[i], again)
			}
		}
	}
	for _, i := range rand.New(rand.NewSource(6)).Perm(len(all)) {
		if again := ask(all[i]); again != first[i] {
			t.Fatalf("P2: %q: first %s, then %s", all[i], first[i], again)
		}
	}
}

func TestSameAnswersAtTheSameTime(t *testing.T) {
	all := questions()
	first := make([]answer, len(all))
	for i, q := range all {
		first[i] = ask(q)
	}
	var askers sync.WaitGroup
	for asker := range 8 {
		askers.Add(1)
		go func() {
			defer askers.Done()
			for i := range all {
				at := (i*(2*asker+1) + asker) % len(all)
				if again := ask(all[at]); again != first[at] {
					t.Errorf("P2: %q: alone %s, beside others %s", all[at], first[at], again)
				}
			}
		}()
	}
	askers.Wait()
}

// Which pattern is ready first must not be seen: the slow one is the first, or the last.
func TestTagDoesNotHangOnWhoIsReadyFirst(t *testing.T) {
	long := rep("ab", 20000)
	for range 50 {
		tryTag(t, "(a|b)*&!c\n.*\n.*\n.*", 0, long)
		tryTag(t, "[]\n(ab)*\n.*\n.*", 1, long)
		tryTag(t, "c*\n!(a|b)*\n.*", 2, long)
	}
}

func TestTagLeavesNoGoroutine(t *testing.T) {
	before := runtime.NumGoroutine()
	for range 500 {
		munch.Tag("a\nb\nc\nd\ne", "a")
	}
	// One that has said it is done may take a moment to be gone.
	for range 200 {
		if runtime.NumGoroutine() <= before {
			return
		}
		time.Sleep(5 * time.Millisecond)
	}
	t.Errorf("goroutines: %d before, %d after", before, runtime.NumGoroutine())
}
