package munch_test

import (
	"math/rand"
	"runtime"
	"sync"
	"testing"
	"time"

	"munch/munch"
)

// tryPlain asks what P1 says of Check and Tag at any strings.
func tryPlain(t *testing.T, list, w string) {
	t.Helper()
	fault, place := munch.Check(list)
	if fault < munch.OK || fault > munch.ErrWeight {
		t.Errorf("P1: Check(%.90q) = %d", list, fault)
	}
	if fault != munch.ErrText && fault != munch.ErrNest && place != 0 {
		t.Errorf("P1: Check(%.90q) = %d with the place %d, want 0", list, fault, place)
	}
	if place < 0 || place > len(list) {
		t.Errorf("P1: Check(%.90q): the place %d is none of the text", list, place)
	}
	tag, tagFault, tagPlace := munch.Tag(list, w)
	if tagFault != fault || tagPlace != place {
		t.Errorf("P1: Tag(%.90q, %.90q) fails with %d %d, Check with %d %d", list, w, tagFault, tagPlace, fault, place)
	}
	if fault != munch.OK && tag != 0 {
		t.Errorf("P1: Tag(%.90q, %.90q) = %d beside an error, want 0", list, w, tag)
	}
}

func TestAnyStrings(t *testing.T) {
	r := rand.New(rand.NewSource(1))
	any := make([]byte, 256)
	for b := range any {
		any[b] = byte(b)
	}
	for range 20000 {
		tryPlain(t, madeText(r, string(any), 100), madeText(r, string(any), 100))
		tryPlain(t, madeText(r, "a-]^[\\{,19}(|)&!*\n.", 100), madeText(r, "a\n", 10))
		tryPlain(t, madeText(r, "|&()*\n", 20), madeText(r, "a\n", 10))
	}
}

func TestVeryLongStrings(t *testing.T) {
	const long = 1 << 22
	for _, sign := range []string{"(", "[", "a", "!", "\\", "\n", "|", "\xff", "a{1,9}", "(a)*"} {
		list := rep(sign, long)
		if fault, place := munch.Check(list); fault != munch.ErrLong || place != 0 {
			t.Errorf("P3: Check of %q many times = %d %d, want 1 0", sign, fault, place)
		}
		tryPlain(t, list, list)
	}
	tryTag(t, "a*", 0, rep("a", long))
	tryTag(t, "a*\n.*", 1, rep("a", long)+"b")
	tryTag(t, "(ab)*", -1, rep("ab", long)+"a")
	tryTag(t, "!(a|b)*", 0, rep("ab", long)+"c")
}

// Lists with as many trees to come to as there can be, and texts that come to all of them.
func TestHeavyLists(t *testing.T) {
	r := rand.New(rand.NewSource(2))
	all := make([]byte, 1<<18)
	for i := range all {
		all[i] = byte(r.Intn(256))
	}
	few := madeText(r, "ab", 1<<18)
	for _, list := range []string{
		".*a.{8,8}", "(a|b)*a[ab]{7,7}", "!.*[a-z].{8,8}", "(a*b?){1,5}", "((a?b*){2,2}c*){2,2}", "(.?a?){5,5}", "((((a*)*b)*|c*)*|.*a.{4,4})*",
		"(aaa)*&!(aaaaa)*", ".*a..&!.*b..", "(.*a|b.*){2,2}(a?b?)", ".*a.\n.*b.\n.*c.\n.", "(a+b+){1,2}(b+a+){1,3}", "(a{1,3}|b{1,3}){1,1}(ab)*", rep("(a?", 8) + rep(")*", 8),
	} {
		second := ready(list)
		for _, w := range []string{"", "a", "ab", "aabbaabb", "abababababababa"} {
			compareTag(t, list, second, w)
		}
		tryPlain(t, list, string(all))
		tryPlain(t, list, few)
	}
	// The library takes no counts as high as these.
	tryTag(t, rep("(", 8)+rep("){9,9}", 8), 0, "")
	tryTag(t, rep("(", 8)+rep("){9,9}", 8), -1, "a", few)
	tryTag(t, rep("(", 8)+"|"+rep("){0,9}", 8)+"a*", 0, "", "a", rep("a", 1000))
}

type question struct{ list, w string }

type answer struct {
	checkFault, tagFault      munch.Errno
	checkPlace, tag, tagPlace int
}

func ask(q question) answer {
	var a answer
	a.checkFault, a.checkPlace = munch.Check(q.list)
	a.tag, a.tagFault, a.tagPlace = munch.Tag(q.list, q.w)
	return a
}

func questions() []question {
	r := rand.New(rand.NewSource(5))
	var out []question
	for range 400 {
		out = append(out, question{madeList(r), madeText(r, "abc", 6)}, question{madeText(r, "a[](|)*&!\n", 12), "a"})
	}
	return append(out, question{".\n.\n.\n.\n.", "a"}, question{"[]\n.\n[]\n.\n.", "a"}, question{"a\nb\nc\nd\n.", "x"}, question{rep("a", 81), "a"}, question{rep("a", 11), "a"}, question{"", ""})
}

func TestSameAnswersInWhateverOrder(t *testing.T) {
	all := questions()
	first := make([]answer, len(all))
	for i, q := range all {
		first[i] = ask(q)
	}
	for i := len(all) - 1; i >= 0; i-- {
		for range 3 {
			if again := ask(all[i]); again != first[i] {
				t.Fatalf("P2: %q: first %v, then %v", all[i], first[i], again)
			}
		}
	}
	for _, i := range rand.New(rand.NewSource(6)).Perm(len(all)) {
		if again := ask(all[i]); again != first[i] {
			t.Fatalf("P2: %q: first %v, then %v", all[i], first[i], again)
		}
	}
}

func TestSameAnswersAtTheSameTime(t *testing.T) {
	all := questions()
	first := make([]answer, len(all))
	for i, q := range all {
		first[i] = ask(q)
	}
	var askers sync.WaitGroup
	for asker := range 8 {
		askers.Add(1)
		go func() {
			defer askers.Done()
			for i := range all {
				at := (i*(2*asker+1) + asker) % len(all)
				if again := ask(all[at]); again != first[at] {
					t.Errorf("P2: %q: alone %v, beside others %v", all[at], first[at], again)
				}
			}
		}()
	}
	askers.Wait()
}

// Which pattern is ready first must not be seen: the slow one is the first, or the last.
func TestTagDoesNotHangOnWhoIsReadyFirst(t *testing.T) {
	long := rep("ab", 20000)
	for range 50 {
		tryTag(t, "(a|b)*&!c\n.*\n.*\n.*", 0, long)
		tryTag(t, "[]\n(ab)*\n.*\n.*", 1, long)
		tryTag(t, "c*\n!(a|b)*\n.*", 2, long)
	}
}

func TestTagLeavesNoGoroutine(t *testing.T) {
	before := runtime.NumGoroutine()
	for range 500 {
		munch.Tag("a\nb\nc\nd\ne", "a")
	}
	// One that has said it is done may take a moment to be gone.
	for range 200 {
		if runtime.NumGoroutine() <= before {
			return
		}
		time.Sleep(5 * time.Millisecond)
	}
	t.Errorf("goroutines: %d before, %d after", before, runtime.NumGoroutine())
}
