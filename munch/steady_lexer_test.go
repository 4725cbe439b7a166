package munch_test

import (
	"fmt"
	"math/rand"
	"runtime"
	"slices"
	"sync"
	"testing"

	"munch/munch"
)

// plainLexer asks what P1 says of a lexer's calls, at any strings and in any order.
type plainLexer struct {
	*munch.Lexer
	list  string
	came  int
	end   int // of the last token
	stuck bool
}

func tryPlainNew(t *testing.T, list string) *plainLexer {
	t.Helper()
	want, wantPlace := munch.Check(list)
	x, fault, place := munch.New(list)
	if fault != want || place != wantPlace || (x != nil) != (fault == munch.OK) {
		t.Errorf("P1: New(%.90q) = %v %d %d, Check says %d %d", list, x != nil, fault, place, want, wantPlace)
	}
	if x == nil {
		return nil
	}
	return &plainLexer{Lexer: x, list: list}
}

func (p *plainLexer) try(t *testing.T, tokens []munch.Token, fault munch.Errno, place int) {
	t.Helper()
	before := p.end
	for _, token := range tokens {
		if p.stuck || token.From != p.end || token.To <= token.From || token.To > p.came || token.Tag < 0 || token.Tag > 4 {
			t.Fatalf("P1: by %q %d bytes have come, with tokens up to %d: the next one is %v, stuck %v", p.list, p.came, p.end, token, p.stuck)
		}
		p.end = token.To
	}
	switch {
	case fault == munch.OK && place == 0 && !p.stuck:
	case fault == munch.ErrStuck && place == p.end && p.came > place:
		p.stuck = true
	default:
		t.Fatalf("P1: by %q %d bytes have come, with tokens up to %d, then %d: %d %d, stuck %v", p.list, p.came, before, p.end, fault, place, p.stuck)
	}
}

func (p *plainLexer) feed(t *testing.T, piece string) {
	t.Helper()
	if !p.stuck {
		p.came += len(piece)
	}
	tokens, fault, place := p.Feed(piece)
	p.try(t, tokens, fault, place)
}

func (p *plainLexer) close(t *testing.T) {
	t.Helper()
	tokens, fault, place := p.Close()
	p.try(t, tokens, fault, place)
	if fault == munch.OK {
		if p.end != p.came {
			t.Fatalf("P10: by %q %d bytes have come; behind Close the tokens go up to %d", p.list, p.came, p.end)
		}
		p.came, p.end = 0, 0
	}
}

func TestLexersAtAnyStrings(t *testing.T) {
	r := rand.New(rand.NewSource(60))
	any := allBytes()
	for range 4000 {
		list := madeGoodList(r)
		switch r.Intn(4) {
		case 0:
			list = madeText(r, any, 20)
		case 1:
			list = madeText(r, "a-]^[\\{,19}(|)&!*\n.", 20)
		case 2:
			list = madeText(r, "ab[]|()*?\n.!", 8)
		}
		x := tryPlainNew(t, list)
		for range r.Intn(30) {
			switch {
			case x == nil || r.Intn(8) == 0:
				tryPlainNew(t, madeText(r, "a()[\n", 5))
			case r.Intn(4) == 0:
				x.close(t)
			case r.Intn(2) == 0:
				x.feed(t, madeText(r, "ab", 3))
			default:
				x.feed(t, madeText(r, any, 3))
			}
		}
	}
}

func TestLexersAtVeryLongStrings(t *testing.T) {
	const long = 1 << 21
	for _, list := range []string{"", "[]", ".*", ".", "a", "a*", "(ab)+", "a*b", "a|a.*c", "!a", "[ab]*a[ab]{7,7}\n[ab]", "!.*a.{6,6}b\na"} {
		for _, text := range []string{rep("a", long), rep("ab", long/2), string(make([]byte, long))} {
			x := tryPlainNew(t, list)
			x.feed(t, text)
			x.feed(t, "")
			x.feed(t, text)
			x.close(t)
			x.feed(t, text[:9])
			x.close(t)
		}
	}
}

// What is no lexer tells nothing, and does not panic.
func TestNoLexer(t *testing.T) {
	none, _, _ := munch.New("a!")
	for _, x := range []*munch.Lexer{none, nil, {}} {
		for range 2 {
			if got := told(x.Feed("a")); got != "" {
				t.Errorf("P1: Feed of no lexer tells %q", got)
			}
			if got := told(x.Close()); got != "" {
				t.Errorf("P1: Close of no lexer tells %q", got)
			}
		}
	}
}

// call is Feed of a piece, or Close.
type call struct {
	piece string
	close bool
}

func (c call) of(x *munch.Lexer) []munch.Token {
	if c.close {
		tokens, _, _ := x.Close()
		return tokens
	}
	tokens, _, _ := x.Feed(c.piece)
	return tokens
}

func (c call) told(x *munch.Lexer) string {
	if c.close {
		return told(x.Close())
	}
	return told(x.Feed(c.piece))
}

// script is a list, calls of its lexer, and what they tell if there is no other lexer.
type script struct {
	list  string
	calls []call
	alone []string
}

func scripts(t *testing.T, count int) []script {
	r := rand.New(rand.NewSource(61))
	lists := []string{"a|aab\nb", "a*", "a|a*b", ".*b\na", "[a-z]+\n ", "(ab)+\na\nb", "a", "ab|a\nb|c", "", ".*"}
	out := make([]script, count)
	for i := range out {
		out[i].list = lists[r.Intn(len(lists))]
		for range 20 {
			out[i].calls = append(out[i].calls, call{madeText(r, "aaabbbc", 5), r.Intn(6) == 0})
		}
		if r.Intn(2) == 0 { // the same, but that it is not stuck so soon
			for j := range out[i].calls {
				out[i].calls[j].piece = madeText(r, "ab", 5)
			}
		}
		x := mustNew(t, out[i].list)
		for _, c := range out[i].calls {
			out[i].alone = append(out[i].alone, c.told(x))
		}
	}
	return out
}

func TestLexersByTurns(t *testing.T) {
	all := scripts(t, 200)
	r := rand.New(rand.NewSource(62))
	lexers := make([]*munch.Lexer, len(all))
	for i, s := range all {
		lexers[i] = mustNew(t, s.list)
	}
	gone := make([]int, len(all))
	for left := len(all) * 20; left > 0; {
		i := r.Intn(len(all))
		if gone[i] == len(all[i].calls) {
			continue
		}
		if got, want := all[i].calls[gone[i]].told(lexers[i]), all[i].alone[gone[i]]; got != want {
			t.Fatalf("P2: by %q, call %d of %v tells %q beside other lexers, %q alone", all[i].list, gone[i], all[i].calls, got, want)
		}
		gone[i]++
		left--
	}
}

func TestLexersAtTheSameTime(t *testing.T) {
	all := scripts(t, 200)
	var users sync.WaitGroup
	for user := range 8 {
		users.Add(1)
		go func() {
			defer users.Done()
			for i := range all {
				s := all[(i*(2*user+1)+user)%len(all)]
				x, _, _ := munch.New(s.list)
				for j, c := range s.calls {
					if got := c.told(x); got != s.alone[j] {
						t.Errorf("P2: by %q, call %d of %v tells %q at the same time as others, %q alone", s.list, j, s.calls, got, s.alone[j])
					}
				}
			}
		}()
	}
	users.Wait()
}

// Whatever the caller writes into a list of tokens, and behind it where there is room, changes no later answer.
func TestTokensAreTheCallers(t *testing.T) {
	for _, s := range scripts(t, 300) {
		x := mustNew(t, s.list)
		for j, c := range s.calls {
			var tokens []munch.Token
			var fault munch.Errno
			var place int
			if c.close {
				tokens, fault, place = x.Close()
			} else {
				tokens, fault, place = x.Feed(c.piece)
			}
			if got := told(tokens, fault, place); got != s.alone[j] {
				t.Fatalf("P2: by %q, call %d of %v tells %q after the caller wrote into the lists, else %q", s.list, j, s.calls, got, s.alone[j])
			}
			tokens = tokens[:cap(tokens)]
			for k := range tokens {
				tokens[k] = munch.Token{Tag: 9, From: -9, To: 99}
			}
		}
	}
}

// No later call changes a list of tokens that was answered.
func TestTokensStayAsTheyAre(t *testing.T) {
	for _, s := range scripts(t, 300) {
		x := mustNew(t, s.list)
		var lists, copies [][]munch.Token
		for _, c := range s.calls {
			tokens := c.of(x)
			lists, copies = append(lists, tokens), append(copies, slices.Clone(tokens))
		}
		for j := range lists {
			if !slices.Equal(lists[j], copies[j]) {
				t.Fatalf("P2: by %q, call %d of %v told %v, and later calls made it %v", s.list, j, s.calls, copies[j], lists[j])
			}
		}
	}
}

// A lexer keeps only what may have to be gone over again.
func TestLexersKeepLittle(t *testing.T) {
	const piece, pieces = 1 << 19, 4
	for _, c := range []struct{ list, sign string }{{".*", "a"}, {"[a-z]+\n ", "ab "}, {"a*b", "a"}, {"a*", "a"}, {"(abc)+", "abc"}, {"!a", "b"}, {"a|a*b", "b"}, {"a\n.*b", "ab"}} {
		x := mustNew(t, c.list)
		text := rep(c.sign, piece/len(c.sign))
		before := heap()
		for range pieces {
			x.Feed(text)
		}
		if after := heap(); after > before+piece/2 {
			t.Errorf("by %q, %d bytes were kept of %d", c.list, after-before, piece*pieces)
		}
		runtime.KeepAlive(text)
		runtime.KeepAlive(x)
	}
	// Here all must be kept, until the text is closed, or stuck.
	for _, end := range []string{"", "x"} {
		x := mustNew(t, "[ab]|ab*c")
		before := heap()
		x.Feed("a" + rep("b", 2*piece))
		x.Feed(end)
		x.Close()
		if after := heap(); after > before+piece/2 {
			t.Errorf("%d bytes were kept of a text that is closed behind %q", after-before, end)
		}
		runtime.KeepAlive(x)
	}
}

func heap() uint64 {
	runtime.GC()
	var stats runtime.MemStats
	runtime.ReadMemStats(&stats)
	return stats.HeapAlloc
}

// The answer does not hang on how a text is kept: two lexers, one of which was used before, tell the same.
func TestClosedLexerIsAsItWasMade(t *testing.T) {
	r := rand.New(rand.NewSource(63))
	closed := 0
	for range 1000 {
		list := madeGoodList(r)
		states, _, _ := secondReadAnyLength(tableOf(list))
		used, fresh := mustNew(t, list), mustNew(t, list)
		for _, piece := range cutAnyhow(r, hopefulText(r, states, r.Intn(15))) {
			used.Feed(piece)
		}
		if _, fault, _ := used.Close(); fault != munch.OK {
			continue
		}
		closed++
		pieces := cutAnyhow(r, hopefulText(r, states, r.Intn(15)))
		for _, piece := range pieces {
			if got, want := told(used.Feed(piece)), told(fresh.Feed(piece)); got != want {
				t.Fatalf("P10: by %q, at %q of %q a lexer that was closed tells %q, a new one %q", list, piece, pieces, got, want)
			}
		}
		if got, want := fmt.Sprint(used.Close()), fmt.Sprint(fresh.Close()); got != want {
			t.Fatalf("P10: by %q, behind %q Close of a lexer that was closed tells %q, of a new one %q", list, pieces, got, want)
		}
	}
	if closed < 100 {
		t.Errorf("only %d lexers were closed", closed)
	}
}
