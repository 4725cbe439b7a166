package munch_test

import (
	"math/rand"
	"strconv"
	"strings"
	"testing"

	"munch/munch"
)

func tryCheckTable(t *testing.T, table string, want munch.Errno, wantPlace int) {
	t.Helper()
	if fault, place := munch.CheckTable(table); fault != want || place != wantPlace {
		t.Errorf("P6: CheckTable(%.90q) = %d %d, want %d %d", table, fault, place, want, wantPlace)
	}
	tag, fault, place := munch.Walk(table, "")
	if fault != want || place != wantPlace || want != munch.OK && tag != 0 {
		t.Errorf("P7: Walk(%.90q, \"\") = %d %d %d, want the error %d %d", table, tag, fault, place, want, wantPlace)
	}
}

func TestGoodTables(t *testing.T) {
	for _, table := range []string{
		"-", "0", "1", "2", "3", "4", "-;-", "0;1;2;3;4;-", "-;0", "-;-;-",
		"-,0000>0000", "4,ffff>0000", "-,00ff>0000", "-,0001>0000,0202>0000,03ff>0000", "-,0000>0000,ffff>0000",
		"-,6161>0001;0", "0;-,6161>0000", "-;-;-,0009>0002,0a0f>0001,a0f9>0000", "-,abcd>0001,cece>0001,fefe>0000;3,0000>0001",
		"-" + strings.Repeat(";-", 9) + ";-,0000>0010",
	} {
		tryCheckTable(t, table, munch.OK, 0)
	}
	tryCheckTable(t, "-"+edges(256), munch.OK, 0)
}

// Each kind of fault, in a state that is the only one, the first, and the third.
func TestBadStates(t *testing.T) {
	for _, state := range []string{
		"", "5", "9", "x", "+", " ", "_", ",", ",6161>0000", "--", "00", "-0", "0-", "- ", " -", "-\n", "0\x00", "\xff",
		"-,", "-6161>0000", "-,6", "-,616", "-,6161", "-,6161>", "-,6161>0", "-,6161>00", "-,6161>000", "-,6161>00000", "-,6161>0000 ", "-,6161>0000,", "-,,6161>0000",
		"-,61>0000", "-,616>0000", "-,61616>0000", "-,616161>0000", "-,6161:0000", "-,61610000", "-,6161>>000", "-,6161=0000", "- 6161>0000", "-.6161>0000", "-,6161>0000.6262>0000",
		"-,A1A1>0000", "-,61A1>0000", "-,6A6B>0000", "-,6a6B>0000", "-,FFFF>0000", "-,6g6g>0000", "-,6/61>0000", "-,6:61>0000", "-,6`61>0000", "-, 161>0000", "-,+1+2>0000", "-,-1-1>0000", "-,0x0x>0000",
		"-,6161>+000", "-,6161>-000", "-,6161>0x00", "-,6161>000a", "-,6161> 000", "-,6161>00:0", "-,6161>/000", "-,6161>0_00",
		"-,6261>0000", "-,ff00>0000", "-,6160>0000", "-,100f>0000",
		"-,6161>0000,6161>0000", "-,6162>0000,6263>0000", "-,6262>0000,6161>0000", "-,6164>0000,6263>0000", "-,00ff>0000,0000>0000", "-,00ff>0000,ffff>0000", "-,0001>0000,0102>0000", "-,0000>0000,0202>0000,0101>0000",
		"-,6161>9999", "-,6161>9998", "-,6161>0003", "-,6161>0000,6262>0003", "-,6161>1000", "-,6161>0100", "-,6161>0010",
	} {
		tryCheckTable(t, state, munch.ErrTable, 0)
		tryCheckTable(t, state+";-;0", munch.ErrTable, 0)
		tryCheckTable(t, "-;0,0000>0002;"+state, munch.ErrTable, 2)
		tryCheckTable(t, "-;"+state+";"+state, munch.ErrTable, 1)
	}
	tryCheckTable(t, ";", munch.ErrTable, 0)
	tryCheckTable(t, "-;", munch.ErrTable, 1)
	tryCheckTable(t, ";-", munch.ErrTable, 0)
	tryCheckTable(t, "-;;-", munch.ErrTable, 1)
	tryCheckTable(t, "-;-;-;", munch.ErrTable, 3)
}

// An edge leads nowhere if its number is that of no piece, whatever else is wrong further on.
func TestEdgesToNoState(t *testing.T) {
	tryCheckTable(t, "-,6161>0001", munch.ErrTable, 0)
	tryCheckTable(t, "-,6161>0001;0", munch.OK, 0)
	tryCheckTable(t, "-;-,6161>0002", munch.ErrTable, 1)
	tryCheckTable(t, "-,6161>0001;-,6161>0002", munch.ErrTable, 1)
	tryCheckTable(t, "-,6161>0002;x", munch.ErrTable, 0)
	tryCheckTable(t, "-,6161>0001;x", munch.ErrTable, 1)
	tryCheckTable(t, "-,0000>0000,6161>0002;-", munch.ErrTable, 0)
}

func TestManyStates(t *testing.T) {
	many := func(states int) string { return "-" + rep(";-", states-1) }
	tryCheckTable(t, many(9998), munch.OK, 0)
	tryCheckTable(t, many(9999), munch.OK, 0)
	tryCheckTable(t, many(10000), munch.ErrTable, 9999)
	tryCheckTable(t, many(10001), munch.ErrTable, 9999)
	tryCheckTable(t, many(100000), munch.ErrTable, 9999)
	tryCheckTable(t, many(9999)+";", munch.ErrTable, 9999)
	tryCheckTable(t, many(9999)+";x", munch.ErrTable, 9999)
	tryCheckTable(t, many(9998)+";x", munch.ErrTable, 9998)
	tryCheckTable(t, many(9998)+";x;-", munch.ErrTable, 9998)
	tryCheckTable(t, "x;"+many(9999), munch.ErrTable, 0)
	tryCheckTable(t, many(5000)+";0,0000>9998;"+many(4998), munch.OK, 0)
	tryCheckTable(t, many(5000)+";0,0000>9999;"+many(4998), munch.ErrTable, 5000)
	tryCheckTable(t, many(5000)+";0,0000>9998;"+many(4997), munch.ErrTable, 5000)
	tryCheckTable(t, many(5000)+";0,0000>9999;"+many(4999), munch.ErrTable, 9999) // the piece is there, but one too many
	tryCheckTable(t, "0,6161>9998;"+many(9997)+";4,6262>0001", munch.OK, 0)
	if tag, _, _ := munch.Walk("0,6161>9998;"+many(9997)+";4,6262>0001", "a"); tag != 4 {
		t.Errorf("P7: by the last state of 9999 one comes to %d, want 4", tag)
	}
}

// edges answers so many edges to state 0, for one byte each.
func edges(count int) string {
	out := ""
	for b := range count {
		two := strconv.FormatInt(int64(b)+256, 16)[1:]
		out += "," + two + two + ">0000"
	}
	return out
}

// A table's length is always odd, so the longest one has 199999 bytes; what has 200000 is none for what is in it, and one byte more is too long, whatever is in it.
func TestLongTables(t *testing.T) {
	table := rep("-"+edges(20)+";", 800) + rep("4"+edges(19)+";", 199) + "4" + edges(19)
	if len(table) != 199999 {
		t.Fatalf("the table has %d bytes", len(table))
	}
	tryCheckTable(t, table, munch.OK, 0)
	tryCheckTable(t, table+";", munch.ErrTable, 1000)
	tryCheckTable(t, table+"0", munch.ErrTable, 999)
	tryCheckTable(t, table+";0", munch.ErrLong, 0)
	tryCheckTable(t, rep("-", 200000), munch.ErrTable, 0)
	tryCheckTable(t, rep("-", 200001), munch.ErrLong, 0)
	tryCheckTable(t, rep(";", 200000), munch.ErrTable, 0)
	tryCheckTable(t, rep("-;", 100000), munch.ErrTable, 9999)
	tryCheckTable(t, rep("-;", 100000)+"-", munch.ErrLong, 0)
	tryCheckTable(t, rep("x", 1<<22), munch.ErrLong, 0)
}

type walkCase struct {
	table, w string
	want     int
}

func TestWalk(t *testing.T) {
	const lost = "1,6161>0001,6262>0002;-,6161>0001;-,6262>0003;2,6363>0000;3,0000>0004" // 1 leads nowhere, 4 is not come to
	for _, c := range []walkCase{
		{"-", "", -1}, {"-", "a", -1}, {"-", rep("a", 1000), -1}, {"0", "", 0}, {"4", "", 4}, {"4", "a", -1}, {"4", "\x00", -1},
		{"2,6163>0000", "", 2}, {"2,6163>0000", "abcabc", 2}, {"2,6163>0000", "abcdabc", -1}, {"2,6163>0000", "`", -1},
		{"-,00ff>0001;3,00ff>0000", "\x00", 3}, {"-,00ff>0001;3,00ff>0000", "\xff\x80", -1}, {"-,00ff>0001;3,00ff>0000", "\xff\x80\n", 3},
		{"-,0000>0001,ffff>0002;0;1", "\x00", 0}, {"-,0000>0001,ffff>0002;0;1", "\xff", 1}, {"-,0000>0001,ffff>0002;0;1", "\x01", -1}, {"-,0000>0001,ffff>0002;0;1", "\xfe", -1},
		{"-,6161>0001,6264>0002,6666>0003;0;1;2", "a", 0}, {"-,6161>0001,6264>0002,6666>0003;0;1;2", "b", 1}, {"-,6161>0001,6264>0002,6666>0003;0;1;2", "d", 1}, {"-,6161>0001,6264>0002,6666>0003;0;1;2", "e", -1}, {"-,6161>0001,6264>0002,6666>0003;0;1;2", "f", 2}, {"-,6161>0001,6264>0002,6666>0003;0;1;2", "g", -1},
		{"0,6161>0001,6262>0001;0,6161>0000,6262>0000", "abba", 0}, {"0,6161>0001,6262>0001;0,6161>0000,6262>0000", "abc", -1},
		{lost, "", 1}, {lost, "a", -1}, {lost, "aaa", -1}, {lost, "b", -1}, {lost, "bb", 2}, {lost, "bbc", 1}, {lost, "bbcbb", 2}, {lost, "bbca", -1}, {lost, "bba", -1}, {lost, "\x00", -1},
		{"-,6161>0002;0;1,6161>0001", "aa", 0}, {"-,6161>0002;0;1,6161>0001", "a", 1}, {"-,6161>0002;0;1,6161>0001", "aaa", -1},
	} {
		if tag, fault, place := munch.Walk(c.table, c.w); tag != c.want || fault != munch.OK || place != 0 {
			t.Errorf("P7: Walk(%q, %.40q) = %d %d %d, want %d 0 0", c.table, c.w, tag, fault, place, c.want)
		}
	}
}

// madeTable makes up a table that is seldom a least one.
func madeTable(r *rand.Rand) string {
	states := make([]string, 1+r.Intn(6))
	for i := range states {
		states[i] = []string{"-", "-", "0", "1", "2", "3", "4"}[r.Intn(7)]
		for b := r.Intn(0x68); b < 256; b += 1 + r.Intn(120)*r.Intn(2) {
			to := min(255, b+r.Intn(3)*r.Intn(30))
			hex := strconv.FormatInt(int64(b)+256, 16)[1:] + strconv.FormatInt(int64(to)+256, 16)[1:]
			states[i] += "," + hex + ">000" + strconv.Itoa(r.Intn(len(states)))
			b = to
		}
	}
	return strings.Join(states, ";")
}

// spoilt changes some bytes of a table.
func spoilt(r *rand.Rand, table string) string {
	const signs = "-0123456789abcdefA,,>>;;x"
	for range r.Intn(3) {
		at, sign := r.Intn(len(table)), signs[r.Intn(len(signs))]
		switch r.Intn(3) {
		case 0:
			table = table[:at] + string(sign) + table[at+1:]
		case 1:
			table = table[:at] + string(sign) + table[at:]
		case 2:
			table = table[:at] + table[at+1:] + "-"
		}
	}
	return table
}

func TestMadeUpTables(t *testing.T) {
	r := rand.New(rand.NewSource(10))
	good := 0
	for range 20000 {
		table := spoilt(r, madeTable(r))
		states, want, wantPlace := secondRead(table)
		tryCheckTable(t, table, want, wantPlace)
		if want != munch.OK {
			continue
		}
		good++
		for range 10 {
			w := madeText(r, "\x00\x20aAbchz\x80\xff", 8)
			if tag, fault, place := munch.Walk(table, w); tag != states.walk(w) || fault != munch.OK || place != 0 {
				t.Fatalf("P7: Walk(%q, %q) = %d %d %d, want %d 0 0", table, w, tag, fault, place, states.walk(w))
			}
		}
	}
	if good < 5000 {
		t.Errorf("only %d of the tables were good", good)
	}
}

func TestWalkEveryByte(t *testing.T) {
	r := rand.New(rand.NewSource(11))
	for range 200 {
		table := madeTable(r)
		states, _, _ := secondRead(table)
		for b := range 256 {
			w := string([]byte{byte(b)})
			if tag, _, _ := munch.Walk(table, w); tag != states.walk(w) {
				t.Fatalf("P7: Walk(%q, %q) = %d, want %d", table, w, tag, states.walk(w))
			}
		}
	}
}
