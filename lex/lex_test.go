package lex_test

import (
	"math/rand/v2"
	"slices"
	"strconv"
	"strings"
	"testing"

	"regrater/api"
	"regrater/lex"
)

func many(s string, n int) string { return strings.Repeat(s, n) }

// The numbers of kinds.
func TestKinds(t *testing.T) {
	if [...]int{lex.Name, lex.Key, lex.Number, lex.Text, lex.Sign} != [...]int{1, 2, 3, 4, 5} {
		t.Error("kinds")
	}
}

// P14.1: tokens of texts.
func TestSplit(t *testing.T) {
	for _, c := range []struct {
		s    string
		want []lex.Token
	}{
		{"", nil},
		{" \n \n", nil},
		{"a<=1", []lex.Token{{1, "a", 0, 0}, {5, "<=", 0, 1}, {3, "1", 1, 3}}},
		{" SELECT\na_1, b", []lex.Token{{2, "SELECT", 0, 1}, {1, "a_1", 0, 8}, {5, ",", 0, 11}, {1, "b", 0, 13}}},
		{"aB", []lex.Token{{1, "a", 0, 0}, {2, "B", 0, 1}}},
		{"Ab1", []lex.Token{{2, "A", 0, 0}, {1, "b1", 0, 1}}},
		{"1a", []lex.Token{{3, "1", 1, 0}, {1, "a", 0, 1}}},
		{"A1B", []lex.Token{{2, "A", 0, 0}, {3, "1", 1, 1}, {2, "B", 0, 2}}},
		{"007", []lex.Token{{3, "007", 7, 0}}},
		{"9223372036854775807", []lex.Token{{3, "9223372036854775807", 1<<63 - 1, 0}}},
		{"0000000000000000001", []lex.Token{{3, "0000000000000000001", 1, 0}}},
		{"''", []lex.Token{{4, "", 0, 0}}},
		{"'a''b'", []lex.Token{{4, "a'b", 0, 0}}},
		{"''''", []lex.Token{{4, "'", 0, 0}}},
		{"'a' 'b'", []lex.Token{{4, "a", 0, 0}, {4, "b", 0, 4}}},
		{"'A\n#\xff\x00'x", []lex.Token{{4, "A\n#\xff\x00", 0, 0}, {1, "x", 0, 7}}},
		{"<><=>=||(),.*+-/%=<>", []lex.Token{{5, "<>", 0, 0}, {5, "<=", 0, 2}, {5, ">=", 0, 4}, {5, "||", 0, 6}, {5, "(", 0, 8}, {5, ")", 0, 9}, {5, ",", 0, 10}, {5, ".", 0, 11}, {5, "*", 0, 12}, {5, "+", 0, 13}, {5, "-", 0, 14}, {5, "/", 0, 15}, {5, "%", 0, 16}, {5, "=", 0, 17}, {5, "<>", 0, 18}}},
		{"<<=>>==<", []lex.Token{{5, "<", 0, 0}, {5, "<=", 0, 1}, {5, ">", 0, 3}, {5, ">=", 0, 4}, {5, "=", 0, 6}, {5, "<", 0, 7}}},
		{"< >", []lex.Token{{5, "<", 0, 0}, {5, ">", 0, 2}}},
		{many("a", 16), []lex.Token{{1, many("a", 16), 0, 0}}},
		{many("A", 16) + many("b", 16), []lex.Token{{2, many("A", 16), 0, 0}, {1, many("b", 16), 0, 16}}},
		{"'" + many("x", 64) + "'", []lex.Token{{4, many("x", 64), 0, 0}}},
		{"'" + many("''", 64) + "'", []lex.Token{{4, many("'", 64), 0, 0}}},
	} {
		l, at, err := lex.Split(c.s)
		if err != api.OK || at != 0 || !slices.Equal(l, c.want) {
			t.Errorf("Split(%q) = %v, %d, %d", c.s, l, at, err)
		}
	}
}

// P14.1: errors, each at its index.
func TestErrors(t *testing.T) {
	for _, c := range []struct {
		s    string
		at   int
		want api.Errno
	}{
		{"#", 0, api.ErrForm},
		{"a b #", 4, api.ErrForm},
		{"a\tb", 1, api.ErrForm},
		{"a\r", 1, api.ErrForm},
		{"_a", 0, api.ErrForm},
		{"A_", 1, api.ErrForm},
		{"1_", 1, api.ErrForm},
		{"a|b", 1, api.ErrForm},
		{"a|", 1, api.ErrForm},
		{"|||", 2, api.ErrForm},
		{"a;", 1, api.ErrForm},
		{"\"a\"", 0, api.ErrForm},
		{"a!=b", 1, api.ErrForm},
		{"\x00", 0, api.ErrForm},
		{"é", 0, api.ErrForm},
		{"a 'b", 2, api.ErrForm},
		{"a '", 2, api.ErrForm},
		{"a 'b''", 2, api.ErrForm},
		{" '" + many("x", 100), 1, api.ErrForm}, // not terminated goes ahead of too long
		{many("a", 17), 0, api.ErrRange},
		{"x " + many("a", 8) + many("_", 8) + "1", 2, api.ErrRange},
		{"(" + many("A", 17) + "#", 1, api.ErrRange},
		{"9223372036854775808", 0, api.ErrRange},
		{"-9223372036854775808", 1, api.ErrRange},
		{"9999999999999999999", 0, api.ErrRange},
		{"a 00000000000000000001", 2, api.ErrRange},
		{many("9", 40), 0, api.ErrRange},
		{"18446744073709551617", 0, api.ErrRange},
		{"b,'" + many("x", 65) + "'", 2, api.ErrRange},
		{"'" + many("''", 65) + "'", 0, api.ErrRange},
		{"# " + many("a", 17), 0, api.ErrForm},
		{many("a", 17) + " #", 0, api.ErrRange},
		{many(" ", 2001), 0, api.ErrLong},
		{"#" + many(" ", 2000), 0, api.ErrLong},
	} {
		l, at, err := lex.Split(c.s)
		if err != c.want || at != c.at || len(l) != 0 {
			t.Errorf("Split(%q) = %v, %d, %d; want %d, %d", c.s, l, at, err, c.at, c.want)
		}
	}
	if l, at, err := lex.Split(many(" ", 1999) + "a"); err != api.OK || at != 0 || !slices.Equal(l, []lex.Token{{1, "a", 0, 1999}}) {
		t.Error("2000 bytes", l, at, err)
	}
}

// P14.1: for each byte alone whether a token begins with it.
func TestBytes(t *testing.T) {
	for c := range 256 {
		s := string([]byte{byte(c)})
		l, _, err := lex.Split(s)
		want := api.OK
		tokens := 1
		if s == " " || s == "\n" {
			tokens = 0
		} else if !strings.Contains("abcdefghijklmnopqrstuvwxyzABCDEFGHIJKLMNOPQRSTUVWXYZ0123456789(),.*+-/%=<>", s) {
			want, tokens = api.ErrForm, 0
		}
		if err != want || len(l) != tokens {
			t.Errorf("%q: %v, %d", s, l, err)
		}
	}
}

// P14.2: how tokens are written.
func TestJoin(t *testing.T) {
	for _, c := range []struct {
		l    []lex.Token
		want string
	}{
		{nil, ""},
		{[]lex.Token{{1, "a", 0, 5}, {5, "<=", 0, 0}, {3, "007", 7, 0}, {4, "it's", 0, 0}, {2, "AND", 0, 0}}, "a <= 7 'it''s' AND"},
		{[]lex.Token{{4, "", 0, 0}}, "''"},
		{[]lex.Token{{3, "", 0, 0}}, "0"},
	} {
		if got := lex.Join(c.l); got != c.want {
			t.Errorf("Join(%v) = %q", c.l, got)
		}
	}
}

// P14.2: Split of Join returns the tokens again.
func TestJoinSplit(t *testing.T) {
	r := rand.New(rand.NewPCG(14, 2))
	words := []string{"a", "b_9", "SELECT", "X", "0", "12", "0042", "9223372036854775807", "''", "'x y'", "''''", "'<='", "<>", "<", ">", "<=", ">=", "=", "||", "(", ")", ",", ".", "*", "+", "-", "/", "%"}
	for range 300 {
		s := ""
		for range r.IntN(20) {
			s += words[r.IntN(len(words))] + []string{" ", "\n", "  "}[r.IntN(3)]
		}
		first, _, err := lex.Split(s)
		if err != api.OK {
			t.Fatal(s, err)
		}
		again, _, err := lex.Split(lex.Join(first))
		if err != api.OK || len(again) != len(first) {
			t.Fatal(s, err)
		}
		for i, x := range first {
			y := again[i]
			if x.Kind == lex.Number {
				x.S = strconv.FormatInt(x.N, 10)
			}
			if x.Kind != y.Kind || x.S != y.S || x.N != y.N {
				t.Fatal(x, y)
			}
		}
	}
}

// P14.2: what is a name.
func TestGood(t *testing.T) {
	for _, name := range []string{"a", "z", "a1", "a_", "abc_d_9", many("a", 16)} {
		if !lex.Good(name) {
			t.Error(name)
		}
	}
	for _, name := range []string{"", "A", "aB", "_a", "1", "1a", "a b", " a", "a ", "a.b", "é", "aé", "a-", "a\x00", many("a", 17)} {
		if lex.Good(name) {
			t.Error(name)
		}
	}
}
