package script_test

import (
	"slices"
	"strings"
	"testing"

	"regrater/api"
	"regrater/db"
	"regrater/plan"
	"regrater/row"
	"regrater/script"
	"regrater/value"
)

func num(n int64) value.Value { return value.OfInt(n) }

// P30.1: answers as lines.
func TestShow(t *testing.T) {
	columns := []plan.Column{{Name: "a", Kind: value.Int}, {}, {Name: "b_1", Kind: value.Text}}
	rows := []row.Row{{num(1), value.Value{}, value.OfText("it's")}, {num(-2), value.OfBool(true), value.OfText("")}}
	for _, c := range []struct {
		a    db.Answer
		want []string
	}{
		{db.Answer{}, []string{"ok 0"}}, {db.Answer{N: 17}, []string{"ok 17"}}, {db.Answer{Done: true}, []string{"done 0"}}, {db.Answer{N: 5, Done: true}, []string{"done 5"}},
		{db.Answer{Err: api.ErrForm, At: 13}, []string{"error 4 at 13"}}, {db.Answer{Err: api.ErrCount}, []string{"error 17 at 0"}}, {db.Answer{Err: api.ErrArg, At: 2, N: 3, Done: true, Columns: columns, Rows: rows}, []string{"error 1 at 2"}},
		{db.Answer{Columns: columns}, []string{"a, -, b_1"}}, {db.Answer{Columns: columns, Rows: rows, N: 5, Done: true}, []string{"a, -, b_1", "(1, NULL, 'it''s')", "(-2, TRUE, '')"}},
		{db.Answer{Columns: columns[1:2], Rows: []row.Row{{num(3)}}}, []string{"-", "(3)"}},
	} {
		if got := script.Show(c.a); !slices.Equal(got, c.want) {
			t.Error(c.a, got)
		}
	}
	if columns[1].Name != "" {
		t.Error("the answer was changed")
	}
}

// do lines, each with its answer, whose lines are separated by "; ".
func do(t *testing.T, s *script.Script, l ...[2]string) {
	t.Helper()
	for _, x := range l {
		if got := strings.Join(s.Do(x[0]), "; "); got != x[1] {
			t.Errorf("%s: %s; want %s", x[0], got, x[1])
		}
	}
}

// The ten examples of the whole.
func TestExamples(t *testing.T) {
	s := script.New(1)
	do(t, s, [2]string{"CREATE TABLE t (a INT PRIMARY KEY, b TEXT)", "ok 0"}, [2]string{"INSERT INTO t VALUES (1, 'x'), (2, 'x')", "ok 2"},
		[2]string{"CREATE VIEW v AS SELECT b, COUNT(*) AS k FROM t GROUP BY b", "ok 0"}, [2]string{"READ v", "b, k; ('x', 2)"},
		[2]string{"INSERT INTO t VALUES (3, 'y')", "ok 1"}, [2]string{"READ v", "error 12 at 0"}, [2]string{"PROPAGATE 0", "ok 0"})
	if got := s.Do("PROPAGATE 1000"); len(got) != 1 || !strings.HasPrefix(got[0], "done ") || got[0] == "done 0" {
		t.Error(got)
	}
	do(t, s, [2]string{"PROPAGATE 1000", "done 0"}, [2]string{"READ v", "b, k; ('x', 2); ('y', 1)"}, [2]string{"INSERT INTO t VALUES (4, 'z'), (1, 'q')", "error 7 at 0"}, [2]string{"READ v", "b, k; ('x', 2); ('y', 1)"},
		[2]string{"UPDATE t SET a = a + 1 WHERE b = 'x'", "error 7 at 0"}, [2]string{"UPDATE t SET a = a + 10", "ok 3"}, [2]string{"DROP TABLE t", "error 15 at 0"}, [2]string{"DROP VIEW v", "ok 0"}, [2]string{"DROP TABLE t", "ok 0"},
		[2]string{"CREATE TABLE t (a INT PRIMARY KEY, n INT)", "ok 0"}, [2]string{"INSERT INTO t VALUES (1, 2), (2, NULL), (3, 9)", "ok 3"}, [2]string{"SELECT l.a, r.n FROM t l LEFT JOIN t r ON l.n = r.a ORDER BY a DESC", "a, n; (3, NULL); (2, NULL); (1, NULL)"},
		[2]string{"SELECT 1 / (a - 1) FROM t", "error 9 at 0"}, [2]string{"SELECT SUM(n) + 9223372036854775807 FROM t", "error 8 at 0"}, [2]string{"SELECT COUNT(*) AS k FROM t WHERE a > 9", "k; (0)"},
		[2]string{"SELECT a FROM", "error 4 at 13"}, [2]string{"SELECT # FROM t", "error 4 at 7"}, [2]string{"READ v", "error 6 at 0"}, [2]string{"SELECT a, a + 1 FROM t WHERE a = 1", "a, -; (1, 2)"})
}

// P30.1: a report is told for just one line.
func TestReport(t *testing.T) {
	s := script.New(1)
	do(t, s, [2]string{"report", "tables 0; views 0; rows 0; cells 0; watches 0; nodes 0; reads 0; depth 0; dirty 0; stale 0; sound yes"},
		[2]string{"CREATE TABLE t (a INT PRIMARY KEY)", "ok 0"}, [2]string{"INSERT INTO t VALUES (1)", "ok 1"}, [2]string{"CREATE VIEW v AS SELECT a FROM t", "ok 0"}, [2]string{"INSERT INTO t VALUES (2)", "ok 1"},
		[2]string{"report", "tables 1; views 1; rows 2; cells 5; watches 2; nodes 4; reads 2; depth 4; dirty 1; stale 1; sound yes"},
		[2]string{"report ", "error 4 at 0"}, [2]string{" report", "error 4 at 1"}, [2]string{"REPORT", "error 4 at 0"}, [2]string{"reports", "error 4 at 0"}, [2]string{"", "error 4 at 0"}, [2]string{"# x", "error 4 at 0"})
	var none *script.Script
	for _, line := range []string{"report", "PROPAGATE 1", ""} {
		if got := none.Do(line); len(got) != 0 {
			t.Error(got)
		}
	}
}

// P30.2: whole texts.
func TestRun(t *testing.T) {
	for _, c := range [][2]string{
		{"", ""}, {"\n\n", ""}, {"# READ v", ""}, {"#\n# x\n\n#", ""},
		{"READ v", "error 6 at 0\n"}, {"READ v\n", "error 6 at 0\n"}, {"\nREAD v\n\n", "error 6 at 0\n"}, {" # x", "error 4 at 1\n"}, {" ", "error 4 at 1\n"}, {"PROPAGATE 5\r\n", "error 4 at 11\n"},
		{"CREATE TABLE t (a INT PRIMARY KEY)\n# some rows\nINSERT INTO t VALUES (2), (1)\n\nSELECT a FROM t\nSELECT a\nPROPAGATE 7", "ok 0\nok 2\na\n(1)\n(2)\nerror 4 at 8\ndone 0\n"},
		{"CREATE TABLE t (a TEXT PRIMARY KEY)\nINSERT INTO t VALUES ('#\nreport\nx')\nSELECT a FROM t", "ok 0\nerror 4 at 22\ntables 1\nviews 0\nrows 0\ncells 0\nwatches 0\nnodes 0\nreads 0\ndepth 0\ndirty 0\nstale 0\nsound yes\nerror 4 at 1\na\n"},
	} {
		for range 2 { // each time with a new db
			if got, err := script.Run(9, c[0]); err != api.OK || got != c[1] {
				t.Errorf("Run(%q) = %q, %d; want %q", c[0], got, err, c[1])
			}
		}
	}
}

// P30.2: texts up to the limit, and above it.
func TestLong(t *testing.T) {
	if got, err := script.Run(0, strings.Repeat("\n", api.MaxScript-6)+"READ v"); err != api.OK || got != "error 6 at 0\n" {
		t.Error(got, err)
	}
	for _, s := range []string{strings.Repeat("\n", api.MaxScript-5) + "READ v", "READ v\n" + strings.Repeat("#", api.MaxScript)} {
		if got, err := script.Run(0, s); err != api.ErrLong || got != "" {
			t.Error(got, err)
		}
	}
	if got, err := script.Run(0, strings.Repeat("READ v\n", api.MaxScript/7)); err != api.OK || got != strings.Repeat("error 6 at 0\n", api.MaxScript/7) {
		t.Error(len(got), err)
	}
	if got, _ := script.Run(0, strings.Repeat(" ", 2000)+"x\nREAD v"); got != "error 3 at 0\nerror 6 at 0\n" {
		t.Error(got)
	}
}

// The same text is answered in the same way, whatever the seed is.
func TestSeeds(t *testing.T) {
	text := "CREATE TABLE t (a INT PRIMARY KEY, n INT)\nCREATE VIEW v AS SELECT n, COUNT(*), SUM(a) FROM t GROUP BY n\n"
	for i := range 40 {
		text += "INSERT INTO t VALUES (" + strings.Repeat("1 + ", i%17) + "20 * " + string(rune('0'+i%10)) + ", " + string(rune('0'+i%3)) + ")\n"
	}
	text += "READ v\nPROPAGATE 100000\n"
	first := ""
	for seed := range uint64(5) {
		got, err := script.Run(seed, text+"READ v\nSELECT * FROM t\n")
		again, _ := script.Run(seed, text+"READ v\nSELECT * FROM t\n")
		if err != api.OK || got != again {
			t.Error("the same seed", err)
		}
		_, rows, _ := strings.Cut(got, "done ")
		_, rows, _ = strings.Cut(rows, "\n")
		if first == "" {
			first = rows
		}
		if rows != first || len(rows) < 100 {
			t.Error(seed, rows)
		}
	}
}
