package script_test

import (
	"math"
	"slices"
	"strconv"
	"strings"
	"testing"

	"shredcol/api"
	"shredcol/compact"
	"shredcol/data"
	"shredcol/disk"
	"shredcol/script"
	"shredcol/table"
)

// mustAnswer: lines and their answers, by turns.
func mustAnswer(t *testing.T, quota int, both ...string) {
	t.Helper()
	var lines, want []string
	for pair := range slices.Chunk(both, 2) {
		lines, want = append(lines, pair[0]), append(want, pair[1])
	}
	got, err := script.Run(lines, quota)
	if err != nil || len(got) != len(want) {
		t.Fatal(got, err)
	}
	for i := range want {
		if got[i] != want[i] {
			t.Errorf("%d, %.50q: %q, not %q", i, lines[i], got[i], want[i])
		}
	}
}

const (
	addA = "edit add 0 required int a;"
	addB = "edit add 0 optional bytes b;"
)

func TestP200Run(t *testing.T) {
	for _, quota := range []int{500, 20000, api.MaxQuota} {
		mustAnswer(t, quota)
		mustAnswer(t, quota, addA, "ok")
		mustAnswer(t, quota, addA, "ok", "append {a:1}", "ok", "append {a:2}", "ok", "scan -", "{a:1} {a:2}", "scan #1 > 1", "{a:2}",
			"old 0 -", "{a:1} {a:2}", "old 1 -", "{a:1}", "old 1 #1 > 1", "nothing", "old 2 -", "nothing", "old 3 -", boundTold, "count", "2 in 2", "compact", "ok 1", "count", "2 in 1",
			"collect", "ok", "cut 7", "ok", "open", "ok", "scan -", "{a:1} {a:2}")
	}
}

func TestP200Bounds(t *testing.T) {
	for many, want := range map[int]error{0: nil, 1: nil, 99: nil, 100: nil, 101: api.ErrBound, 5000: api.ErrBound} {
		got, err := script.Run(slices.Repeat([]string{"count"}, many), 1000)
		if err != want || want == nil && len(got) != many || want != nil && len(got) > 0 {
			t.Error(many, len(got), err)
		}
	}
	for quota, want := range map[int]error{math.MinInt: api.ErrBound, -1: api.ErrBound, 0: api.ErrSpace, 3: api.ErrSpace, 20000: nil, api.MaxQuota: nil, api.MaxQuota + 1: api.ErrBound, math.MaxInt: api.ErrBound} {
		got, err := script.Run([]string{"count"}, quota)
		if err != want || want == nil && !slices.Equal(got, []string{"0 in 0"}) || want != nil && len(got) > 0 {
			t.Error(quota, got, err)
		}
	}
	if got, err := script.Run(make([]string, 101), 3); err != api.ErrBound || len(got) > 0 {
		t.Error(got, err)
	}
	for quota := range 100 {
		_, want := table.Create(must(disk.New(quota)))
		if _, err := script.Run(nil, quota); err != want {
			t.Error(quota, err, want)
		}
	}
}

// TestP200NoLines: what is none of the lines, on tables of all kinds.
func TestP200NoLines(t *testing.T) {
	lines := []string{"", " ", "-", "x", "Count", "COUNT", "counts", "count ", " count", "count -", "count 0", "coun", "compact ", "compact now", "compact 4 8", "collect ", "collect 1", " collect",
		"open ", "open 1", " open", "opened", "edit", "edit ", "append", "append ", "scan", "scan ", "old", "old ", "old 0", "old 0 ", "old -", "old  -", "old - -", "old 10 -", "old 00 -", "old -1 -", "old +1 -", "old x -", "old 0\n-",
		"cut", "cut ", "cut 05", "cut 00", "cut 123456", "cut 100000", "cut -1", "cut +1", "cut -0", "cut x", "cut 1x", "cut 1 ", "cut  1", "cut 1 1", "cut 0x1", "cut 1_0", "cut ٣", "cut 99999999999999999999",
		"editadd 0 required int a;", "append{a:1}", "scan-", "old0 -", "cut5", "count\n", "count\x00", "\tcount", "scan\t-", "edit\tdrop 1", "delete", "close", "help", "create", "rewrite #1 > 0"}
	for _, ahead := range [][]string{nil, {addA}, {addA, "append {a:1}", "cut 0", "append {a:2}"}} {
		lines := append(slices.Clone(ahead), lines...)
		got := must(script.Run(lines[:min(len(lines), 100)], 20000))
		for i, answer := range got {
			if i >= len(ahead) && answer != textTold {
				t.Errorf("%q behind %q: %q", lines[i], ahead, answer)
			}
		}
		if len(lines) > 100 {
			t.Error(len(lines))
		}
	}
}

// TestP200Arguments: what stands behind a first word goes to its end, as it is.
func TestP200Arguments(t *testing.T) {
	mustAnswer(t, 20000,
		addB, "ok", `append {b:"x y"}`, "ok", `append {b:" "}`, "ok", `append {b:null}`, "ok",
		`scan #1 = "x y"`, `{b:"x y"}`, `scan #1 = " "`, `{b:" "}`, `scan #1 is null`, `{b:null}`, `scan !#1 is null`, `{b:"x y"} {b:" "}`,
		`old 1 #1 = " "`, `{b:" "}`, `old 2 #1 = " "`, "nothing", `old 2 (#1 = "x y") & !#1 is null`, `{b:"x y"}`,
		"scan  -", textTold, "scan - ", textTold, "scan --", textTold, "scan - & -", textTold, "scan !-", textTold, "old 0  -", textTold, "old 0 - ", textTold, "old 1 --", textTold,
		`append  {b:null}`, textTold, `append {b:null} `, textTold, "append -", textTold, "append null", textTold, "append {}", textTold,
		"edit  drop 1", textTold, "edit drop 1 ", textTold, "edit drop  1", textTold, "edit -", textTold, "edit edit drop 1", textTold,
		"count", "3 in 3")
	mustAnswer(t, 20000, "cut 0", "ok", addA, noneTold, "open", "ok", "cut 1", "ok", addA, noneTold, "open", "ok", "cut 99999", "ok", addA, "ok", "cut 10", "ok", "append {a:1}", noneTold, "open", "ok", "count", "0 in 0")
}

// TestP200SchemaOfNow: records are of the schema of now, and so are predicates.
func TestP200SchemaOfNow(t *testing.T) {
	mustAnswer(t, 20000,
		addA, "ok", "append {a:1}", "ok", addB, "ok", "append {a:2}", textTold, `append {a:2,b:"x"}`, "ok", "edit rename 1 c", "ok", `append {a:3,b:"x"}`, textTold, `append {c:3,b:"x"}`, "ok",
		"edit move 1 1", "ok", "scan -", `{b:null,c:1} {b:"x",c:2} {b:"x",c:3}`, "append {c:5000000000,b:null}", textTold, "append {b:null,c:5000000000}", textTold, "edit widen 1", "ok", "append {b:null,c:5000000000}", "ok",
		"scan #1 > 2", `{b:"x",c:3} {b:null,c:5000000000}`, "old 1 #1 > 2", `{b:"x",c:3}`, "edit drop 2", "ok", "scan #2 is null", textTold, "old 2 -", "{c:1} {c:2}", "scan #1 = 5000000000", "{c:5000000000}", "count", "4 in 4")
}

// TestP201Errors: each error's text, bare, also where the error has a place.
func TestP201Errors(t *testing.T) {
	long := strings.Repeat("x", 8001)
	mustAnswer(t, 20000,
		"scan -", shapeTold, "scan #1 > 0", shapeTold, "old 0 -", shapeTold, "old 1 -", boundTold, "append {a:1}", shapeTold, "append {}", shapeTold, "compact", shapeTold, "edit drop 1", noneTold, "edit x", textTold,
		addA, "ok", addA, "shredcol: name", "edit rename 1 A", "shredcol: name", "edit rename 1 abcdefghijklm", "shredcol: name", "edit add 1 required int b;", "shredcol: kind", "edit move 1 1", boundTold, "edit drop 0", noneTold, "edit drop 2", noneTold,
		"edit widen 1", "ok", "edit widen 1", "shredcol: kind", "edit loosen 1", "ok", "edit loosen 1", "shredcol: kind", "edit add 0 required int B;", textTold,
		"append {a:x}", textTold, "append {a:01}", textTold, "append {b:1}", textTold, "append {a:1}}", textTold, "append "+long, boundTold, "append "+long[1:], textTold,
		"scan x", textTold, "scan #2 > 1", textTold, "scan #1 > x", textTold, "scan "+long, boundTold, "scan "+long[1:], textTold, "old 0 "+long, boundTold, "old 1 -", boundTold,
		"scan "+strings.Repeat("!", 7)+"#1 is null", boundTold, "count", "0 in 0")
}

// TestP201Space: where a disk has room for an edit and not for a record, that is told, and
// what is asked for is still answered.
func TestP201Space(t *testing.T) {
	lines := []string{addA, "append {a:1}", "count", "scan -", "edit add 0 required int " + strings.Repeat("b", 12) + ";", "open", "scan -", "collect", "count"}
	want := []string{"ok", spaceTold, "0 in 0", "nothing", spaceTold, "ok", "nothing", "ok", "0 in 0"}
	found := 0
	for quota := range 1000 {
		got, err := script.Run(lines, quota)
		if err != nil || got[0] != "ok" || got[1] == "ok" || got[4] == "ok" {
			continue
		}
		if !slices.Equal(got, want) {
			t.Fatalf("%d: %q", quota, got)
		}
		found++
	}
	if found == 0 {
		t.Error("no disk is as small as that")
	}
}

// TestP201NoNodes: a table whose schema has none (yet, or any more) is counted, not read.
func TestP201NoNodes(t *testing.T) {
	mustAnswer(t, 20000,
		"count", "0 in 0", "collect", "ok", "open", "ok", "count", "0 in 0", addA, "ok", "count", "0 in 0", "scan -", "nothing", "compact", "ok 0", "count", "0 in 0",
		"append {a:1}", "ok", "append {a:2}", "ok", "count", "2 in 2", "edit drop 1", "ok", "count", "0 in 0", "scan -", shapeTold, "old 1 -", shapeTold, "old 4 -", boundTold, "append {}", shapeTold, "append {a:1}", shapeTold, "compact", shapeTold,
		"collect", "ok", "open", "ok", "count", "0 in 0", "edit add 0 required int b;", "ok", "count", "2 in 2", "scan -", "{b:0} {b:0}", "compact", "ok 1", "count", "2 in 1")
}

func TestP201Compact(t *testing.T) {
	mustAnswer(t, 20000,
		addA, "ok", "compact", "ok 0", "append {a:1}", "ok", "compact", "ok 1", "compact", "ok 1", "append {a:2}", "ok", "append {a:1}", "ok", "count", "3 in 3", addB, "ok", "compact", "ok 1", "count", "3 in 1",
		"scan -", "{a:1,b:null} {a:2,b:null} {a:1,b:null}", "old 1 -", "{a:1,b:null} {a:2,b:null} {a:1,b:null}", "old 2 -", "{a:1,b:null} {a:2,b:null}", "old 3 -", "{a:1,b:null}", "old 4 -", boundTold)
}

// TestP201Kinds: records of all kinds, as they are told.
func TestP201Kinds(t *testing.T) {
	records := []string{`{a:true,g:[{l:-5,b:"\00\22x"},{l:9223372036854775807,b:""}],o:null,d:x8000000000000000}`, `{a:false,g:[],o:{i:-2147483648},d:x0000000000000000}`}
	both := []string{"edit add 0 required bool a;", "ok", "edit add 0 repeated group g { required long l; required bytes b; }", "ok", "edit add 0 optional group o { required int i; }", "ok", "edit add 0 required double d;", "ok"}
	for _, s := range records {
		both = append(both, "append "+s, "ok")
	}
	both = append(both, "scan -", records[0]+" "+records[1], "scan #1 = true", records[0], "scan #6 = -2147483648", records[1], "scan #3 > 5", records[0], `scan #4 = "\00\22x"`, records[0],
		"scan #7 = x8000000000000000", records[0], "compact", "ok 1", "scan -", records[0]+" "+records[1], "scan #6 is null", records[0])
	mustAnswer(t, 20000, both...)
}

// TestP201Sizes: the disk is taken up by files of one record, of 4 in a group and 8 entries in
// a page: there is room for as much as on a disk that is written so, and power for as long.
func TestP201Sizes(t *testing.T) {
	for quota := 300; quota < 4000; quota += 50 {
		for _, cut := range []int{0, quota / 3, 99999} {
			d := must(disk.New(quota))
			x := must(table.Create(d))
			lines, want := []string{"edit add 0 repeated int a;"}, []string{answerOf("ok", x.Edit("add 0 repeated int a;"))}
			for i := range 9 { // four entries each: pages of 8 have two, then three each: of 9 would have three
				text := "{a:[" + strconv.Itoa(i) + strings.Repeat(","+strconv.Itoa(i*i*i), 3-i/4) + "]}"
				lines = append(lines, "append "+text)
				want = append(want, answerOf("ok", x.Append([]api.Datum{must(data.Read(x.Schema(), text))}, 4, 8)))
			}
			must(0, d.Cut(cut))
			_, files, err := compact.Compact(x, 4, 8)
			want = append(want, "ok", answerOf("ok "+strconv.Itoa(files), err))
			d.Mend()
			must(table.Open(d))
			lines = append(lines, "cut "+strconv.Itoa(cut), "compact", "open")
			if got := must(script.Run(lines, quota)); !slices.Equal(got, append(want, "ok")) {
				t.Fatalf("%d, %d: %q, not %q", quota, cut, got, want)
			}
		}
	}
}

func answerOf(text string, err error) string {
	if err != nil {
		return toldOf(err)
	}
	return text
}

// TestP200Open: what was cut off is not done until the table is opened anew; then it may be.
func TestP200Open(t *testing.T) {
	mustAnswer(t, 20000,
		addA, "ok", "append {a:1}", "ok", "cut 5", "ok", "append {a:2}", noneTold, "append {a:2}", noneTold, addB, noneTold, "compact", noneTold, "collect", noneTold,
		"cut 99999", "ok", "append {a:2}", noneTold, "open", "ok", "scan -", "{a:1}", "append {a:2}", "ok", "open", "ok", "open", "ok", "scan -", "{a:1} {a:2}",
		"cut 0", "ok", "scan -", "{a:1} {a:2}", "count", "2 in 2", "old 1 -", "{a:1}", "scan x", textTold, "open", "ok", "append {a:3}", "ok", "open", "ok", "scan -", "{a:1} {a:2} {a:3}")
}
