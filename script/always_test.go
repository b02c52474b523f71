package script_test

import (
	"fmt"
	"math/rand"
	"slices"
	"strconv"
	"strings"
	"sync"
	"testing"

	"shredcol/api"
	"shredcol/script"
)

// probes: lines that tell what is there.
func probes() []string {
	return []string{"open", "count", "scan -", "old 1 -", "old 2 -", "old 3 -", "count"}
}

// TestP202ByTheRule: a script of any lines, some of them wrong, with cuts between, is answered
// as the rule says; each beginning of it likewise.
func TestP202ByTheRule(t *testing.T) {
	r := rand.New(rand.NewSource(202))
	tells := map[string]int{}
	for i := range 60 {
		quota, tight := api.MaxQuota, i%3 == 0
		if tight {
			quota = 100 + r.Intn(1500)
		}
		lines := []string{"edit add 0 " + anyNode(r, 2)}
		answers := must(script.Run(lines, quota))
		worlds := worldsAfter(t, []world{{model: newModel()}}, lines, answers, tight)
		for len(lines) < 80 && len(worlds) < 50 {
			more := append(anyLines(r, worlds[r.Intn(len(worlds))], 4+r.Intn(14)), probes()...)
			lines = append(lines, more[:min(len(more), 100-len(lines))]...)
			was := answers
			answers = must(script.Run(lines, quota))
			if !slices.Equal(answers[:len(was)], was) {
				t.Fatalf("%q: %q, and %q", lines, was, answers)
			}
			worlds = worldsAfter(t, worlds, lines[len(was):], answers[len(was):], tight)
		}
		for k, line := range lines {
			word, _, _ := strings.Cut(line, " ")
			answer := answers[k]
			if !isTold(answer) && answer != "nothing" {
				answer, _, _ = strings.Cut(answer, " ")
			}
			if word == "scan" && strings.HasPrefix(answer, "{") {
				answer = "{"
			}
			tells[word+": "+answer]++
		}
	}
	for _, tell := range []string{"edit: ok", "append: ok", "compact: ok", "collect: ok", "cut: ok", "open: ok", "scan: {", "scan: nothing",
		"edit: " + noneTold, "append: " + noneTold, "append: " + textTold, "scan: " + textTold, "old: " + boundTold, "append: " + spaceTold, "edit: " + spaceTold} {
		if tells[tell] < 10 {
			t.Error(tell, tells[tell])
		}
	}
}

// TestP202Cuts: wherever the power goes amid a change, what is found is the table ahead or
// behind; behind, if the answer was ok.
func TestP202Cuts(t *testing.T) {
	ahead := []string{"edit add 0 required int a;", "append {a:1}", "append {a:2}", "edit add 0 repeated group g { required int c; }", "append {a:3,g:[{c:4},{c:5}]}"}
	for _, change := range []string{"edit widen 1", "edit drop 1", "append {a:4,g:[]}", "compact"} {
		ends := map[string]int{}
		for n := 0; ends["ok"] < 3 && n < 2000; n++ {
			lines := slices.Concat(ahead, []string{"cut " + strconv.Itoa(n), change, "collect", "compact", "edit add 0 required int z;", "open", change})
			lines = append(lines, probes()...)
			answers := must(script.Run(lines, api.MaxQuota))
			worldsAfter(t, []world{{model: newModel()}}, lines, answers, false)
			end, _, _ := strings.Cut(answers[len(ahead)+1], " ")
			if end == "shredcol:" && !slices.Equal(answers[len(ahead)+2:len(ahead)+5], []string{noneTold, noneTold, noneTold}) {
				t.Fatalf("%q: %q", lines, answers)
			}
			ends[end]++
		}
		if ends["ok"] < 3 || ends["shredcol:"] < 10 {
			t.Error(change, ends)
		}
	}
}

// TestP202GoesOn: behind each error the lines that come are answered as if it had not been.
func TestP202GoesOn(t *testing.T) {
	right := []string{"edit add 0 required int a;", "append {a:1}", "scan -", "edit add 0 optional bytes b;", "append {a:2,b:null}", "compact", "count", "old 1 #1 > 1", "collect", "open", "scan -"}
	wrong := []string{"", "edit drop 9", "edit x", "append {", "append {a:1,b:1}", "scan x", "scan #9 is null", "old 9 -", "old x -", "cut 1x", "open it", "append " + strings.Repeat("x", 9000), "scan " + strings.Repeat("(", 9000), "\x00\xff"}
	want := must(script.Run(right, 30000))
	for at := range len(right) + 1 {
		lines := slices.Concat(right[:at], wrong, right[at:])
		got := must(script.Run(lines, 30000))
		for i, answer := range got[at : at+len(wrong)] {
			if !isTold(answer) {
				t.Fatal(at, wrong[i], answer)
			}
		}
		if got = slices.Concat(got[:at], got[at+len(wrong):]); !slices.Equal(got, want) {
			t.Fatalf("%d: %q, not %q", at, got, want)
		}
	}
}

// TestP202Hundred: lines to the last one, and tables that have had their fill.
func TestP202Hundred(t *testing.T) {
	lines := []string{"edit add 0 repeated int a;"}
	for i := range 22 {
		lines = append(lines, "append {a:["+strconv.Itoa(i)+"]}")
	}
	lines = append(lines, "count", "compact", "count")
	for i := range 61 {
		lines = append(lines, "edit rename 1 "+string(rune('a'+i%26)))
	}
	lines = append(lines, "open", "count", "scan #1 = 7", "collect")
	for len(lines) < api.MaxLines {
		lines = append(lines, "compact")
	}
	mustPlay(t, lines...)
	got := must(script.Run(lines, api.MaxQuota))
	if got[20] != "ok" || got[21] != boundTold || got[22] != boundTold || got[23] != "20 in 20" || got[24] != "ok 1" || got[25] != "20 in 1" {
		t.Error(got)
	}
	if got[84] != "ok" || got[85] != boundTold || got[86] != boundTold || got[89] != "{g:[7]}" {
		t.Error(got[80:])
	}
}

// TestP2SameScripts: the same lines have the same answers, whoever asks side by side.
func TestP2SameScripts(t *testing.T) {
	r := rand.New(rand.NewSource(2))
	for range 10 {
		lines := append([]string{"edit add 0 required int a;"}, anyLines(r, world{model: model{edits: []string{"add 0 required int a;"}, snaps: [][]batch{nil}}}, 60)...)
		quota := []int{300, 1000, 50000}[r.Intn(3)]
		want := must(script.Run(lines, quota))
		var all sync.WaitGroup
		got := make([][]string, 8)
		for i := range got {
			all.Go(func() { got[i] = must(script.Run(lines, quota)) })
		}
		all.Wait()
		for _, l := range got {
			if !slices.Equal(l, want) {
				t.Fatalf("%q: %q, and %q", lines, l, want)
			}
		}
	}
}

// TestP4Script: what is handed over is only read, what is answered is nobody else's.
func TestP4Script(t *testing.T) {
	lines := []string{"edit add 0 required int a;", "append {a:1}", "scan -", "behind", "behind"}
	was := slices.Clone(lines)
	got := must(script.Run(lines[:3], 3000))
	if !slices.Equal(lines, was) || !slices.Equal(got, []string{"ok", "ok", "{a:1}"}) {
		t.Error(lines, got)
	}
	got[0], got[1], got[2] = "x", "x", "x"
	got = append(got, "y")
	if again := must(script.Run(lines[:3], 3000)); !slices.Equal(lines, was) || !slices.Equal(again, []string{"ok", "ok", "{a:1}"}) {
		t.Error(lines, again, got)
	}
}

// TestP1WhateverIsGiven: no script panics; a line is answered whatever it is.
func TestP1WhateverIsGiven(t *testing.T) {
	r := rand.New(rand.NewSource(1))
	words := []string{"edit", "append", "scan", "old", "count", "compact", "collect", "cut", "open", " ", " ", " ", "-", "0", "1", "9", "{", "}", "{a:1}", "[", "#1", "is null", "!", "(", "add 0", "drop 1", "required int a;", "\n", "\x00", "\xff", "99999", "100000", "<", "&"}
	for range 300 {
		var lines []string
		for range r.Intn(101) {
			var line strings.Builder
			for range r.Intn(6) {
				line.WriteString(words[r.Intn(len(words))])
				if r.Intn(2) == 0 {
					line.WriteString(" ")
				}
			}
			lines = append(lines, line.String())
		}
		got, err := script.Run(lines, 20+r.Intn(2000))
		if err != nil || len(got) != len(lines) {
			t.Fatal(got, err)
		}
		if slices.Contains(got, "") {
			t.Fatalf("%q: %q", lines, got)
		}
	}
	for _, n := range []int{7990, 7993, 7994, 7995, 8001, 300000} {
		for _, word := range []string{"edit ", "append ", "scan ", "old 0 ", "cut ", "", "count"} {
			for _, c := range []string{"(", "!", "{", "[", "1", " ", "\xff", "drop 1 "} {
				lines := []string{"edit add 0 repeated group a { repeated int b; }", word + strings.Repeat(c, n/len(c)), "count"}
				if got := must(script.Run(lines, 5000)); !isTold(got[1]) || got[2] != "0 in 0" {
					t.Fatal(n, word, c, fmt.Sprintf("%.100q", got))
				}
			}
		}
	}
}
