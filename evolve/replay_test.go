package evolve_test

import (
	"errors"
	"fmt"
	"math/rand"
	"reflect"
	"slices"
	"strconv"
	"strings"
	"testing"

	"shredcol/api"
	"shredcol/evolve"
	"shredcol/schema"
)

// faultIs: an *api.Fault, itself, with that place and that bare error.
func faultIs(err error, at int, want error) bool {
	f, is := err.(*api.Fault)
	return is && f.At == at && f.Err == want && errors.Is(err, want)
}

// lineOf a schema: its text.
func lineOf(root api.Node) string {
	if len(root.Sub) == 0 && reflect.DeepEqual(root, rootOf()) {
		return "none"
	}
	s, err := schema.Text(root)
	if err != nil {
		return err.Error()
	}
	return strings.Join(strings.Fields(s), " ")
}

func TestP130Known(t *testing.T) {
	base := []string{"add 0 required int a;", "add 0 optional group b { repeated bytes c; required group d { required bool e; } }", "add 0 repeated double f;"}
	for _, c := range []struct {
		edits string
		want  string
		next  int
	}{
		{"", "required int a #1; optional group b #2 { repeated bytes c #3; required group d #4 { required bool e #5; } } repeated double f #6;", 7},
		{"add 0 required long g;", "required int a #1; optional group b #2 { repeated bytes c #3; required group d #4 { required bool e #5; } } repeated double f #6; required long g #7;", 8},
		{"add 2 required long a;", "required int a #1; optional group b #2 { repeated bytes c #3; required group d #4 { required bool e #5; } required long a #7; } repeated double f #6;", 8},
		{"add 4 repeated group x { optional group y { optional int z; } optional int z; }|add 4 required int a;", "required int a #1; optional group b #2 { repeated bytes c #3; required group d #4 { required bool e #5; repeated group x #7 { optional group y #8 { optional int z #9; } optional int z #10; } required int a #11; } } repeated double f #6;", 12},
		{"drop 1", "optional group b #2 { repeated bytes c #3; required group d #4 { required bool e #5; } } repeated double f #6;", 7},
		{"drop 2", "required int a #1; repeated double f #6;", 7},
		{"drop 5", "required int a #1; optional group b #2 { repeated bytes c #3; } repeated double f #6;", 7},
		{"drop 3|drop 5", "required int a #1; repeated double f #6;", 7},
		{"drop 3|drop 4|drop 1|drop 6", "none", 7},
		{"drop 1|drop 2|drop 6|add 0 optional bool x;", "optional bool x #7;", 8},
		{"drop 6|add 0 repeated double f;|drop 7|add 0 repeated double f;", "required int a #1; optional group b #2 { repeated bytes c #3; required group d #4 { required bool e #5; } } repeated double f #8;", 9},
		{"rename 1 x|rename 4 twelveletter|rename 5 root", "required int x #1; optional group b #2 { repeated bytes c #3; required group twelveletter #4 { required bool root #5; } } repeated double f #6;", 7},
		{"rename 1 a|rename 3 a|rename 1 f|rename 1 a", "", 0},
		{"rename 1 a|rename 3 a|rename 1 x|rename 6 a", "required int x #1; optional group b #2 { repeated bytes a #3; required group d #4 { required bool e #5; } } repeated double a #6;", 7},
		{"move 6 0", "repeated double f #6; required int a #1; optional group b #2 { repeated bytes c #3; required group d #4 { required bool e #5; } }", 7},
		{"move 6 1", "required int a #1; repeated double f #6; optional group b #2 { repeated bytes c #3; required group d #4 { required bool e #5; } }", 7},
		{"move 1 1", "optional group b #2 { repeated bytes c #3; required group d #4 { required bool e #5; } } required int a #1; repeated double f #6;", 7},
		{"move 1 2|move 3 1|move 5 0", "optional group b #2 { required group d #4 { required bool e #5; } repeated bytes c #3; } repeated double f #6; required int a #1;", 7},
		{"move 1 0|move 2 1|move 6 2", "required int a #1; optional group b #2 { repeated bytes c #3; required group d #4 { required bool e #5; } } repeated double f #6;", 7},
		{"widen 1|loosen 1|loosen 4|loosen 5", "optional long a #1; optional group b #2 { repeated bytes c #3; optional group d #4 { optional bool e #5; } } repeated double f #6;", 7},
		{"add 0 optional int x;|widen 7|add 0 repeated int y;|widen 8", "required int a #1; optional group b #2 { repeated bytes c #3; required group d #4 { required bool e #5; } } repeated double f #6; optional long x #7; repeated long y #8;", 9},
		{"move 1 2|add 0 required int x;|move 7 0", "required int x #7; optional group b #2 { repeated bytes c #3; required group d #4 { required bool e #5; } } repeated double f #6; required int a #1;", 8},
	} {
		edits := base
		if c.edits != "" {
			edits = slices.Concat(base, strings.Split(c.edits, "|"))
		}
		n, next, err := evolve.Replay(edits)
		if c.want == "" {
			if !isNoNode(n) || next != 0 || !faultIs(err, 5, api.ErrName) {
				t.Errorf("%s: %s, %d, %v", c.edits, lineOf(n), next, err)
			}
			continue
		}
		if lineOf(n) != c.want || next != c.next || err != nil {
			t.Errorf("%s: %s, %d, %v", c.edits, lineOf(n), next, err)
		}
	}
}

func TestP130AllKindsOfNodes(t *testing.T) {
	for rep := api.Required; rep <= api.Repeated; rep++ {
		for kind := api.Bool; kind <= api.Double; kind++ {
			n, next, err := evolve.Replay([]string{"add 0 " + repNames[rep] + " " + kindNames[kind] + " int;"})
			if !reflect.DeepEqual(n, rootOf(api.Node{ID: 1, Name: "int", Rep: rep, Kind: kind})) || next != 2 || err != nil {
				t.Error(n, next, err)
			}
		}
		n, next, err := evolve.Replay([]string{"add 0 " + repNames[rep] + " group group { " + repNames[rep] + " bool bool; }"})
		want := rootOf(api.Node{ID: 1, Name: "group", Rep: rep, Sub: []api.Node{{ID: 2, Name: "bool", Rep: rep, Kind: api.Bool}}})
		if !reflect.DeepEqual(n, want) || next != 3 || err != nil {
			t.Error(n, next, err)
		}
	}
}

func TestP131NoEdits(t *testing.T) {
	for _, edits := range [][]string{nil, {}} {
		if n, next, err := evolve.Replay(edits); !reflect.DeepEqual(n, rootOf()) || next != 1 || err != nil {
			t.Error(n, next, err)
		}
	}
}

// TestP131Forms: whatever else is wrong, too.
func TestP131Forms(t *testing.T) {
	base := []string{"add 0 required int a;", "add 0 required group b { required int c; required int d; }"}
	for _, line := range []string{
		"", " ", "\n", "add", "add ", "add 0", "add 0 ", "add required int x;", "add 0 required", "add 0 required int", "add 0 required int x", "add 0 int x;", "add 0 required x;", "add 0 required int;", "add 0 x;", "add 0 ;",
		" add 0 required int x;", "add  0 required int x;", "add 0  required int x;", "add 0 required  int x;", "add 0 required int  x;", "add 0 required int x ;", "add 0 required int x;;", "add 0 required int x; ", "add 0 required int x;\n", "add 0 required int x\n;", "add 0 required\nint x;", "add\n0 required int x;", "add 0\trequired int x;", "add 0 required int\tx;",
		"add 0 required int x #3;", "add 0 required int x #3", "add 0 required int x#3;", "add 0 required int #3;", "add 0 required int x # 3;", "add 0 required int x 3;", "add 0 required int x1;", "add 0 required int x; required int y;", "add 0 required int x; required int x;",
		"add 0 required int X;", "add 0 required int é;", "add 0 required int thirteenlette;", "add 0 Required int x;", "add 0 required Int x;", "add 0 required number x;", "add 0 always int x;", "add 0 required int x}", "add 0 required int x; }", "add 0 required int x { required int y; }",
		"add 0 required group x;", "add 0 required group x", "add 0 required group x {", "add 0 required group x { }", "add 0 required group x {}", "add 0 required group x { required int y; ", "add 0 required group x { required int y;", "add 0 required group x { required int y;}", "add 0 required group x {required int y; }", "add 0 required group x{ required int y; }", "add 0 required group x  { required int y; }", "add 0 required group x { required int y; };", "add 0 required group x { required int y; } ", "add 0 required group x { required int y; } }", "add 0 required group x { required int y; } {", "add 0 required group x { required int y }", "add 0 required group { required int y; }", "add 0 required group x #3 { required int y; }", "add 0 required group x { required int y #4; }", "add 0 required group x #3 { required int y #4; }",
		"add 0 required group x { required int y; required int y; }", "add 0 required group x { required int y;required int z; }", "add 0 required group x { required int y;  required int z; }", "add 0 required group x { required group y { required int z; }}", "add 0 required group x { required group y { required int z; }required int w; }", "add 0 required group x { required group y { required int z; } required int y; }", "add 0 required group x { required group y { } }", "add 0 required group x { } }", "add 0 { required int y; }",
		"add 0 required group p { required group q { required group r { required group s { required group t { required int u; } } } } }",
		"add 00 required int x;", "add 01 required int x;", "add +0 required int x;", "add -0 required int x;", "add -1 required int x;", "add #0 required int x;", "add 00000 required int x;", "add 10000 required int x;", "add x required int x;", "add 0x0 required int x;", "add ٠ required int x;", "add 1_0 required int x;", "add root required int x;",
		"drop", "drop ", "drop  1", " drop 1", "drop 1 ", "drop 1\n", "drop\n1", "drop\t1", "drop 1;", "drop 1 2", "drop 01", "drop 00", "drop x", "drop a", "drop #1", "drop +1", "drop -1", "drop -0", "drop 12345", "drop 99999999999999999999", "Drop 1", "DROP 1", "drop1", "drop 1.0", "drop 1e0",
		"rename", "rename 1", "rename 1 ", "rename x", "rename x 1", "rename 1  x", "rename 1 x ", "rename 1 x y", "rename 01 x", "rename 12345 x", "rename a x", "rename 1 x\n", "rename 1 x\ny",
		"move", "move 1", "move 1 ", "move 1 0 ", "move 1 0 0", "move 1 00", "move 1 01", "move 1 -1", "move 1 +1", "move 1 x", "move 1 12345", "move 1 99999999999999999999", "move 01 0", "move  1 0", "move 1  0", "move 1 0\n", "move x 0",
		"widen", "widen ", "widen 1 ", "widen 1 1", "widen x", "widen 01", "widen 12345", "widen a", "loosen", "loosen 1 ", "loosen 1 1", "loosen x", "loosen 01", "loosen 12345",
		"split 1", "1", "0 1", "a", "tighten 1", "narrow 1", "add,0", "adds 0 required int x;", "add\x000 required int x;", "\xff", strings.Repeat(" ", 100), strings.Repeat("a", 1<<20), "add 0 " + strings.Repeat("{ ", 1<<18), "add 0 " + strings.Repeat("x; ", 1<<18) + "x;", "add 0 " + strings.Repeat("required group x { ", 1<<12) + "required int x;" + strings.Repeat(" }", 1<<12),
	} {
		n, next, err := evolve.Replay(append(slices.Clone(base), line))
		if !isNoNode(n) || next != 0 || !faultIs(err, 2, api.ErrText) {
			t.Errorf("%.80q: %v, %d, %v", line, n, next, err)
		}
	}
}

func TestP131Errors(t *testing.T) {
	base := []string{"add 0 required int a;", "add 0 required group b { required int c; optional group d { repeated int e; } optional int f; }", "add 0 repeated long g;", "drop 7"}
	for _, c := range []struct {
		line string
		want error
	}{
		{"add 7 required int x;", api.ErrNone}, {"add 8 required int x;", api.ErrNone}, {"add 1000 required int x;", api.ErrNone}, {"add 9999 required int x;", api.ErrNone},
		{"add 1 required int x;", api.ErrKind}, {"add 3 required int x;", api.ErrKind}, {"add 5 required group x { required int x; }", api.ErrKind},
		{"add 0 required int a;", api.ErrName}, {"add 0 required int b;", api.ErrName}, {"add 2 required int c;", api.ErrName}, {"add 4 optional group e { required int e; }", api.ErrName},
		{"add 2 required int a;", nil}, {"add 4 required int d;", nil}, {"add 0 required int g;", nil},
		{"drop 0", api.ErrNone}, {"drop 7", api.ErrNone}, {"drop 8", api.ErrNone}, {"drop 9999", api.ErrNone}, {"drop 1", nil}, {"drop 2", nil},
		{"rename 0 x", api.ErrNone}, {"rename 7 x", api.ErrNone}, {"rename 0 root", api.ErrNone}, {"rename 8 X", api.ErrNone}, {"rename 0 #", api.ErrNone},
		{"rename 1 X", api.ErrName}, {"rename 1 aB", api.ErrName}, {"rename 1 a1", api.ErrName}, {"rename 1 1", api.ErrName}, {"rename 1 a;", api.ErrName}, {"rename 1 #1", api.ErrName}, {"rename 1 {", api.ErrName}, {"rename 1 é", api.ErrName}, {"rename 1 a\tb", api.ErrName}, {"rename 1 a\x00", api.ErrName}, {"rename 1 \xff", api.ErrName}, {"rename 1 thirteenlette", api.ErrName}, {"rename 1 " + strings.Repeat("a", 1<<20), api.ErrName},
		{"rename 1 b", api.ErrName}, {"rename 2 a", api.ErrName}, {"rename 6 c", api.ErrName}, {"rename 3 f", api.ErrName},
		{"rename 1 a", nil}, {"rename 1 c", nil}, {"rename 6 a", nil}, {"rename 1 twelveletter", nil}, {"rename 1 g", nil},
		{"move 0 0", api.ErrNone}, {"move 0 9999", api.ErrNone}, {"move 7 0", api.ErrNone}, {"move 8 9999", api.ErrNone},
		{"move 1 2", api.ErrBound}, {"move 2 2", api.ErrBound}, {"move 1 9999", api.ErrBound}, {"move 3 3", api.ErrBound}, {"move 5 1", api.ErrBound},
		{"move 1 1", nil}, {"move 3 2", nil}, {"move 5 0", nil},
		{"widen 0", api.ErrNone}, {"widen 7", api.ErrNone}, {"widen 8", api.ErrNone}, {"widen 2", api.ErrKind}, {"widen 4", api.ErrKind}, {"widen 1", nil}, {"widen 5", nil}, {"widen 6", nil},
		{"loosen 0", api.ErrNone}, {"loosen 7", api.ErrNone}, {"loosen 8", api.ErrNone}, {"loosen 4", api.ErrKind}, {"loosen 5", api.ErrKind}, {"loosen 6", api.ErrKind}, {"loosen 1", nil}, {"loosen 2", nil}, {"loosen 3", nil},
	} {
		n, next, err := evolve.Replay(append(slices.Clone(base), c.line))
		if c.want == nil && err != nil || c.want != nil && (!isNoNode(n) || next != 0 || !faultIs(err, 4, c.want)) {
			t.Errorf("%.80q: %v, %d, %v, not %v", c.line, n, next, err, c.want)
		}
	}
	for kind := api.Bool; kind <= api.Double; kind++ {
		_, _, err := evolve.Replay([]string{"add 0 repeated " + kindNames[kind] + " a;", "widen 1", "widen 1"})
		want := 1
		if kind == api.Int {
			want = 2
		}
		if !faultIs(err, want, api.ErrKind) {
			t.Errorf("kind %d: %v", kind, err)
		}
	}
	if _, _, err := evolve.Replay([]string{"add 0 required int a;", "loosen 1", "loosen 1"}); !faultIs(err, 2, api.ErrKind) {
		t.Error(err)
	}
	// What went is not there, nor what was in it or around it.
	gone := []string{"add 0 required group a { required group b { required int c; } }", "add 0 required group d { required group e { required int f; } }", "drop 3", "drop 4"}
	for id := 1; id <= 6; id++ {
		for _, line := range []string{"drop " + strconv.Itoa(id), "add " + strconv.Itoa(id) + " required int x;"} {
			if _, _, err := evolve.Replay(append(slices.Clone(gone), line)); !faultIs(err, 4, api.ErrNone) {
				t.Errorf("%s: %v", line, err)
			}
		}
	}
}

// TestP131FirstFault: the first edit that cannot be is told, whatever stands behind it.
func TestP131FirstFault(t *testing.T) {
	right := []string{"add 0 required int a;", "rename 1 b", "widen 1", "loosen 1", "move 1 0", "add 0 required int a;"}
	for at := range right {
		for line, want := range map[string]error{"": api.ErrText, "drop 9": api.ErrNone} {
			for _, behind := range []string{"", "drop 8", "rename 1 X"} {
				edits := slices.Concat(right[:at], []string{line, behind}, right[at:])
				if n, next, err := evolve.Replay(edits); !isNoNode(n) || next != 0 || !faultIs(err, at, want) {
					t.Errorf("%q: %v, %d, %v", edits, n, next, err)
				}
			}
		}
	}
}

func TestP131MaxEdits(t *testing.T) {
	edits := []string{"add 0 required int a;"}
	for i := 1; i < api.MaxEdits; i++ {
		edits = append(edits, "rename 1 "+string(rune('a'+i%26)))
	}
	if n, next, err := evolve.Replay(edits); lineOf(n) != "required int h #1;" || next != 2 || err != nil {
		t.Error(n, next, err)
	}
	for _, edits := range [][]string{append(edits, "rename 1 x"), append(edits, ""), make([]string, 61), make([]string, 100000)} {
		if n, next, err := evolve.Replay(edits); !isNoNode(n) || next != 0 || err != api.ErrBound {
			t.Error(len(edits), n, next, err)
		}
	}
}

// groupOf so many leaves.
func groupOf(name string, leaves int) string {
	s := "required group " + name + " { "
	for i := range leaves {
		s += "required int " + string(rune('a'+i/26)) + string(rune('a'+i%26)) + "; "
	}
	return s + "}"
}

// chain of so many groups in each other, with a leaf in the innermost.
func chain(groups int) string {
	return strings.Repeat("optional group g { ", groups) + "required int x;" + strings.Repeat(" }", groups)
}

func TestP131Bounds(t *testing.T) {
	for _, c := range []struct {
		edits []string
		next  int
		want  error
	}{
		// With the root there are 40 nodes.
		{[]string{"add 0 " + groupOf("x", 38)}, 40, nil},
		{[]string{"add 0 " + groupOf("x", 39)}, 0, api.ErrText},
		{[]string{"add 0 " + groupOf("x", 37), "add 0 required int y;"}, 40, nil},
		{[]string{"add 0 " + groupOf("x", 38), "add 0 required int y;"}, 0, api.ErrBound},
		{[]string{"add 0 " + groupOf("x", 38), "add 1 required int y;"}, 0, api.ErrBound},
		{[]string{"add 0 " + groupOf("x", 20), "add 0 " + groupOf("y", 17)}, 40, nil},
		{[]string{"add 0 " + groupOf("x", 20), "add 0 " + groupOf("y", 18)}, 0, api.ErrBound},
		{[]string{"add 0 " + groupOf("x", 38), "drop 2", "add 1 required int y;"}, 41, nil},
		// Both: schema.Valid says ErrBound.
		{[]string{"add 0 " + groupOf("x", 38), "add 0 required int x;"}, 0, api.ErrBound},
		{[]string{"add 0 " + groupOf("x", 38), "add 9999 required int x;"}, 0, api.ErrNone},
		{[]string{"add 0 " + groupOf("x", 38), "add 2 required int x;"}, 0, api.ErrKind},
		// The root is 1 deep.
		{[]string{"add 0 " + chain(4)}, 6, nil},
		{[]string{"add 0 " + chain(5)}, 0, api.ErrText},
		{[]string{"add 0 " + chain(4), "add 4 required int y;"}, 7, nil},
		{[]string{"add 0 " + chain(4), "add 4 " + chain(1)}, 0, api.ErrBound},
		{[]string{"add 0 " + chain(1), "add 1 " + chain(3)}, 7, nil},
		{[]string{"add 0 " + chain(1), "add 1 " + chain(4)}, 0, api.ErrBound},
	} {
		n, next, err := evolve.Replay(c.edits)
		if c.want == nil {
			if next != c.next || err != nil || schema.Valid(n) != nil {
				t.Errorf("%q: %v, %d, %v", c.edits, n, next, err)
			}
		} else if !isNoNode(n) || next != 0 || !faultIs(err, len(c.edits)-1, c.want) {
			t.Errorf("%q: %v, %d, %v, not %v", c.edits, n, next, err, c.want)
		}
	}
}

// TestP131LastNumbers: a node with a number beyond MaxID is none that schema.Read takes.
func TestP131LastNumbers(t *testing.T) {
	var edits []string
	for i := range 25 {
		edits = append(edits, "add 0 "+groupOf("x", 38), "drop "+strconv.Itoa(39*i+1))
	}
	n, next, err := evolve.Replay(edits)
	if !reflect.DeepEqual(n, rootOf()) || next != 976 || err != nil {
		t.Fatal(n, next, err)
	}
	edits = append(edits, "add 0 "+groupOf("x", 24))
	if n, next, err = evolve.Replay(edits); len(n.Sub) != 1 || next != 1001 || err != nil || n.Sub[0].Sub[23].ID != 1000 {
		t.Error(n, next, err)
	}
	for _, line := range []string{"add 0 required int y;", "add 976 required int y;", "add 0 required int x;", "add 9999 required int y;"} {
		if n, next, err := evolve.Replay(append(slices.Clone(edits), line)); !isNoNode(n) || next != 0 || !faultIs(err, 51, api.ErrText) {
			t.Error(n, next, err)
		}
	}
	for _, line := range []string{"drop 1000", "rename 1000 y", "move 1000 0", "widen 1000", "loosen 1000"} {
		if _, next, err := evolve.Replay(append(slices.Clone(edits), line)); next != 1001 || err != nil {
			t.Error(line, next, err)
		}
	}
	edits[50] = "add 0 " + groupOf("x", 25)
	if n, next, err := evolve.Replay(edits); !isNoNode(n) || next != 0 || !faultIs(err, 50, api.ErrText) {
		t.Error(n, next, err)
	}
}

func TestP131ByTheRule(t *testing.T) {
	r := rand.New(rand.NewSource(131))
	told := map[string]int{}
	for range 8000 {
		edits := anyEdits(r, r.Intn(12))
		m, _, _ := replayed(edits)
		for range 1 + r.Intn(3) {
			line := anyEdit(r, &m)
			if r.Intn(3) == 0 {
				line = spoilt(r, line)
			}
			edits = append(edits, line)
		}
		want, at, wantErr := replayed(edits)
		n, next, err := evolve.Replay(edits)
		told[fmt.Sprint(wantErr)]++
		if wantErr != nil {
			if !isNoNode(n) || next != 0 || !faultIs(err, at, wantErr) {
				t.Fatalf("%q: %v, %d, %v, not %v at %d", edits, n, next, err, wantErr, at)
			}
			continue
		}
		if !reflect.DeepEqual(n, want.root()) || next != want.next || err != nil {
			t.Fatalf("%q: %s, %d, %v, not %s, %d", edits, lineOf(n), next, err, lineOf(want.root()), want.next)
		}
	}
	for _, err := range []error{nil, api.ErrText, api.ErrNone, api.ErrKind, api.ErrName, api.ErrBound} {
		if told[fmt.Sprint(err)] < 30 {
			t.Errorf("%v came only %d times", err, told[fmt.Sprint(err)])
		}
	}
}

func TestP2ReplayedAgain(t *testing.T) {
	r := rand.New(rand.NewSource(2))
	for range 300 {
		edits := anyEdits(r, 20)
		n, next, err := evolve.Replay(edits)
		again, nextAgain, errAgain := evolve.Replay(edits)
		if !reflect.DeepEqual(n, again) || next != nextAgain || err != nil || errAgain != nil {
			t.Fatalf("%q: %v, then %v", edits, n, again)
		}
	}
}

func TestP4Replay(t *testing.T) {
	r := rand.New(rand.NewSource(4))
	for range 300 {
		edits := anyEdits(r, 10)
		given := append(slices.Clone(edits), "behind")[:len(edits)]
		n, _, err := evolve.Replay(given)
		if err != nil || !slices.Equal(given, edits) || given[:len(edits)+1][len(edits)] != "behind" {
			t.Fatalf("%q was changed", edits)
		}
		before := lineOf(n)
		// Lists apart: each is written over by itself, as far as its memory goes.
		var number int
		eachList(n, func(l []api.Node) {
			for i := range l[:cap(l)] {
				number++
				l[:cap(l)][i].ID = number
			}
		})
		number = 0
		eachList(n, func(l []api.Node) {
			for i := range l[:cap(l)] {
				if number++; l[:cap(l)][i].ID != number {
					t.Fatalf("%q: two lists share memory", edits)
				}
			}
		})
		if again, _, _ := evolve.Replay(edits); lineOf(again) != before {
			t.Fatalf("%q: what was written shows", edits)
		}
	}
}

func eachList(n api.Node, take func(l []api.Node)) {
	take(n.Sub)
	for _, in := range n.Sub {
		eachList(in, take)
	}
}
