package path_test

import (
	"slices"
	"strings"
	"testing"

	"lintel/api"
	"lintel/path"
)

var (
	longest = strings.Repeat("x", 40)               // a name
	tooLong = longest + "x"                         // none
	full    = strings.Repeat(longest+"/", 10)[:400] // a way of 400 bytes
	over    = strings.Repeat("a/", 200) + "a"       // one of 401
	waysOK  = strings.Repeat("./", 199) + "ab"      // 400 bytes, one part
)

func TestName(t *testing.T) {
	for s, want := range map[string]bool{
		"": false, "a": true, ".": false, "..": false, "...": true, ".a": true, "a.": true, "a/b": false, "/": false, "a\x00": false, "\x00": false,
		longest: true, tooLong: false, " ": true, "\xff\n": true, "é": true, strings.Repeat("é", 20): true, strings.Repeat("é", 21): false,
	} {
		if path.Name(s) != want {
			t.Errorf("Name(%q): %v", s, !want)
		}
	}
}

func TestSplit(t *testing.T) {
	for s, want := range map[string][]string{
		"a": {"a"}, "/a": {"a"}, "/a/b": {"a", "b"}, "a/b/": {"a", "b"}, "//a///b//": {"a", "b"}, "./a/./b/.": {"a", "b"}, "/": nil, ".": nil, "//./": nil,
		"..": {".."}, "/../a/..": {"..", "a", ".."}, "...": {"..."}, "a b/ c": {"a b", " c"}, longest: {longest}, waysOK: {"ab"}, "\xff": {"\xff"},
	} {
		got, err := path.Split(s)
		if err != api.OK || !slices.Equal(got, want) {
			t.Errorf("Split(%q): %q, %v", s, got, err)
		}
	}
	if l, err := path.Split(full); err != api.OK || len(l) != 10 || len(full) != 400 {
		t.Errorf("Split of 400 bytes: %d, %v", len(l), err)
	}
	for s, want := range map[string]api.Errno{
		"": api.EARG, over: api.ENAME, tooLong: api.ENAME, "/a/" + tooLong + "/b": api.ENAME, "a\x00b": api.ENAME, "/a/\x00": api.ENAME, "a/\x00/b": api.ENAME, strings.Repeat("/", 401): api.ENAME, strings.Repeat("a/", 4000): api.ENAME,
	} {
		if l, err := path.Split(s); err != want || len(l) != 0 {
			t.Errorf("Split(%.50q): %q, %v", s, l, err)
		}
		if dir, name, err := path.Last(s); err != want || len(dir) != 0 || name != "" {
			t.Errorf("Last(%.50q): %q, %q, %v", s, dir, name, err)
		}
		if c := path.Clean(s); c != "" {
			t.Errorf("Clean(%.50q): %q", s, c)
		}
	}
	if l, err := path.Split(strings.Repeat("/", 400)); err != api.OK || len(l) != 0 {
		t.Errorf("Split of 400 slashes: %q, %v", l, err)
	}
}

func TestLast(t *testing.T) {
	for s, want := range map[string][]string{
		"a": {"a"}, "/a": {"a"}, "/a/b": {"a", "b"}, "a/": {"a"}, "/a/b//": {"a", "b"}, "../a": {"..", "a"}, "/a/../b": {"a", "..", "b"}, "a/./": {"a"}, "./a": {"a"}, ".a": {".a"}, "a.": {"a."}, "x/a.": {"x", "a."}, "/...": {"..."},
	} {
		dir, name, err := path.Last(s)
		if err != api.OK || !slices.Equal(append(dir, name), want) || name != want[len(want)-1] {
			t.Errorf("Last(%q): %q, %q, %v", s, dir, name, err)
		}
	}
	for _, s := range []string{"/", ".", "..", "/..", "/a/..", "a/.", "/a/b/.", "/.", "./", "//", "a/../", "./."} {
		if dir, name, err := path.Last(s); err != api.EARG || len(dir) != 0 || name != "" {
			t.Errorf("Last(%q): %q, %q, %v", s, dir, name, err)
		}
	}
	dir, name, _ := path.Last("/a/b/c")
	if _ = append(dir, "z"); name != "c" {
		t.Error("the name is shared")
	}
}

func TestJoin(t *testing.T) {
	for want, l := range map[string][]string{"": nil, "/a": {"a"}, "/a/b": {"a", "b"}, "/": {""}, "/../.": {"..", "."}, "/a/b/c": {"a/b", "c"}} {
		if got := path.Join(l...); got != want {
			t.Errorf("Join(%q): %q", l, got)
		}
	}
}

func TestClean(t *testing.T) {
	for s, want := range map[string]string{
		"/a/./b//../c": "/a/c", "a": "/a", "/": "/", ".": "/", "..": "/", "../../a": "/a", "/a/..": "/", "/a/../..": "/", "/a/../../b": "/b", "a/b/c/../..": "/a", "/a/b/": "/a/b", waysOK: "/ab", full: "/" + full,
	} {
		if got := path.Clean(s); got != want {
			t.Errorf("Clean(%q): %q", s, got)
		}
	}
}
