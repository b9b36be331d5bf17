package tell_test

import (
	"math/rand"
	"strings"
	"testing"

	"lintel/api"
	"lintel/tell"
)

// lines makes a text of what stands between strokes, each a line with a byte 10.
func lines(s string) string { return strings.ReplaceAll(s, "|", "\n") + "\n" }

// plays: the text (strokes between lines) tells the answers (likewise).
func plays(t *testing.T, text, want string) {
	t.Helper()
	got, err := tell.Run(lines(text))
	if err != api.OK || got != lines(want) {
		t.Errorf("%s: %v, %q, not %q", text, err, got, want)
	}
}

func refused(t *testing.T, text string, want api.Errno) {
	t.Helper()
	if got, err := tell.Run(text); err != want || got != "" {
		t.Errorf("%.60q: %v, %q, not %v", text, err, got, want)
	}
}

func TestExample(t *testing.T) {
	plays(t, "make 64 10|mkdir /a|check|list /", "ok 3|fine|a lost+found")
}

func TestFiles(t *testing.T) {
	plays(t, "make 64 10|mkdir /a|create /a/f|link /a/f /g|write /g 1 bc|read /a/f 0 9|read /g 2 1|read /g 9 1|stat /g|rename /a/f /a/h|list /a|symlink a/h /l|readlink /l|read /l 0 9|trunc /l 2|trunc /l 5|read /g 0 9|unlink /g|stat /a/h|stat /l|unlink /a/h|unlink /l|rmdir /a|list /|list /lost+found|stat /|check",
		"ok 3|ok 4|ok 4|ok 3|006263|63|-|4 1 2 3|ok 4|h|ok 5|612f68|006263|ok 2|ok 5|0062000000|ok 4|4 1 1 5|5 3 1 3|ok 4|ok 5|ok 3|lost+found|-|1 2 1 0|fine")
}

func TestErrors(t *testing.T) {
	plays(t, "make 64 10|mkdir /|mkdir /a/b|create /f|create /f|list /f|mkdir /d|unlink /d|mkdir /d/e|rmdir /d|write /f 4096 x|read /d 0 1|symlink s /s|stat /s/x|mkdir /lost+found/x|write /f 0 "+strings.Repeat("x", 2000)+"|stat /"+strings.Repeat("y", 41)+"|rename /none /x|readlink /f",
		"E1|E2|ok 3|E3|E4|ok 4|E5|ok 5|E6|E9|E5|ok 6|E11|E12|E7|E8|E2|E1")
}

func TestHappenings(t *testing.T) {
	plays(t, "make 64 10|mkdir /a|crash|check|mkdir /b|on|list /|on|crash 1 2 3|crash|fuse 1|mend|spoil 1 1|on|list /",
		"ok 3|ok|fine|E14|ok|a lost+found|ok|ok|E14|E14|E14|E14|ok|a lost+found")
	plays(t, "make 64 10|mkdir /a|fuse 2|mkdir /b|list /|on|list /|check|fuse 0|mkdir /b|fuse 99 1 2 3|list /",
		"ok 3|ok|E14|E14|ok|a lost+found|fine|ok|ok 4|ok|a b lost+found")
	plays(t, "make 64 10|mkdir /a|spoil 6 7|check|list /|spoil 8 1|check|mend|check|list /|mend",
		"ok 3|ok|0 5 0 0|E13|ok|0 5 0 0;1 1 0 0|ok|fine|a lost+found|ok")
	plays(t, "make 64 10|spoil 512 1|spoil 0 0|spoil 511 0|check|mend|crash|on|check|list /", "E1|ok|ok|0 2 0 0|E13|ok|E13|0 2 0 0|E13")
}

func TestKeep(t *testing.T) {
	// The power goes behind the store of the damage: it stays if it is kept.
	plays(t, "make 64 10|fuse 2 1|spoil 6 7|on|check", "ok|E14|ok|0 5 0 0")
	plays(t, "make 64 10|fuse 2 0 1|spoil 6 7|on|check", "ok|E14|ok|fine")
	plays(t, "make 64 10|fuse 2|spoil 6 7|on|check", "ok|E14|ok|fine")
	plays(t, "make 64 10|fuse 1 1|spoil 6 7|on|check", "ok|E14|ok|fine")
	plays(t, "make 64 10|fuse 4 1|spoil 6 7|check", "ok|ok|0 5 0 0")
}

func TestForm(t *testing.T) {
	plays(t, "  make   64 10 ||   |  mkdir    /a   ||stat /a|", "ok 3|3 2 1 0")
	plays(t, "make 0000064 010|check", "fine")
	if got, err := tell.Run("make 64 10"); got != "" || err != api.OK {
		t.Errorf("one line: %q, %v", got, err)
	}
	if got, err := tell.Run("\n\nmake 64 10\ncheck"); got != "fine\n" || err != api.OK {
		t.Errorf("without a byte 10 at the end: %q, %v", got, err)
	}
}

func TestSyntax(t *testing.T) {
	for _, s := range []string{"", "\n", "  \n \n", "check\n", "mkdir /a\nmake 64 10\n", "make\n", "make 64\n", "make 64 10 1\n", "make x 10\n", "make 64 x\n", "make -64 10\n", "make 1234567890 10\n", "make 64 +10\n", "make 64 ٣\n", "Make 64 10\n", "make\t64 10\n"} {
		refused(t, s, api.ESYNTAX)
	}
	for _, s := range []string{
		"make 64 10", "nothing", "mkdir", "mkdir /a /b", "create", "create a b", "link /a", "link /a /b /c", "unlink", "unlink a b", "rmdir", "rmdir a b", "rename /a", "rename a b c", "symlink a", "symlink a b c",
		"readlink", "readlink a b", "read /a 1", "read /a x 1", "read /a 1 x", "read /a 1 1 1", "write /a 1", "write /a x y", "write /a 1 y z", "trunc /a", "trunc /a x", "trunc /a 1 1", "stat", "stat a b", "list", "list a b",
		"crash x", "crash 1 x", "crash 1234567890", "crash -1", "on 1", "on x", "fuse", "fuse x", "fuse 1 x", "fuse -1", "spoil", "spoil 1", "spoil 1 2 3", "spoil x 1", "spoil 1 x", "spoil 1 1234567890", "mend 1", "mend x", "check 1", "check x", "nothing 1", "does", "mkdir\t/a",
	} {
		refused(t, "make 64 10\nmkdir /a\n"+s+"\nmkdir /b\n", api.ESYNTAX)
		refused(t, "make 1 1\n"+s, api.ESYNTAX) // ahead of EARG
	}
	plays(t, "make 64 10|crash 999999999 0 123456789|on|fuse 999999999 1|spoil 999999999 999999999|trunc /a 999999999|read / 999999999 999999999", "ok|ok|ok|E1|E2|E5")
}

func TestGeometry(t *testing.T) {
	for _, s := range []string{"make 63 10", "make 1025 10", "make 64 3", "make 64 65", "make 64 21", "make 0 0", "make 999999999 999999999"} {
		refused(t, s+"\ncheck\n", api.EARG)
	}
	for _, s := range []string{"make 64 4", "make 64 20", "make 1024 64"} {
		plays(t, s+"|check", "fine")
	}
}

func TestLimits(t *testing.T) {
	head := "make 64 10\n"
	full := head + strings.Repeat("check\n", 299)
	if got, err := tell.Run(full); err != api.OK || got != strings.Repeat("fine\n", 299) {
		t.Errorf("300 lines: %v", err)
	}
	refused(t, full+"check\n", api.ENAME)
	refused(t, full+"\n", api.ENAME)
	refused(t, full+" ", api.ENAME)
	refused(t, strings.Repeat("\n", 301), api.ENAME)
	refused(t, strings.Repeat("\n", 300), api.ESYNTAX)
	blanks := head + strings.Repeat(" ", api.MaxScript-len(head))
	if got, err := tell.Run(blanks); err != api.OK || got != "" {
		t.Errorf("%d bytes: %q, %v", len(blanks), got, err)
	}
	refused(t, blanks+" ", api.ENAME)
	refused(t, strings.Repeat("x", api.MaxScript+1), api.ENAME)
	refused(t, strings.Repeat("x", api.MaxScript), api.ESYNTAX)
}

func TestAnything(t *testing.T) {
	words := []string{"make", "64", "10", "mkdir", "create", "link", "unlink", "rename", "symlink", "read", "write", "trunc", "stat", "list", "crash", "on", "fuse", "spoil", "mend", "check", "/a", "/b", "/a/b", "0", "7", "400", "\n", "\n", "\n", "\x00", "..", "\xff"}
	r := rand.New(rand.NewSource(1))
	for range 3000 {
		text := "make 64 10\n"
		for range r.Intn(30) {
			text += words[r.Intn(len(words))] + " "
		}
		got, err := tell.Run(text)
		if err != api.OK && (err != api.ESYNTAX || got != "") {
			t.Fatalf("%q: %q, %v", text, got, err)
		}
	}
}

// TestManyHappenings plays well-formed lines at random: there is an answer to each.
func TestManyHappenings(t *testing.T) {
	forms := []string{"mkdir /a", "create /a/f", "create /f", "write /f 3 hello", "link /f /a/g", "unlink /f", "rename /a /b", "rename /b /a", "list /", "stat /a", "symlink a /s", "read /f 0 99", "crash 1 2", "on", "on", "fuse 5 1", "fuse 30", "spoil 176 5", "spoil 6 1", "mend", "mend", "check"}
	r := rand.New(rand.NewSource(2))
	for range 200 {
		text := "make 64 10\n"
		n := r.Intn(80)
		for range n {
			text += forms[r.Intn(len(forms))] + "\n"
		}
		text += "on\nmend\ncheck\n"
		got, err := tell.Run(text)
		if err != api.OK || strings.Count(got, "\n") != n+3 {
			t.Fatalf("%q: %q, %v", text, got, err)
		}
	}
}
