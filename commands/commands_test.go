package commands_test

import (
	"encoding/hex"
	"fmt"
	"math"
	"math/rand"
	"regexp"
	"slices"
	"strconv"
	"strings"
	"testing"
	"unsafe"

	"stillage/api"
	"stillage/commands"
)

const (
	aName = `[a-z0-9._-]{1,16}`
	aPath = `/|(?:/` + aName + `){1,8}`
)

var (
	nameForm = regexp.MustCompile(`^` + aName + `$`)
	pathForm = regexp.MustCompile(`^(?:` + aPath + `)$`)
)

// isName tells whether a text is a name, by the words of the document.
func isName(s string) bool {
	return nameForm.MatchString(s) && s != "." && s != ".."
}

// namesOf are a path's names, by the words of the document.
func namesOf(s string) ([]string, bool) {
	if !pathForm.MatchString(s) {
		return nil, false
	}
	if s == "/" {
		return nil, true
	}
	l := strings.Split(s, "/")[1:]
	for _, n := range l {
		if !isName(n) {
			return nil, false
		}
	}
	return l, true
}

func isPath(s string) bool {
	_, ok := namesOf(s)
	return ok
}

// lineForms are those of all kinds, in their order: a word, and P, T, A, D, N of a path in Path, a path in To, At, Data, a name in Path.
var lineForms = [api.CmdKinds]string{"make P", "dir P", "write P A D", "cut P A", "link P T", "rename P T", "remove P", "snap N", "unsnap N"}

// lineForm tells lines of one kind, and what each field of such a line has, but for what namesOf and MaxData forbid.
func lineForm(kind int) *regexp.Regexp {
	s := strings.NewReplacer(
		" P", ` (?P<P>`+aPath+`)`,
		" T", ` (?P<T>`+aPath+`)`,
		" A", ` (?P<A>0|[1-9][0-9]{0,4})`,
		" D", ` (?P<D>-|(?:[0-9a-f][0-9a-f])+)`,
		" N", ` (?P<N>`+aName+`)`,
	).Replace(lineForms[kind])
	return regexp.MustCompile(`^` + s + `$`)
}

var lines = func() (l [api.CmdKinds]*regexp.Regexp) {
	for kind := range l {
		l[kind] = lineForm(kind)
	}
	return l
}()

// may tells whether a command may be, by the words of the document.
func may(c api.Command) bool {
	if c.Kind < 0 || c.Kind >= api.CmdKinds {
		return false
	}
	has := func(field string) bool { return strings.Contains(lineForms[c.Kind], " "+field) }
	switch {
	case has("P") && !isPath(c.Path), has("N") && !isName(c.Path):
		return false
	case has("T") && !isPath(c.To), !has("T") && c.To != "":
		return false
	case has("A") && (c.At < 0 || c.At > 16384), !has("A") && c.At != 0:
		return false
	case has("D") && len(c.Data) > 512, !has("D") && c.Data != "":
		return false
	}
	return true
}

// lineOf is the line of a command that may be, by the words of the document.
func lineOf(c api.Command) string {
	data := hex.EncodeToString([]byte(c.Data))
	if data == "" {
		data = "-"
	}
	var words []string
	for _, word := range strings.Split(lineForms[c.Kind], " ") {
		switch word {
		case "P", "N":
			word = c.Path
		case "T":
			word = c.To
		case "A":
			word = fmt.Sprint(c.At)
		case "D":
			word = data
		}
		words = append(words, word)
	}
	return strings.Join(words, " ")
}

// commandOf is the command of a line, by the words of the document.
func commandOf(s string) (api.Command, bool) {
	for kind, form := range lines {
		found := form.FindStringSubmatch(s)
		if found == nil {
			continue
		}
		c := api.Command{Kind: kind}
		for i, field := range form.SubexpNames() {
			switch field {
			case "P", "N":
				c.Path = found[i]
			case "T":
				c.To = found[i]
			case "A":
				c.At, _ = strconv.Atoi(found[i])
			case "D":
				data, _ := hex.DecodeString(strings.TrimPrefix(found[i], "-"))
				c.Data = string(data)
			}
		}
		return c, may(c)
	}
	return api.Command{}, false
}

// short is a text for telling a fault.
func short(s string) string {
	return fmt.Sprintf("%.200q (%d bytes)", s, len(s))
}

// walks fails if a path's names are not told as the document says.
func walks(t testing.TB, s string) {
	t.Helper()
	want, ok := namesOf(s)
	wantE := api.OK
	if !ok {
		want, wantE = nil, api.ErrCommandForm
	}
	if l, e := commands.Path(s); !slices.Equal(l, want) || e != wantE {
		t.Fatalf("%s: %.200q, %v, not %.200q, %v", short(s), l, e, want, wantE)
	}
}

// prints fails if a command is not printed as the document says, or what is printed is not parsed as it was.
func prints(t testing.TB, c api.Command) {
	t.Helper()
	want, wantE := "", api.ErrCommandForm
	if may(c) {
		want, wantE = lineOf(c), api.OK
	}
	s, e := commands.Print(c)
	if s != want || e != wantE {
		t.Fatalf("%.200q is printed %s, %v, not %s, %v", fmt.Sprint(c), short(s), e, short(want), wantE)
	}
	if e != api.OK {
		return
	}
	if back, e := commands.Parse(s); back != c || e != api.OK {
		t.Fatalf("%.200q is printed %s, and parsed %.200q, %v", fmt.Sprint(c), short(s), fmt.Sprint(back), e)
	}
}

// parses fails if a line is not parsed as the document says, or what is parsed is not printed as it was.
func parses(t testing.TB, s string) {
	t.Helper()
	want, ok := commandOf(s)
	wantE := api.OK
	if !ok {
		want, wantE = api.Command{}, api.ErrCommandForm
	}
	c, e := commands.Parse(s)
	if c != want || e != wantE {
		t.Fatalf("%s is parsed %.200q, %v, not %.200q, %v", short(s), fmt.Sprint(c), e, fmt.Sprint(want), wantE)
	}
	if e != api.OK {
		return
	}
	if again, e := commands.Print(c); again != s || e != api.OK {
		t.Fatalf("%s is parsed %.200q, and printed %s, %v", short(s), fmt.Sprint(c), short(again), e)
	}
}

// deep is a path of so many names.
func deep(n int) string {
	return strings.Repeat("/abcdefghijklmnop", n)
}

// some are commands of all kinds, with their lines, as the document writes them.
var some = []struct {
	line string
	c    api.Command
}{
	{"make /a", api.Command{Kind: api.CmdMake, Path: "/a"}},
	{"make /", api.Command{Kind: api.CmdMake, Path: "/"}},
	{"make " + deep(8), api.Command{Kind: api.CmdMake, Path: deep(8)}},
	{"dir /a/b.c", api.Command{Kind: api.CmdDir, Path: "/a/b.c"}},
	{"dir /1/2/3/4/5/6/7/8", api.Command{Kind: api.CmdDir, Path: "/1/2/3/4/5/6/7/8"}},
	{"write /a 5 00ff", api.Command{Kind: api.CmdWrite, Path: "/a", At: 5, Data: "\x00\xff"}},
	{"write /a 0 6162", api.Command{Kind: api.CmdWrite, Path: "/a", Data: "ab"}},
	{"write /a 0 -", api.Command{Kind: api.CmdWrite, Path: "/a"}},
	{"write / 16384 2d", api.Command{Kind: api.CmdWrite, Path: "/", At: 16384, Data: "-"}},
	{"write /- 10 0123456789abcdef", api.Command{Kind: api.CmdWrite, Path: "/-", At: 10, Data: "\x01\x23\x45\x67\x89\xab\xcd\xef"}},
	{"write " + deep(8) + " 16384 " + strings.Repeat("f0", 512), api.Command{Kind: api.CmdWrite, Path: deep(8), At: 16384, Data: strings.Repeat("\xf0", 512)}},
	{"cut /a 0", api.Command{Kind: api.CmdCut, Path: "/a"}},
	{"cut /a 16384", api.Command{Kind: api.CmdCut, Path: "/a", At: 16384}},
	{"link /a /b", api.Command{Kind: api.CmdLink, Path: "/a", To: "/b"}},
	{"link / /", api.Command{Kind: api.CmdLink, Path: "/", To: "/"}},
	{"rename /a /b/c", api.Command{Kind: api.CmdRename, Path: "/a", To: "/b/c"}},
	{"rename " + deep(8) + " " + deep(7), api.Command{Kind: api.CmdRename, Path: deep(8), To: deep(7)}},
	{"remove /a", api.Command{Kind: api.CmdRemove, Path: "/a"}},
	{"snap s.1", api.Command{Kind: api.CmdSnap, Path: "s.1"}},
	{"snap snap", api.Command{Kind: api.CmdSnap, Path: "snap"}},
	{"unsnap -", api.Command{Kind: api.CmdUnsnap, Path: "-"}},
	{"unsnap abcdefghijklmnop", api.Command{Kind: api.CmdUnsnap, Path: "abcdefghijklmnop"}},
}

// P13.1: paths

func TestPath(t *testing.T) {
	for s, want := range map[string][]string{
		"/": {}, "/a": {"a"}, "/a/b.c": {"a", "b.c"}, "/a/a": {"a", "a"}, "/...": {"..."}, "/.a": {".a"}, "/-": {"-"}, "/_/0": {"_", "0"},
		"/1/2/3/4/5/6/7": {"1", "2", "3", "4", "5", "6", "7"}, "/1/2/3/4/5/6/7/8": {"1", "2", "3", "4", "5", "6", "7", "8"},
		"/abcdefghijklmnop": {"abcdefghijklmnop"}, "/a/abcdefghijklmnop/b": {"a", "abcdefghijklmnop", "b"},
	} {
		if l, e := commands.Path(s); !slices.Equal(l, want) || e != api.OK {
			t.Errorf("%q: %q, %v", s, l, e)
		}
	}
	for _, s := range []string{
		"", "a", "a/", "a/b", " ", " /", "/ ", " /a", "/a ", "/ a", "/a b", "//", "///", "//a", "/a/", "/a//", "/a//b", "/a/b/", "\\a",
		"/.", "/..", "/./a", "/../a", "/a/.", "/a/..", "/a/./b", "/a/../b", ".", "..", "./a", "../a",
		"/A", "/a/B", "/a:", "/a\n", "\n/a", "/\x00", "/a\x00", "/\xff", "/é", "／a", "/a?", "/*", "/a,b", "/a+b",
		"/abcdefghijklmnopq", "/a/abcdefghijklmnopq", "/abcdefghijklmnopq/a",
		"/1/2/3/4/5/6/7/8/", "/1/2/3/4/5/6/7//", "/1/2/3/4/5/6/7/8/9", "/1/2/3/4/5/6/7/8/9/10", "/1/2/3/4/5/6/7/..", "/1/2/3/4/5/6/7/A",
	} {
		if l, e := commands.Path(s); len(l) != 0 || e != api.ErrCommandForm {
			t.Errorf("%q: %q, %v", s, l, e)
		}
	}
}

// TestPathOfEachByte: in each place of a path of three names, instead of what is there and beside it.
func TestPathOfEachByte(t *testing.T) {
	for b := range 256 {
		one := string([]byte{byte(b)})
		walks(t, one)
		walks(t, "/"+one)
		walks(t, one+one)
		for s, i := "/a.b/cd-1/e_", 0; i <= len(s); i++ {
			walks(t, s[:i]+one+s[i:])
			if i < len(s) {
				walks(t, s[:i]+one+s[i+1:])
			}
		}
	}
}

// TestPathOfFewParts: all that are made of some parts.
func TestPathOfFewParts(t *testing.T) {
	last := []string{""}
	for range 7 {
		var next []string
		for _, s := range last {
			walks(t, s)
			for _, part := range []string{"/", "/a", ".", "b", " ", "/abcdefghijklmno"} {
				next = append(next, s+part)
			}
		}
		last = next
	}
}

// TestPathOfManyNames: of each length, at each depth.
func TestPathOfManyNames(t *testing.T) {
	for n := range 40 {
		for size := range 20 {
			walks(t, strings.Repeat("/"+strings.Repeat("x", size), n))
			walks(t, strings.Repeat("/y", n)+"/"+strings.Repeat("x", size))
			walks(t, "/"+strings.Repeat("x", size)+strings.Repeat("/y", n))
		}
	}
	for _, n := range []int{255, 256, 257, 256 + 8, 65536, 65536 + 1, 65536 + 8, 1 << 20} {
		for _, part := range []string{"/a", "/", "a", "/abcdefghijklmnop"} {
			if l, e := commands.Path(strings.Repeat(part, n)); len(l) != 0 || e != api.ErrCommandForm {
				t.Error(n, part, len(l), e)
			}
		}
	}
}

// P13.1: lines

func TestLines(t *testing.T) {
	for _, x := range some {
		if s, e := commands.Print(x.c); s != x.line || e != api.OK {
			t.Errorf("%.200v: %s, %v", x.c, short(s), e)
		}
		if c, e := commands.Parse(x.line); c != x.c || e != api.OK {
			t.Errorf("%s: %.200v, %v", short(x.line), c, e)
		}
	}
	for _, s := range []string{
		"", " ", "  ", "make", "make ", "make  ", "make a", "make /a ", "make /a  ", " make /a", "make  /a", "make /a /b", "make /a 0", "make\t/a", "make /a\n", "Make /a", "MAKE /a", "mak /a", "makes /a", "0 /a", "/a", "/a make", "make/a",
		"dir", "dir a", "dir /a/", "dir /a /b", "remove", "remove a", "remove /a /b",
		"write", "write /a", "write /a 0", "write /a 0 ", "write /a  -", "write /a 0 0", "write /a 0 0A", "write /a 0 FF", "write /a 0 0g", "write /a 0 g0", "write /a 0 000", "write /a 0 --", "write /a 0 -0", "write /a 0 0-", "write /a 0 -00", "write /a 0 00-", "write /a 0 0x00", "write /a 0 00 -", "write /a 0 00 00", "write /a 0 - ", "write /a - 0", "write /a 00 0", "write 0 /a 00", "write a 0 00", "write /a 16385 00", "write /a -1 00", "write /a 0 " + strings.Repeat("00", 513),
		"cut", "cut /a", "cut /a ", "cut /a 05", "cut /a 00", "cut /a -0", "cut /a +0", "cut /a 16385", "cut /a 65536", "cut /a -1", "cut /a +1", "cut /a 1 ", "cut /a 1 -", "cut /a 0x1", "cut /a 1e1", "cut /a 1.0", "cut /a 1_0", "cut /a 1 0", "cut /a a", "cut /a /b", "cut /a -", "cut 0 /a", "cut a 0", "cut /a １",
		"link", "link /a", "link /a ", "link /a b", "link a /b", "link /a /b ", "link /a /b /c", "link  /a /b", "link /a  /b", "rename", "rename /a", "rename /a b", "rename a /b", "rename /a /b /c", "rename /a/b/ /c",
		"snap", "snap ", "snap /a", "snap .", "snap ..", "snap A", "snap a b", "snap a ", "snap  a", "snap abcdefghijklmnopq", "snap a/b", "snap /", "unsnap", "unsnap ", "unsnap /a", "unsnap ..", "unsnap a b", "unsnap abcdefghijklmnopq", "unsnap /",
		"move /a", "move /a /b", "P", "make P", "-", "at /a", "error 130",
	} {
		if c, e := commands.Parse(s); c != (api.Command{}) || e != api.ErrCommandForm {
			t.Errorf("%s: %.200v, %v", short(s), c, e)
		}
	}
}

// TestExamples: those of the document.
func TestExamples(t *testing.T) {
	if s, e := commands.Print(api.Command{Kind: api.CmdWrite, Path: "/a", At: 5, Data: "\x00\xff"}); s != "write /a 5 00ff" || e != api.OK {
		t.Error(s, e)
	}
	if c, e := commands.Parse("cut /a 05"); c != (api.Command{}) || e != api.ErrCommandForm {
		t.Error(c, e)
	}
}

// TestKinds: those that there are, and none beside them.
func TestKinds(t *testing.T) {
	of := map[int]bool{}
	for _, x := range some {
		of[x.c.Kind] = true
	}
	if len(of) != api.CmdKinds {
		t.Error("not all kinds", of)
	}
	for _, kind := range []int{-1, -2, -8, -9, -256, api.CmdKinds, api.CmdKinds + 1, 255, 256, 65536, 1 << 32, 1<<32 + 1, -1 << 32, math.MaxInt, math.MinInt, math.MinInt + 1} {
		for _, x := range some {
			x.c.Kind = kind
			if s, e := commands.Print(x.c); s != "" || e != api.ErrCommandForm {
				t.Errorf("%.200v: %s, %v", x.c, short(s), e)
			}
		}
		if s, e := commands.Print(api.Command{Kind: kind}); s != "" || e != api.ErrCommandForm {
			t.Error(kind, s, e)
		}
	}
}

var (
	paths = []string{"", "/", "/a", "/a/b", "/-", "/0", deep(1), deep(8), "/1/2/3/4/5/6/7/8", deep(9), "/1/2/3/4/5/6/7/8/9", "/abcdefghijklmnopq", "a", "s.1", "0", "-", "abcdefghijklmnop", "abcdefghijklmnopq", ".", "..", "...", "/.", "/..", "//", "/a/", "A", "/A", " ", "/a ", " /a", "/a /b", "/a 0", "/a 0 -", "/a 0 00", "a b", "\x00", "/\xff", "/a\n"}
	tos   = []string{"", "/", "/a", "/b/c", deep(8), deep(9), "b", " ", "/a ", "/a /b", "0", "-", "//"}
	ats   = []int{0, 1, 9, 10, 16383, 16384, 16385, 65536, 1 << 32, 1<<32 + 1, 1<<62 + 1, math.MaxInt, -1, -10, -16384, -1 << 32, math.MinInt}
	datas = []string{"", "a", "-", "\x00", "\xff\x00", "ab cd", strings.Repeat("\xa5", 511), strings.Repeat("\x5a", 512), strings.Repeat("\x00", 513), strings.Repeat("0", 1024), strings.Repeat("x", 65536+1)}
)

// TestFields: of each kind with each of some fields, so also those that the kind doesn't name.
func TestFields(t *testing.T) {
	of := map[string]api.Command{}
	for kind := -1; kind <= api.CmdKinds; kind++ {
		for _, path := range paths {
			for _, to := range tos {
				for _, at := range ats {
					for _, data := range datas {
						c := api.Command{Kind: kind, Path: path, To: to, At: at, Data: data}
						prints(t, c)
						s, e := commands.Print(c)
						if other, ok := of[s]; ok && e == api.OK {
							t.Fatalf("one line: %.200v, %.200v", c, other)
						}
						if e == api.OK {
							of[s] = c
						}
					}
				}
			}
		}
	}
	if len(of) < 500 {
		t.Error("few commands", len(of))
	}
}

// TestOneFieldTooMuch: each command that may be, and one thing of a field that its kind doesn't name, or that may not be.
func TestOneFieldTooMuch(t *testing.T) {
	for _, x := range some {
		prints(t, x.c)
		parses(t, x.line)
		for _, path := range paths {
			c := x.c
			c.Path = path
			prints(t, c)
		}
		for _, to := range append(tos, x.c.Path, x.line) {
			c := x.c
			c.To = to
			prints(t, c)
		}
		for _, at := range ats {
			c := x.c
			c.At = at
			prints(t, c)
		}
		for _, data := range append(datas, x.c.Path, x.line) {
			c := x.c
			c.Data = data
			prints(t, c)
		}
		for kind := range api.CmdKinds {
			c := x.c
			c.Kind = kind
			prints(t, c)
		}
	}
}

// TestPlaces: all that may be, and those about them.
func TestPlaces(t *testing.T) {
	for n := -20; n < 20000; n++ {
		prints(t, api.Command{Kind: api.CmdCut, Path: "/a", At: n})
		parses(t, "cut /a "+strconv.Itoa(n))
		parses(t, "cut /a 0"+strconv.Itoa(n))
		parses(t, "cut /a +"+strconv.Itoa(n))
		parses(t, "cut /a -"+strconv.Itoa(n))
		parses(t, "write /a "+strconv.Itoa(n)+" 00")
		parses(t, "write /a "+strconv.FormatInt(int64(n), 16)+" 00")
	}
	for _, word := range []string{
		"", "18446744073709551616", "18446744073709551617", "9223372036854775807", "9223372036854775808", "-9223372036854775808", "4294967296", "4294967297", "65536", "65537", "100000", "163840", "16384.", "16384.0", "1e3", "1E3", "0b1", "0o7", "0x10", "010", "0_1", "1_000", "1,000", " 1", "1 ", "\t1", "1\n", "1\x00", "\x001", "١", "１", "½", "NaN", "Inf", "true", "one",
		strings.Repeat("0", 20), strings.Repeat("0", 20) + "1", strings.Repeat("9", 20), strings.Repeat("1", 100000), strings.Repeat("0", 100000),
	} {
		parses(t, "cut /a "+word)
		parses(t, "write /a "+word+" 00")
	}
	for b := range 256 {
		for c := range 256 {
			parses(t, "cut /a "+string([]byte{byte(b), byte(c)}))
		}
	}
}

// TestData: each byte and each length; each word of two bytes, and of three and four of some bytes.
func TestData(t *testing.T) {
	for b := range 256 {
		one := string([]byte{byte(b)})
		want := "write /a 7 " + hex.EncodeToString([]byte(one))
		if s, e := commands.Print(api.Command{Kind: api.CmdWrite, Path: "/a", At: 7, Data: one}); s != want || e != api.OK {
			t.Errorf("%x: %s, %v", b, s, e)
		}
		parses(t, "write /a 0 "+one)
		parses(t, "write /a 0 00"+one)
		parses(t, "write /a 0 -"+one)
		for c := range 256 {
			two := string([]byte{byte(b), byte(c)})
			prints(t, api.Command{Kind: api.CmdWrite, Path: "/a", Data: two})
			parses(t, "write /a 0 "+two)
			parses(t, "write /a 0 ff"+two)
			parses(t, "write /a 0 "+two+"00")
		}
	}
	some := []byte("09afAFgG/:`@- \x00")
	for _, a := range some {
		for _, b := range some {
			for _, c := range some {
				parses(t, "write /a 0 "+string([]byte{a, b, c}))
				for _, d := range some {
					parses(t, "write /a 0 "+string([]byte{a, b, c, d}))
				}
			}
		}
	}
	for n := range 1100 {
		prints(t, api.Command{Kind: api.CmdWrite, Path: "/a", Data: strings.Repeat("\xc3", n)})
		parses(t, "write /a 0 "+strings.Repeat("7", n))
		parses(t, "write /a 0 "+strings.Repeat("c3", n))
		parses(t, "write /a 0 "+strings.Repeat("c", n)+"g")
		parses(t, "write /a 0 "+strings.Repeat("-", n))
	}
}

// TestRowsOfWords: all lines of a few words, with a blank between each two.
func TestRowsOfWords(t *testing.T) {
	words := []string{"", "make", "dir", "write", "cut", "link", "rename", "remove", "snap", "unsnap", "/", "/a", "//", "0", "00", "-", "a"}
	last := words
	for range 4 {
		var next []string
		for _, s := range last {
			parses(t, s)
			for _, w := range words {
				next = append(next, s+" "+w)
			}
		}
		last = next
	}
}

// TestOtherBytes: each byte of a line is made each other one, is left out, stands twice; another one stands ahead of it; the line ends there, or begins.
func TestOtherBytes(t *testing.T) {
	for _, x := range some {
		if s := x.line; len(s) < 100 {
			for i := range len(s) {
				parses(t, s[:i])
				parses(t, s[i:])
				parses(t, s[:i]+s[i+1:])
				parses(t, s[:i]+s[i:i+1]+s[i:])
				for b := range 256 {
					one := string([]byte{byte(b)})
					parses(t, s[:i]+one+s[i+1:])
					parses(t, s[:i]+one+s[i:])
					parses(t, s+one)
				}
			}
		}
	}
}

// TestTwoLines: a line is one, and none that stands behind another one, whatever is between them.
func TestTwoLines(t *testing.T) {
	for _, x := range some {
		for _, y := range some {
			for _, between := range []string{"", " ", "\n", "\r\n", "\x00", "/", "-"} {
				parses(t, x.line+between+y.line)
			}
		}
	}
}

// TestLong: texts that are far too long.
func TestLong(t *testing.T) {
	for _, part := range []string{" ", "/", "a", "0", "00", "-", "/a", "make", "make ", " /a", "\x00", "\n"} {
		long := strings.Repeat(part, 1<<20)
		for _, x := range some {
			for _, s := range []string{long, x.line + long, long + x.line, x.line + " " + long, strings.ReplaceAll(x.line, "/a", long)} {
				if c, e := commands.Parse(s); s != x.line && (c != (api.Command{}) || e != api.ErrCommandForm) {
					t.Errorf("%s: %.200v, %v", short(s), c, e)
				}
			}
			for _, c := range []api.Command{{Kind: x.c.Kind, Path: long}, {Kind: x.c.Kind, Path: x.c.Path, To: long}, {Kind: x.c.Kind, Path: x.c.Path, To: x.c.To, Data: long}} {
				if s, e := commands.Print(c); s != "" || e != api.ErrCommandForm {
					t.Errorf("%d of %q: %s, %v", c.Kind, part, short(s), e)
				}
			}
		}
	}
}

// P13.2

// one is of some by chance.
func one[T any](chance *rand.Rand, l []T) T {
	return l[chance.Intn(len(l))]
}

// nameByChance is a name, or seldom none.
func nameByChance(chance *rand.Rand) string {
	letters := "abcdefghijklmnopqrstuvwxyz0123456789.-_"
	if chance.Intn(50) == 0 {
		letters += "A/ \x00\xff"
	}
	s := make([]byte, 1+chance.Intn(16+chance.Intn(30)/29))
	for i := range s {
		s[i] = letters[chance.Intn(len(letters))]
	}
	return string(s)
}

// pathByChance is a path, or seldom none.
func pathByChance(chance *rand.Rand) string {
	if chance.Intn(12) == 0 {
		return "/"
	}
	s := ""
	for range 1 + chance.Intn(8+chance.Intn(30)/29) {
		s += "/" + nameByChance(chance)
	}
	return s
}

// byChance is a command, most often one that may be.
func byChance(chance *rand.Rand) api.Command {
	c := api.Command{Kind: chance.Intn(api.CmdKinds), Path: pathByChance(chance)}
	form := lineForms[c.Kind]
	if strings.HasSuffix(form, " N") {
		c.Path = nameByChance(chance)
	}
	seldom := chance.Intn(20) == 0
	if seldom || strings.HasSuffix(form, " T") {
		c.To = pathByChance(chance)
	}
	if seldom || strings.Contains(form, " A") {
		c.At = chance.Intn(16385 + chance.Intn(50)/49)
	}
	if seldom || strings.HasSuffix(form, " D") {
		data := make([]byte, chance.Intn(513+chance.Intn(50)/49))
		chance.Read(data)
		c.Data = string(data)
	}
	return c
}

// TestByChance: commands, and their lines with some bytes other ones.
func TestByChance(t *testing.T) {
	chance := rand.New(rand.NewSource(13))
	right, again := 0, 0
	of := map[string]api.Command{}
	for range 40000 {
		c := byChance(chance)
		prints(t, c)
		s, e := commands.Print(c)
		if e == api.OK {
			right++
			if other, ok := of[s]; ok && other != c {
				t.Fatalf("one line: %.200v, %.200v", c, other)
			}
			of[s] = c
		}
		walks(t, c.Path)
		line := []byte(lineOf(c))
		for range 1 + chance.Intn(3) {
			line[chance.Intn(len(line))] = one(chance, []byte("ab0159-/. kg"))
		}
		parses(t, string(line))
		walks(t, string(line[len(line)/2:]))
		if _, e := commands.Parse(string(line)); e == api.OK {
			again++
		}
	}
	if right < 25000 || again < 2000 {
		t.Error("few that may be", right, again)
	}
}

func FuzzParse(f *testing.F) {
	for _, x := range some {
		f.Add(x.line)
	}
	for _, path := range paths {
		f.Add("make " + path)
		f.Add("snap " + path)
		f.Add(path)
	}
	f.Fuzz(func(t *testing.T, s string) {
		parses(t, s)
		walks(t, s)
	})
}

func FuzzPrint(f *testing.F) {
	for _, x := range some {
		f.Add(x.c.Kind, x.c.Path, x.c.To, x.c.At, x.c.Data)
	}
	f.Fuzz(func(t *testing.T, kind int, path, to string, at int, data string) {
		prints(t, api.Command{Kind: kind, Path: path, To: to, At: at, Data: data})
		prints(t, api.Command{Kind: (kind%api.CmdKinds + api.CmdKinds) % api.CmdKinds, Path: path, To: to, At: at, Data: data})
		walks(t, path)
		walks(t, to)
	})
}

// The rules that hold everywhere

// TestAnswersAgain: the same is answered again, whatever becomes of what was answered, and of the room behind it.
func TestAnswersAgain(t *testing.T) {
	for _, s := range []string{"/", "/a", "/a/b.c", "/1/2/3/4/5/6/7/8", deep(8)} {
		first, _ := commands.Path(s)
		want, _ := namesOf(s)
		for range 3 {
			l, e := commands.Path(s)
			if !slices.Equal(l, want) || e != api.OK {
				t.Fatal(l, e)
			}
			l = l[:cap(l)]
			for i := range l {
				l[i] = "x"
			}
			if !slices.Equal(first, want) {
				t.Fatal("two answers share memory", first)
			}
		}
	}
	for range 3 {
		for _, x := range some {
			prints(t, x.c)
			parses(t, x.line)
		}
	}
}

// within tells whether a text stands in the memory of another one.
func within(part, whole string) bool {
	at, from := uintptr(unsafe.Pointer(unsafe.StringData(part))), uintptr(unsafe.Pointer(unsafe.StringData(whole)))
	return part != "" && from <= at && at < from+uintptr(len(whole))
}

// TestNewMemory: what is answered keeps nothing of what was handed in.
func TestNewMemory(t *testing.T) {
	for _, x := range some {
		c, _ := commands.Parse(x.line)
		if within(c.Path, x.line) || within(c.To, x.line) || within(c.Data, x.line) {
			t.Error("of the line", x.line)
		}
		s, _ := commands.Print(x.c)
		if within(x.c.Path, s) || within(x.c.To, s) || within(x.c.Data, s) {
			t.Error("of the command", x.c)
		}
		l, _ := commands.Path(x.c.Path)
		for _, n := range l {
			if within(n, x.c.Path) {
				t.Error("of the path", x.c.Path)
			}
		}
	}
}

// TestZeroBesideErrors: a fault behind words that may be lets none of them be told.
func TestZeroBesideErrors(t *testing.T) {
	for _, x := range some {
		for _, s := range []string{x.line + " ", x.line + "A", x.line + " /a", x.line + "\x00"} {
			if c, e := commands.Parse(s); c != (api.Command{}) || e != api.ErrCommandForm {
				t.Errorf("%s: %.200v, %v", short(s), c, e)
			}
		}
		c := x.c
		c.Data += strings.Repeat("x", 513)
		if s, e := commands.Print(c); s != "" || e != api.ErrCommandForm {
			t.Errorf("%d: %s, %v", c.Kind, short(s), e)
		}
	}
	for _, s := range []string{"/a/b/", "/a/b/A", "/a/..", "/1/2/3/4/5/6/7/8/9"} {
		if l, e := commands.Path(s); len(l) != 0 || e != api.ErrCommandForm {
			t.Errorf("%q: %q, %v", s, l, e)
		}
	}
}
