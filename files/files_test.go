package files_test

import (
	"fmt"
	"maps"
	"math"
	"math/rand"
	"slices"
	"strings"
	"testing"
	"unsafe"

	"stillage/api"
	"stillage/commands"
	"stillage/files"
	"stillage/tables"
)

// model is a tree, by the words of the document: each path that finds something, with the number for which it stands.
type model struct {
	at   map[string]int
	dirs map[int]bool
	data map[int]string
}

func newModel() *model {
	return &model{at: map[string]int{"/": 1}, dirs: map[int]bool{1: true}, data: map[int]string{}}
}

func (m *model) clone() *model {
	return &model{at: maps.Clone(m.at), dirs: maps.Clone(m.dirs), data: maps.Clone(m.data)}
}

// split are a path's names; not ok, if it is no path.
func split(path string) ([]string, bool) {
	l, e := commands.Path(path)
	return l, e == api.OK
}

// join is the path of a name in a directory.
func join(dir, name string) string {
	return strings.TrimSuffix(dir, "/") + "/" + name
}

// cutLast are the path of a path's parent, and its last name.
func cutLast(path string) (string, string) {
	i := strings.LastIndexByte(path, '/')
	return max(path[:i], "/"), path[i+1:]
}

func (m *model) find(path string) (int, api.Errno) {
	names, _ := split(path)
	found := "/"
	for _, name := range names {
		if !m.dirs[m.at[found]] {
			return 0, api.ErrFileKind
		}
		found = join(found, name)
		if m.at[found] == 0 {
			return 0, api.ErrFileNone
		}
	}
	return m.at[found], api.OK
}

// list are the names of a directory, rising.
func (m *model) list(dir string) (l []string) {
	for path := range m.at {
		if path != "/" {
			if parent, name := cutLast(path); parent == dir {
				l = append(l, name)
			}
		}
	}
	slices.Sort(l)
	return l
}

// links are how many names stand for each number.
func (m *model) links() map[int]int {
	l := map[int]int{}
	for _, num := range m.at {
		l[num]++
	}
	return l
}

// number are the bytes of a number below 2^14.
func number(n int) string {
	if n < 128 {
		return string([]byte{byte(n)})
	}
	if n < 1<<14 {
		return string([]byte{byte(n%128 + 128), byte(n / 128)})
	}
	return string([]byte{byte(n%128 + 128), byte(n/128%128 + 128), byte(n / 128 / 128)})
}

func (m *model) node(path string) api.Node {
	num := m.at[path]
	n := api.Node{Num: num, Dir: m.dirs[num], Links: m.links()[num], Data: m.data[num]}
	if n.Dir {
		l := m.list(path)
		n.Data = number(len(l))
		for _, name := range l {
			n.Data += number(len(name)) + name + number(m.at[join(path, name)])
		}
	}
	return n
}

func (m *model) nodes() (l []api.Node) {
	of := map[int]string{}
	for path, num := range m.at {
		of[num] = path
	}
	for _, num := range slices.Sorted(maps.Keys(of)) {
		l = append(l, m.node(of[num]))
	}
	return l
}

// placeError is what is told of a path that is to stand for something.
func (m *model) placeError(path string) api.Errno {
	if path == "/" {
		return api.ErrFileThere
	}
	dir, _ := cutLast(path)
	num, e := m.find(dir)
	switch {
	case e != api.OK:
		return e
	case !m.dirs[num]:
		return api.ErrFileKind
	case m.at[path] != 0:
		return api.ErrFileThere
	case len(m.list(dir)) == 60:
		return api.ErrFileLong
	}
	return api.OK
}

// fileError is what is told of a path that is to be a file's.
func (m *model) fileError(path string) api.Errno {
	num, e := m.find(path)
	if e == api.OK && m.dirs[num] {
		return api.ErrFileKind
	}
	return e
}

// may tells whether a command is one on files.
func may(c api.Command) bool {
	_, e := commands.Print(c)
	return e == api.OK && c.Kind != api.CmdSnap && c.Kind != api.CmdUnsnap
}

func (m *model) do(c api.Command) api.Errno {
	if !may(c) {
		return api.ErrArg
	}
	switch c.Kind {
	case api.CmdMake, api.CmdDir:
		return m.create(c)
	case api.CmdWrite, api.CmdCut:
		return m.change(c)
	case api.CmdLink:
		e := m.fileError(c.Path)
		if e == api.OK {
			e = m.placeError(c.To)
		}
		if e == api.OK {
			m.at[c.To] = m.at[c.Path]
		}
		return e
	case api.CmdRename:
		return m.rename(c)
	default:
		return m.remove(c)
	}
}

func (m *model) create(c api.Command) api.Errno {
	if e := m.placeError(c.Path); e != api.OK {
		return e
	}
	links := m.links()
	if len(links) == 60 {
		return api.ErrFileLong
	}
	num := 2
	for links[num] > 0 {
		num++
	}
	m.at[c.Path] = num
	if c.Kind == api.CmdDir {
		m.dirs[num] = true
	}
	return api.OK
}

func (m *model) change(c api.Command) api.Errno {
	if e := m.fileError(c.Path); e != api.OK {
		return e
	}
	num := m.at[c.Path]
	old := []byte(m.data[num])
	if c.At > len(old) || c.At+len(c.Data) > 16384 {
		return api.ErrFileLong
	}
	if c.Kind == api.CmdCut {
		old = old[:c.At]
	}
	for i := range len(c.Data) {
		if c.At+i == len(old) {
			old = append(old, 0)
		}
		old[c.At+i] = c.Data[i]
	}
	m.data[num] = string(old)
	return api.OK
}

func (m *model) rename(c api.Command) api.Errno {
	if c.Path == "/" {
		return api.ErrFileBusy
	}
	if _, e := m.find(c.Path); e != api.OK {
		return e
	}
	if strings.HasPrefix(c.To, c.Path+"/") {
		return api.ErrFileBusy
	}
	if e := m.placeError(c.To); e != api.OK {
		return e
	}
	at := map[string]int{}
	for path, num := range m.at {
		if rest, ok := strings.CutPrefix(path, c.Path); ok && (rest == "" || rest[0] == '/') {
			path = c.To + rest
		}
		if strings.Count(path, "/") > 8 {
			return api.ErrFileLong
		}
		at[path] = num
	}
	m.at = at
	return api.OK
}

func (m *model) remove(c api.Command) api.Errno {
	if c.Path == "/" {
		return api.ErrFileBusy
	}
	num, e := m.find(c.Path)
	if e != api.OK {
		return e
	}
	if m.dirs[num] && len(m.list(c.Path)) > 0 {
		return api.ErrFileBusy
	}
	delete(m.at, c.Path)
	if m.links()[num] == 0 {
		delete(m.dirs, num)
		delete(m.data, num)
	}
	return api.OK
}

// treeOf is the tree that nodes make, by the words of the document; not ok, if they make none.
func treeOf(l []api.Node) (*model, bool) {
	if len(l) < 1 || len(l) > 60 || l[0].Num != 1 || !l[0].Dir || l[0].Links != 1 {
		return nil, false
	}
	of := map[int]api.Node{}
	entries := map[int][]api.Entry{}
	for i, n := range l {
		if n.Num < 1 || n.Num > 65535 || i > 0 && n.Num <= l[i-1].Num || len(n.Data) > 16384 {
			return nil, false
		}
		of[n.Num] = n
		if n.Dir {
			x, e := tables.ParseEntries(n.Data)
			if e != api.OK || len(x) > 60 {
				return nil, false
			}
			entries[n.Num] = x
		}
	}
	links := map[int]int{}
	for _, x := range entries {
		for _, y := range x {
			if _, ok := of[y.Num]; !ok || y.Num == 1 {
				return nil, false
			}
			links[y.Num]++
		}
	}
	for _, n := range l[1:] {
		if n.Links != links[n.Num] || n.Links < 1 || n.Dir && n.Links != 1 {
			return nil, false
		}
	}
	m := newModel()
	for todo := []string{"/"}; len(todo) > 0; todo = todo[1:] {
		for _, y := range entries[m.at[todo[0]]] {
			path := join(todo[0], y.Name)
			if strings.Count(path, "/") > 8 {
				return nil, false
			}
			m.at[path] = y.Num
			if of[y.Num].Dir {
				m.dirs[y.Num] = true
				todo = append(todo, path)
			} else {
				m.data[y.Num] = of[y.Num].Data
			}
		}
	}
	// Each node is met.
	if len(m.links()) != len(l) {
		return nil, false
	}
	return m, true
}

// short is a thing for telling a fault.
func short(x any) string {
	return fmt.Sprintf("%.300q", fmt.Sprint(x))
}

// tells fails if a tree doesn't tell what the model tells.
func tells(t testing.TB, f *files.Tree, m *model, what any) {
	t.Helper()
	want := m.nodes()
	if l := f.Nodes(); !slices.Equal(l, want) {
		t.Fatalf("behind %s: nodes %s, not %s", short(what), short(l), short(want))
	}
	for path := range m.at {
		asks(t, f, m, path)
	}
}

// asks fails if what a tree tells of a path is not what the model tells.
func asks(t testing.TB, f *files.Tree, m *model, path string) {
	t.Helper()
	_, ok := split(path)
	num, e := m.find(path)
	want := api.Node{}
	switch {
	case !ok:
		e = api.ErrFilePath
	case e == api.OK:
		want = m.node(path)
	}
	if n, got := f.Get(path); n != want || got != e {
		t.Fatalf("Get of %s: %s, %v, not %s, %v", short(path), short(n), got, short(want), e)
	}
	wantL, listE := m.list(path), e
	if e == api.OK && !m.dirs[num] {
		wantL, listE = nil, api.ErrFileKind
	}
	if listE != api.OK {
		wantL = nil
	}
	if l, got := f.List(path); !slices.Equal(l, wantL) || got != listE {
		t.Fatalf("List of %s: %q, %v, not %q, %v", short(path), l, got, wantL, listE)
	}
	size := len(m.data[num])
	for _, at := range []int{0, 1, size / 2, size - 1, size, size + 1, math.MaxInt, -1, math.MinInt} {
		for _, n := range []int{0, 1, size, math.MaxInt, -1, math.MinInt} {
			reads(t, f, m, path, at, n, e)
		}
	}
}

// reads fails if a tree doesn't read what the model has there; e is what find answers.
func reads(t testing.TB, f *files.Tree, m *model, path string, at, n int, e api.Errno) {
	t.Helper()
	want := ""
	switch {
	case e != api.OK:
	case m.dirs[m.at[path]]:
		e = api.ErrFileKind
	case at < 0 || n < 0:
		e = api.ErrFileLong
	case at < len(m.data[m.at[path]]):
		want = m.data[m.at[path]][at:]
		want = want[:min(n, len(want))]
	}
	if s, got := f.Read(path, at, n); s != want || got != e {
		t.Fatalf("Read of %s, %d, %d: %s, %v, not %s, %v", short(path), at, n, short(s), got, short(want), e)
	}
}

// does fails if a tree doesn't do a command as the model does.
func does(t testing.TB, f *files.Tree, m *model, c api.Command) api.Errno {
	t.Helper()
	want := m.do(c)
	if e := f.Do(c); e != want {
		t.Fatalf("%s on %s: %v, not %v", short(c), short(m.at), e, want)
	}
	return want
}

// takes fails if nodes are not taken for the tree that they make, or for one though they make none.
func takes(t testing.TB, l []api.Node) (*files.Tree, *model) {
	t.Helper()
	m, ok := treeOf(l)
	f, e := files.From(l)
	if !ok {
		if f != nil || e != api.ErrArg {
			t.Fatalf("From of %s: %v, %v, not %v", short(l), f, e, api.ErrArg)
		}
		return nil, nil
	}
	if f == nil || e != api.OK {
		t.Fatalf("From of %s: %v", short(l), e)
	}
	if again := f.Nodes(); !slices.Equal(again, l) {
		t.Fatalf("From of %s tells %s", short(l), short(again))
	}
	return f, m
}

// do does lines, of which none may be refused.
func do(t testing.TB, f *files.Tree, lines ...string) {
	t.Helper()
	for _, s := range lines {
		if e := f.Do(command(t, s)); e != api.OK {
			t.Fatalf("%.200s: %v", s, e)
		}
	}
}

func command(t testing.TB, line string) api.Command {
	t.Helper()
	c, e := commands.Parse(line)
	if e != api.OK {
		t.Fatalf("no command: %.200s", line)
	}
	return c
}

// dir are the bytes of entries.
func dir(l ...api.Entry) string {
	s, _ := tables.Entries(l)
	return s
}

// steps fails if lines are not answered in turn as they say; behind each the tree tells the same as the model.
func steps(t *testing.T, f *files.Tree, m *model, l []step) {
	t.Helper()
	for i, x := range l {
		c := command(t, x.line)
		if e := does(t, f, m, c); e != x.want {
			t.Fatalf("%d %.200s: %v, not %v", i, x.line, e, x.want)
		}
		tells(t, f, m, x.line)
	}
}

type step struct {
	line string
	want api.Errno
}

// P14.1

func TestNew(t *testing.T) {
	f := files.New()
	if l := f.Nodes(); !slices.Equal(l, []api.Node{{Num: 1, Dir: true, Links: 1, Data: "\x00"}}) {
		t.Error(l)
	}
	if n, e := f.Get("/"); n != (api.Node{Num: 1, Dir: true, Links: 1, Data: "\x00"}) || e != api.OK {
		t.Error(n, e)
	}
	if l, e := f.List("/"); len(l) != 0 || e != api.OK {
		t.Error(l, e)
	}
	tells(t, f, newModel(), "New")
	g := files.New()
	do(t, f, "make /a")
	tells(t, g, newModel(), "another one's make")
}

// fileOf are nodes: a root, and one file with these names in it.
func fileOf(links int, data string, names ...string) []api.Node {
	var l []api.Entry
	for _, name := range names {
		l = append(l, api.Entry{Name: name, Num: 2})
	}
	return []api.Node{{Num: 1, Dir: true, Links: 1, Data: dir(l...)}, {Num: 2, Links: links, Data: data}}
}

// chain are nodes: so many directories, each in the one ahead, the first in the root; and a file in the last one, if it is asked for.
func chain(n int, file bool) []api.Node {
	var l []api.Node
	for num := 1; num <= n+1; num++ {
		l = append(l, api.Node{Num: num, Dir: true, Links: 1, Data: dir(api.Entry{Name: "d", Num: num + 1})})
	}
	if file {
		return append(l, api.Node{Num: n + 2, Links: 1, Data: "x"})
	}
	l[n].Data = dir()
	return l
}

// wide are nodes: a root with so many empty directories.
func wide(n int) []api.Node {
	l := []api.Node{{Num: 1, Dir: true, Links: 1}}
	var names []api.Entry
	for i := range n {
		names = append(names, api.Entry{Name: fmt.Sprintf("%03d", i), Num: i + 2})
		l = append(l, api.Node{Num: i + 2, Dir: true, Links: 1, Data: dir()})
	}
	l[0].Data = dir(names...)
	return l
}

// manyNames are so many names.
func manyNames(n int) (l []string) {
	for i := range n {
		l = append(l, fmt.Sprintf("%03d", i))
	}
	return l
}

func TestFromTrees(t *testing.T) {
	for i, l := range [][]api.Node{
		files.New().Nodes(),
		fileOf(1, "", "a"), fileOf(2, "xyz", "a", "b"), fileOf(60, "x", manyNames(60)...),
		fileOf(1, strings.Repeat("x", 16384), "a"),
		{{Num: 1, Dir: true, Links: 1, Data: dir(api.Entry{Name: "a", Num: 65535})}, {Num: 65535, Links: 1}},
		{{Num: 1, Dir: true, Links: 1, Data: dir(api.Entry{Name: "a", Num: 9}, api.Entry{Name: "b", Num: 7})}, {Num: 7, Dir: true, Links: 1, Data: "\x00"}, {Num: 9, Links: 1, Data: "\x00"}},
		{{Num: 1, Dir: true, Links: 1, Data: dir(api.Entry{Name: "a", Num: 3})}, {Num: 2, Links: 1}, {Num: 3, Dir: true, Links: 1, Data: dir(api.Entry{Name: "a", Num: 2})}},
		{{Num: 1, Dir: true, Links: 1, Data: dir(api.Entry{Name: "a", Num: 2}, api.Entry{Name: "b", Num: 3})}, {Num: 2, Links: 2, Data: "ab"}, {Num: 3, Dir: true, Links: 1, Data: dir(api.Entry{Name: "a", Num: 2})}},
		chain(1, false), chain(1, true), chain(7, true), chain(8, false),
		wide(1), wide(59),
	} {
		if _, ok := treeOf(l); !ok {
			t.Fatal("no tree", i, l)
		}
		f, m := takes(t, l)
		tells(t, f, m, l)
	}
}

func TestFromNoTrees(t *testing.T) {
	top := func(l ...api.Entry) api.Node { return api.Node{Num: 1, Dir: true, Links: 1, Data: dir(l...)} }
	a, b := api.Entry{Name: "a", Num: 2}, api.Entry{Name: "b", Num: 2}
	a3, b3 := api.Entry{Name: "a", Num: 3}, api.Entry{Name: "b", Num: 3}
	folder := func(num int, l ...api.Entry) api.Node {
		return api.Node{Num: num, Dir: true, Links: 1, Data: dir(l...)}
	}
	file := func(num, links int) api.Node { return api.Node{Num: num, Links: links} }
	for what, l := range map[string][]api.Node{
		"none": nil, "an empty list": {}, "nothing": {{}},
		"no root": {file(2, 1)}, "a root of number 2": {folder(2)}, "of number 0": {folder(0)}, "of number -1": {folder(-1)},
		"a root that is a file": {file(1, 1)}, "with an entry's bytes": {{Num: 1, Links: 1, Data: "\x00"}},
		"a root without names and links": {{Num: 1, Dir: true, Data: "\x00"}}, "with two": {{Num: 1, Dir: true, Links: 2, Data: "\x00"}}, "with -1": {{Num: 1, Dir: true, Links: -1, Data: "\x00"}},
		"a root in itself": {top(api.Entry{Name: "a", Num: 1})}, "with two links": {{Num: 1, Dir: true, Links: 2, Data: dir(api.Entry{Name: "a", Num: 1})}},
		"a root in a directory":                {top(a), folder(2, api.Entry{Name: "a", Num: 1})},
		"the same with two links":              {{Num: 1, Dir: true, Links: 2, Data: dir(a)}, folder(2, api.Entry{Name: "a", Num: 1})},
		"a root without bytes":                 {{Num: 1, Dir: true, Links: 1}},
		"other bytes":                          {{Num: 1, Dir: true, Links: 1, Data: "x"}},
		"bytes behind entries":                 {{Num: 1, Dir: true, Links: 1, Data: "\x00\x00"}},
		"a number in two bytes":                {{Num: 1, Dir: true, Links: 1, Data: "\x80\x00"}},
		"names that don't rise":                {{Num: 1, Dir: true, Links: 1, Data: "\x02\x01b\x02\x01a\x02"}, file(2, 2)},
		"one name twice":                       {{Num: 1, Dir: true, Links: 1, Data: "\x02\x01a\x02\x01a\x02"}, file(2, 2)},
		"a name that is none":                  {{Num: 1, Dir: true, Links: 1, Data: "\x01\x01A\x02"}, file(2, 1)},
		"a name ..":                            {{Num: 1, Dir: true, Links: 1, Data: "\x01\x02..\x02"}, file(2, 1)},
		"an entry of number 0":                 {{Num: 1, Dir: true, Links: 1, Data: "\x01\x01a\x00"}},
		"an entry of nothing":                  {top(a)},
		"an entry of another number":           {top(a), file(3, 1)},
		"a directory without bytes":            {top(a), {Num: 2, Dir: true, Links: 1}},
		"a directory with other bytes":         {top(a), {Num: 2, Dir: true, Links: 1, Data: "\x01"}},
		"a file of number 1 behind the root":   {top(), file(1, 1)},
		"another root":                         {top(), folder(1)},
		"a node ahead of the root":             {file(0, 1), top()},
		"a file ahead of the root":             {file(2, 1), top(a)},
		"numbers that fall":                    {top(a, b3), file(3, 1), file(2, 1)},
		"one number twice":                     {top(a), file(2, 1), file(2, 1)},
		"one number twice, with two links":     {top(a, b), file(2, 2), file(2, 2)},
		"number 65536":                         {top(a), file(2, 1), file(65536, 0)},
		"number 65536 with a link":             {top(a), file(2, 1), file(65536, 1)},
		"a great number":                       {top(a), file(2, 1), file(math.MaxInt, 1)},
		"a number below":                       {top(a), file(2, 1), file(math.MinInt, 1)},
		"no name":                              {top(), file(2, 0)},
		"no name, one link":                    {top(), file(2, 1)},
		"no name, -1 links":                    {top(), file(2, -1)},
		"a directory without a name":           {top(), {Num: 2, Dir: true, Links: 0, Data: "\x00"}},
		"a directory without a name, one link": {top(), folder(2)},
		"a name, no link":                      {top(a), file(2, 0)},
		"a name, two links":                    {top(a), file(2, 2)},
		"a name, -1 links":                     {top(a), file(2, -1)},
		"a name, 2^32 + 1 links":               {top(a), file(2, 1<<32+1)},
		"two names, one link":                  {top(a, b), file(2, 1)},
		"two names, three links":               {top(a, b), file(2, 3)},
		"links of one another's":               {top(a, b, api.Entry{Name: "c", Num: 3}), file(2, 1), file(3, 2)},
		"a directory with two names":           {top(a, b), {Num: 2, Dir: true, Links: 2, Data: "\x00"}},
		"a directory with two names, one link": {top(a, b), folder(2)},
		"a directory with names in two":        {top(a, b3), {Num: 2, Dir: true, Links: 2, Data: "\x00"}, folder(3, a)},
		"a directory with one name, two links": {top(a), {Num: 2, Dir: true, Links: 2, Data: "\x00"}},
		"a directory with one name, no link":   {top(a), {Num: 2, Dir: true, Data: "\x00"}},
		"a directory in itself":                {top(), folder(2, a)},
		"and in the root":                      {top(a), {Num: 2, Dir: true, Links: 2, Data: dir(a)}},
		"and in the root, one link":            {top(a), folder(2, a)},
		"two in one another":                   {top(), folder(2, a3), folder(3, a)},
		"two in one another, a file, too":      {top(api.Entry{Name: "a", Num: 4}), folder(2, a3), folder(3, a), file(4, 1)},
		"two with a file that is met":          {top(api.Entry{Name: "a", Num: 4}), folder(2, a3), folder(3, a, api.Entry{Name: "b", Num: 4}), file(4, 2)},
		"two with a file that is not met":      {top(), folder(2, a3), folder(3, a, api.Entry{Name: "b", Num: 4}), file(4, 1)},
		"two in one another, and in the root":  {top(a), {Num: 2, Dir: true, Links: 2, Data: dir(a3)}, folder(3, b)},
		"three in one another":                 {top(), folder(2, a3), folder(3, api.Entry{Name: "a", Num: 4}), folder(4, a)},
		"nine directories":                     chain(9, false), "a file in the eighth": chain(8, true), "nine and a file": chain(9, true), "all directories": chain(59, false), "all, and a file": chain(58, true),
		"61 names": fileOf(61, "x", manyNames(61)...), "100 names": fileOf(100, "x", manyNames(100)...),
		"61 nodes": wide(60), "62 nodes": wide(61), "4000 nodes": wide(4000),
		"a long file": fileOf(1, strings.Repeat("x", 16385), "a"), "a far too long one": fileOf(1, strings.Repeat("x", 1<<20), "a"),
		"a long directory": {top(a), {Num: 2, Dir: true, Links: 1, Data: strings.Repeat("\x00", 16385)}},
	} {
		if _, ok := treeOf(l); ok {
			t.Fatal("a tree", what)
		}
		if f, e := files.From(l); f != nil || e != api.ErrArg {
			t.Errorf("%s: %v, %v", what, f, e)
		}
	}
}

// TestFromOneNameDeep: a file with one name that is near and one that is deep; a directory of which one path is too long.
func TestFromOneNameDeep(t *testing.T) {
	for n := range 12 {
		l := chain(n, true)
		num := n + 2
		l[0].Data = dir(api.Entry{Name: "a", Num: num}, api.Entry{Name: "d", Num: 2})
		l[n+1].Links = 2
		if n == 0 {
			l[0].Data = dir(api.Entry{Name: "a", Num: 2}, api.Entry{Name: "d", Num: 2})
		}
		f, m := takes(t, l)
		if (f != nil) != (n < 8) {
			t.Fatal(n, f)
		}
		if f != nil {
			tells(t, f, m, l)
		}
	}
}

// TestFromFew: all lists of one to three nodes of some.
func TestFromFew(t *testing.T) {
	var some []api.Node
	datas := []string{"", "\x00", "\x01\x01a\x01", "\x01\x01a\x02", "\x01\x01a\x03", "\x02\x01a\x02\x01b\x02", "\x02\x01a\x02\x01b\x03", "\x02\x01a\x03\x01b\x03", "\x03\x01a\x02\x01b\x03\x01c\x02"}
	for num := range 4 {
		for links := range 4 {
			for _, data := range datas {
				some = append(some, api.Node{Num: num, Dir: true, Links: links, Data: data})
			}
			some = append(some, api.Node{Num: num, Links: links}, api.Node{Num: num, Links: links, Data: "\x01\x01a\x02"})
		}
	}
	right := 0
	for _, x := range some {
		takes(t, []api.Node{x})
		for _, y := range some {
			if f, _ := takes(t, []api.Node{x, y}); f != nil {
				right++
			}
			// What begins so may be a tree.
			if x.Num == 1 && x.Dir {
				for _, z := range some {
					if f, _ := takes(t, []api.Node{x, y, z}); f != nil {
						right++
					}
				}
			}
		}
	}
	if right < 20 {
		t.Error("few trees", right)
	}
}

// P14.2

func TestGetReadList(t *testing.T) {
	f := files.New()
	do(t, f, "make /a", "dir /d", "make /d/b", "link /a /d/c", "write /a 0 616263", "dir /d/e")
	for path, want := range map[string]api.Node{
		"/":    {Num: 1, Dir: true, Links: 1, Data: "\x02\x01a\x02\x01d\x03"},
		"/a":   {Num: 2, Links: 2, Data: "abc"},
		"/d":   {Num: 3, Dir: true, Links: 1, Data: "\x03\x01b\x04\x01c\x02\x01e\x05"},
		"/d/b": {Num: 4, Links: 1},
		"/d/c": {Num: 2, Links: 2, Data: "abc"},
		"/d/e": {Num: 5, Dir: true, Links: 1, Data: "\x00"},
	} {
		if n, e := f.Get(path); n != want || e != api.OK {
			t.Errorf("%s: %s, %v", path, short(n), e)
		}
	}
	for path, want := range map[string][]string{"/": {"a", "d"}, "/d": {"b", "c", "e"}, "/d/e": {}} {
		if l, e := f.List(path); !slices.Equal(l, want) || e != api.OK {
			t.Errorf("%s: %q, %v", path, l, e)
		}
	}
	for _, x := range []struct {
		path  string
		at, n int
		want  string
		e     api.Errno
	}{
		{"/a", 0, 3, "abc", api.OK}, {"/a", 0, 2, "ab", api.OK}, {"/a", 1, 1, "b", api.OK}, {"/a", 1, 9, "bc", api.OK}, {"/a", 2, 0, "", api.OK}, {"/a", 3, 1, "", api.OK}, {"/a", 4, 1, "", api.OK},
		{"/a", math.MaxInt, math.MaxInt, "", api.OK}, {"/a", 1, math.MaxInt, "bc", api.OK}, {"/a", math.MaxInt, 0, "", api.OK}, {"/d/c", 0, 1 << 62, "abc", api.OK}, {"/d/b", 0, 1, "", api.OK},
		{"/a", -1, 0, "", api.ErrFileLong}, {"/a", 0, -1, "", api.ErrFileLong}, {"/a", -1, -1, "", api.ErrFileLong}, {"/a", math.MinInt, 1, "", api.ErrFileLong}, {"/a", 1, math.MinInt, "", api.ErrFileLong}, {"/a", 9, -1, "", api.ErrFileLong},
		{"/d", 0, 1, "", api.ErrFileKind}, {"/", 0, 1, "", api.ErrFileKind}, {"/d", -1, -1, "", api.ErrFileKind},
		{"/x", -1, -1, "", api.ErrFileNone}, {"/a/x", -1, -1, "", api.ErrFileKind}, {"x", -1, -1, "", api.ErrFilePath},
	} {
		if s, e := f.Read(x.path, x.at, x.n); s != x.want || e != x.e {
			t.Errorf("%v: %q, %v", x, s, e)
		}
	}
	for _, path := range []string{"/a", "/d/b", "/d/c"} {
		if l, e := f.List(path); len(l) != 0 || e != api.ErrFileKind {
			t.Error(path, l, e)
		}
	}
	for path, want := range map[string]api.Errno{
		"": api.ErrFilePath, "a": api.ErrFilePath, "//": api.ErrFilePath, "/a/": api.ErrFilePath, "/d/": api.ErrFilePath, "/./a": api.ErrFilePath, "/d/..": api.ErrFilePath, "/A": api.ErrFilePath, "/a\x00": api.ErrFilePath, " /a": api.ErrFilePath,
		"/1/2/3/4/5/6/7/8/9": api.ErrFilePath, "/a/2/3/4/5/6/7/8/9": api.ErrFilePath, "/abcdefghijklmnopq": api.ErrFilePath, strings.Repeat("/a", 1<<20): api.ErrFilePath,
		"/x": api.ErrFileNone, "/x/y": api.ErrFileNone, "/d/x": api.ErrFileNone, "/d/x/y/z": api.ErrFileNone, "/b": api.ErrFileNone, "/1/2/3/4/5/6/7/8": api.ErrFileNone, "/d/d": api.ErrFileNone, "/aa": api.ErrFileNone,
		"/a/x": api.ErrFileKind, "/a/a": api.ErrFileKind, "/a/x/y": api.ErrFileKind, "/d/b/x": api.ErrFileKind, "/d/c/x/y/z": api.ErrFileKind, "/a/2/3/4/5/6/7/8": api.ErrFileKind,
	} {
		if n, e := f.Get(path); n != (api.Node{}) || e != want {
			t.Errorf("Get of %s: %s, %v", short(path), short(n), e)
		}
		if l, e := f.List(path); len(l) != 0 || e != want {
			t.Errorf("List of %s: %q, %v", short(path), l, e)
		}
		for _, at := range []int{0, 1, -1} {
			if s, e := f.Read(path, at, at); s != "" || e != want {
				t.Errorf("Read of %s: %q, %v", short(path), s, e)
			}
		}
	}
}

// TestReadEach: each piece of a short file.
func TestReadEach(t *testing.T) {
	f, m := files.New(), newModel()
	for _, line := range []string{"make /a", "write /a 0 00010203040506070809"} {
		does(t, f, m, command(t, line))
	}
	for at := -3; at < 15; at++ {
		for n := -3; n < 15; n++ {
			reads(t, f, m, "/a", at, n, api.OK)
		}
	}
}

// P14.3

func TestMakeAndDir(t *testing.T) {
	for _, word := range []string{"make", "dir"} {
		f, m := files.New(), newModel()
		steps(t, f, m, []step{
			{word + " /", api.ErrFileThere}, {word + " /x/y", api.ErrFileNone}, {word + " /x/y/z", api.ErrFileNone},
			{"make /a", api.OK}, {"dir /d", api.OK}, {word + " /a", api.ErrFileThere}, {word + " /d", api.ErrFileThere},
			{word + " /a/b", api.ErrFileKind}, {word + " /a/b/c", api.ErrFileKind}, {word + " /a/b/c/d", api.ErrFileKind}, {word + " /d/x/y", api.ErrFileNone},
			{word + " /d/a", api.OK}, {word + " /d/a", api.ErrFileThere}, {word + " /d/d", api.OK}, {word + " /aa", api.OK}, {word + " /b", api.OK},
		})
	}
}

func TestLeastNumber(t *testing.T) {
	f := files.New()
	do(t, f, "make /a", "dir /b", "make /c", "make /d", "remove /b", "remove /a", "link /c /l", "remove /c")
	for _, x := range []struct {
		line, path string
		num        int
	}{{"make /x", "/x", 2}, {"dir /y", "/y", 3}, {"make /z", "/z", 6}, {"make /y/z", "/y/z", 7}} {
		do(t, f, x.line)
		if n, e := f.Get(x.path); n.Num != x.num || n.Links != 1 || n.Dir != (x.path == "/y") || e != api.OK {
			t.Error(x, n, e)
		}
	}
	g, e := files.From([]api.Node{{Num: 1, Dir: true, Links: 1, Data: dir(api.Entry{Name: "a", Num: 3}, api.Entry{Name: "b", Num: 65535})}, {Num: 3, Links: 1}, {Num: 65535, Dir: true, Links: 1, Data: "\x00"}})
	if e != api.OK {
		t.Fatal(e)
	}
	do(t, g, "make /b/x", "dir /b/y", "make /b/z")
	for path, num := range map[string]int{"/b": 65535, "/b/x": 2, "/b/y": 4, "/b/z": 5} {
		if n, e := g.Get(path); n.Num != num || e != api.OK {
			t.Error(path, n, e)
		}
	}
}

func TestWriteAndCut(t *testing.T) {
	f, m := files.New(), newModel()
	steps(t, f, m, []step{
		{"make /a", api.OK}, {"dir /d", api.OK}, {"link /a /d/l", api.OK},
		{"write / 0 00", api.ErrFileKind}, {"write /d 0 00", api.ErrFileKind}, {"write /d 9 00", api.ErrFileKind}, {"write /d 0 -", api.ErrFileKind}, {"write /n 0 00", api.ErrFileNone}, {"write /n 9 00", api.ErrFileNone}, {"write /a/b 0 00", api.ErrFileKind}, {"write /d/n/x 0 00", api.ErrFileNone}, {"write /d/l/x 0 00", api.ErrFileKind},
		{"cut / 0", api.ErrFileKind}, {"cut /d 0", api.ErrFileKind}, {"cut /d 9", api.ErrFileKind}, {"cut /n 0", api.ErrFileNone}, {"cut /n 9", api.ErrFileNone}, {"cut /a/b 0", api.ErrFileKind},
		{"write /a 0 -", api.OK}, {"write /a 1 -", api.ErrFileLong}, {"write /a 1 00", api.ErrFileLong}, {"cut /a 0", api.OK}, {"cut /a 1", api.ErrFileLong},
		{"write /a 0 616263", api.OK}, {"write /d/l 1 7a", api.OK}, {"write /a 3 64", api.OK}, {"write /a 3 7879", api.OK}, {"write /a 0 5051", api.OK}, {"write /a 2 -", api.OK}, {"write /a 5 -", api.OK}, {"write /a 6 -", api.ErrFileLong}, {"write /a 6 00", api.ErrFileLong},
		{"cut /a 6", api.ErrFileLong}, {"cut /a 16384", api.ErrFileLong}, {"cut /a 5", api.OK}, {"cut /d/l 4", api.OK}, {"cut /a 5", api.ErrFileLong}, {"write /a 4 ff", api.OK}, {"cut /a 1", api.OK}, {"cut /a 0", api.OK}, {"cut /a 0", api.OK}, {"cut /a 1", api.ErrFileLong}, {"write /a 0 00", api.OK},
	})
	if s, e := f.Read("/d/l", 0, 9); s != "\x00" || e != api.OK {
		t.Errorf("%q, %v", s, e)
	}
}

// TestWriteEach: each piece over each file of a few bytes, and each cut of it.
func TestWriteEach(t *testing.T) {
	for size := range 9 {
		l := fileOf(1, "ABCDEFGHI"[:size], "a")
		for at := range 12 {
			for n := range 6 {
				f, m := takes(t, l)
				does(t, f, m, api.Command{Kind: api.CmdWrite, Path: "/a", At: at, Data: "uvwxyz"[:n]})
				tells(t, f, m, at)
				does(t, f, m, api.Command{Kind: api.CmdCut, Path: "/a", At: n})
				tells(t, f, m, n)
			}
		}
	}
}

// TestLongFile: at the end of the longest file, and just ahead of it.
func TestLongFile(t *testing.T) {
	for _, size := range []int{15871, 15872, 15873, 16000, 16382, 16383, 16384} {
		l := fileOf(1, strings.Repeat("abcdefgh", 2048)[:size], "a")
		for _, at := range []int{0, 1, 15871, 15872, 15873, 16382, 16383, 16384} {
			for _, n := range []int{0, 1, 2, 3, 511, 512} {
				f, m := takes(t, l)
				c := api.Command{Kind: api.CmdWrite, Path: "/a", At: at, Data: strings.Repeat("z", n)}
				want := api.OK
				if at > size || at+n > 16384 {
					want = api.ErrFileLong
				}
				if e := does(t, f, m, c); e != want {
					t.Fatal(size, at, n, e)
				}
				tells(t, f, m, c)
			}
			f, m := takes(t, l)
			does(t, f, m, api.Command{Kind: api.CmdCut, Path: "/a", At: at})
			tells(t, f, m, at)
		}
	}
	f := files.New()
	do(t, f, "make /a")
	for at := 0; at < 16384; at += 512 {
		if e := f.Do(api.Command{Kind: api.CmdWrite, Path: "/a", At: at, Data: strings.Repeat(string(rune('a'+at/512%26)), 512)}); e != api.OK {
			t.Fatal(at, e)
		}
	}
	if e := f.Do(api.Command{Kind: api.CmdWrite, Path: "/a", At: 16384, Data: "x"}); e != api.ErrFileLong {
		t.Error(e)
	}
	if e := f.Do(api.Command{Kind: api.CmdWrite, Path: "/a", At: 16384}); e != api.OK {
		t.Error(e)
	}
	if n, e := f.Get("/a"); len(n.Data) != 16384 || n.Data[:512] != strings.Repeat("a", 512) || n.Data[512:1024] != strings.Repeat("b", 512) || e != api.OK {
		t.Error(len(n.Data), e)
	}
}

func TestLink(t *testing.T) {
	f, m := files.New(), newModel()
	steps(t, f, m, []step{
		{"link / /", api.ErrFileKind}, {"link / /x", api.ErrFileKind}, {"link /n /", api.ErrFileNone}, {"link /n /n", api.ErrFileNone}, {"link /n /x/y", api.ErrFileNone},
		{"make /a", api.OK}, {"dir /d", api.OK}, {"make /d/b", api.OK},
		{"link /d /", api.ErrFileKind}, {"link /d /x", api.ErrFileKind}, {"link /d /d", api.ErrFileKind}, {"link /d /d/x", api.ErrFileKind}, {"link /d /n/x", api.ErrFileKind}, {"link /a/x /y", api.ErrFileKind}, {"link /d/n /y", api.ErrFileNone},
		{"link /a /", api.ErrFileThere}, {"link /a /a", api.ErrFileThere}, {"link /a /d", api.ErrFileThere}, {"link /a /d/b", api.ErrFileThere},
		{"link /a /a/x", api.ErrFileKind}, {"link /a /d/b/x", api.ErrFileKind}, {"link /a /d/b/x/y", api.ErrFileKind}, {"link /a /n/x", api.ErrFileNone}, {"link /a /d/n/x", api.ErrFileNone},
		{"link /a /d/a", api.OK}, {"link /d/a /c", api.OK}, {"link /d/b /d/c", api.OK}, {"link /c /a", api.ErrFileThere}, {"write /c 0 78", api.OK}, {"write /d/b 0 79", api.OK},
		{"remove /a", api.OK}, {"link /c /a", api.OK}, {"remove /a", api.OK}, {"remove /c", api.OK}, {"remove /d/a", api.OK}, {"link /d/a /a", api.ErrFileNone},
	})
}

func TestRename(t *testing.T) {
	f, m := files.New(), newModel()
	steps(t, f, m, []step{
		{"rename / /", api.ErrFileBusy}, {"rename / /x", api.ErrFileBusy}, {"rename / /x/y", api.ErrFileBusy},
		{"rename /n /", api.ErrFileNone}, {"rename /n /n", api.ErrFileNone}, {"rename /n /n/x", api.ErrFileNone}, {"rename /n/x /y", api.ErrFileNone},
		{"make /a", api.OK}, {"dir /d", api.OK}, {"dir /d/e", api.OK}, {"make /d/e/f", api.OK}, {"dir /de", api.OK},
		{"rename /a/x /y", api.ErrFileKind}, {"rename /a/x /a/x/y", api.ErrFileKind}, {"rename /d/n /d/n/x", api.ErrFileNone},
		{"rename /d /d/x", api.ErrFileBusy}, {"rename /d /d/e", api.ErrFileBusy}, {"rename /d /d/e/x", api.ErrFileBusy}, {"rename /d /d/e/f/x", api.ErrFileBusy}, {"rename /d /d/n/x", api.ErrFileBusy}, {"rename /d/e /d/e/x", api.ErrFileBusy}, {"rename /a /a/x", api.ErrFileBusy}, {"rename /a /a/x/y", api.ErrFileBusy},
		{"rename /d /", api.ErrFileThere}, {"rename /d /d", api.ErrFileThere}, {"rename /a /a", api.ErrFileThere}, {"rename /a /d", api.ErrFileThere}, {"rename /d /a", api.ErrFileThere}, {"rename /d/e /d", api.ErrFileThere}, {"rename /a /d/e/f", api.ErrFileThere},
		{"rename /d /a/x", api.ErrFileKind}, {"rename /a /d/e/f/x", api.ErrFileKind}, {"rename /a /d/e/f/x/y", api.ErrFileKind}, {"rename /a /n/x", api.ErrFileNone},
		{"rename /a /b", api.OK}, {"rename /b /d/b", api.OK}, {"rename /d/b /d/a", api.OK}, {"rename /d /de/d", api.OK}, {"rename /de/d/e /e", api.OK}, {"rename /de /e/de", api.OK}, {"rename /e/f /f", api.OK}, {"rename /f /e/de/d/f", api.OK},
		{"rename /e/de/d/x /y", api.ErrFileNone}, {"link /e/de/d/f /g", api.OK}, {"rename /g /e/de/d/f", api.ErrFileThere}, {"rename /e/de/d/f /g", api.ErrFileThere}, {"rename /g /h", api.OK}, {"write /h 0 78", api.OK},
	})
	want := []string{"/", "/e", "/e/de", "/e/de/d", "/e/de/d/a", "/e/de/d/f", "/h"}
	if l := slices.Sorted(maps.Keys(m.at)); !slices.Equal(l, want) {
		t.Error(l)
	}
}

// TestRenameDeep: directories of each depth, beneath each one of a chain.
func TestRenameDeep(t *testing.T) {
	for below := range 8 {
		for _, file := range []bool{false, true} {
			for at := range 9 {
				f, m := files.New(), newModel()
				path, to := "/m", "/m"
				does(t, f, m, api.Command{Kind: api.CmdDir, Path: path})
				for i := range below {
					path += "/x"
					kind := api.CmdDir
					if file && i == below-1 {
						kind = api.CmdMake
					}
					does(t, f, m, api.Command{Kind: kind, Path: path})
				}
				for i := range at {
					to = strings.Repeat("/t", i+1)
					does(t, f, m, api.Command{Kind: api.CmdDir, Path: to})
					to += "/m"
				}
				want := api.OK
				switch {
				case at == 0:
					want = api.ErrFileThere
				case at == 8:
					want = api.ErrArg
				case at+1+below > 8:
					want = api.ErrFileLong
				}
				if e := does(t, f, m, api.Command{Kind: api.CmdRename, Path: "/m", To: to}); e != want {
					t.Fatal(below, file, at, e)
				}
				tells(t, f, m, to)
			}
		}
	}
}

// TestRenameDeepest: of several paths below a directory the longest one counts, wherever it is.
func TestRenameDeepest(t *testing.T) {
	for _, deep := range []string{"a", "b", "c"} {
		f, m := files.New(), newModel()
		steps(t, f, m, []step{
			{"dir /m", api.OK}, {"dir /m/a", api.OK}, {"dir /m/b", api.OK}, {"dir /m/c", api.OK}, {"dir /m/" + deep + "/x", api.OK}, {"make /m/" + deep + "/x/y", api.OK}, {"make /m/a/z", api.OK}, {"make /m/c/z", api.OK},
			{"dir /t", api.OK}, {"dir /t/t", api.OK}, {"dir /t/t/t", api.OK}, {"dir /t/t/t/t", api.OK}, {"dir /t/t/t/t/t", api.OK},
			{"rename /m /t/t/t/t/t/m", api.ErrFileLong}, {"rename /m/" + deep + "/x/y /t/t/t/t/t/m", api.OK}, {"rename /m /t/t/t/t/t/n", api.OK},
		})
	}
}

func TestRemove(t *testing.T) {
	f, m := files.New(), newModel()
	steps(t, f, m, []step{
		{"remove /", api.ErrFileBusy}, {"remove /n", api.ErrFileNone}, {"make /a", api.OK}, {"remove /", api.ErrFileBusy}, {"remove /a/x", api.ErrFileKind},
		{"dir /d", api.OK}, {"make /d/b", api.OK}, {"remove /d/n", api.ErrFileNone}, {"remove /d/n/x", api.ErrFileNone}, {"remove /d/b/x", api.ErrFileKind}, {"remove /d", api.ErrFileBusy},
		{"write /a 0 6162", api.OK}, {"link /a /d/a", api.OK}, {"remove /a", api.OK}, {"remove /a", api.ErrFileNone}, {"remove /d", api.ErrFileBusy}, {"remove /d/b", api.OK}, {"remove /d", api.ErrFileBusy},
		{"make /a", api.OK}, {"remove /d/a", api.OK}, {"remove /d", api.OK}, {"remove /d", api.ErrFileNone}, {"remove /a", api.OK}, {"make /a", api.OK}, {"dir /d", api.OK}, {"remove /d", api.OK}, {"remove /a", api.OK},
	})
	if l := f.Nodes(); !slices.Equal(l, files.New().Nodes()) {
		t.Error(l)
	}
}

// TestMayNot: commands that may not be, and those on snapshots.
func TestMayNot(t *testing.T) {
	f, m := files.New(), newModel()
	for _, line := range []string{"make /a", "dir /d", "write /a 0 616263"} {
		does(t, f, m, command(t, line))
	}
	for _, c := range []api.Command{
		{}, {Kind: -1}, {Kind: 99}, {Kind: api.CmdKinds}, {Kind: api.CmdKinds, Path: "/x"}, {Kind: -1, Path: "/x"}, {Kind: math.MaxInt, Path: "/x"}, {Kind: math.MinInt, Path: "/x"},
		{Kind: api.CmdSnap, Path: "s"}, {Kind: api.CmdUnsnap, Path: "s"}, {Kind: api.CmdSnap, Path: "/x"}, {Kind: api.CmdSnap}, {Kind: api.CmdUnsnap, Path: "/a"},
		{Kind: api.CmdMake, Path: ""}, {Kind: api.CmdMake, Path: "x"}, {Kind: api.CmdMake, Path: "/x/"}, {Kind: api.CmdMake, Path: "/."}, {Kind: api.CmdMake, Path: "/X"}, {Kind: api.CmdMake, Path: "/d/2/3/4/5/6/7/8/9"}, {Kind: api.CmdMake, Path: "/abcdefghijklmnopq"},
		{Kind: api.CmdMake, Path: "/x", To: "/y"}, {Kind: api.CmdMake, Path: "/x", At: 1}, {Kind: api.CmdMake, Path: "/x", Data: "x"}, {Kind: api.CmdDir, Path: "/x", Data: "x"}, {Kind: api.CmdDir, Path: "x"},
		{Kind: api.CmdWrite, Path: "a", Data: "x"}, {Kind: api.CmdWrite, Path: "/a", To: "/a", Data: "x"}, {Kind: api.CmdWrite, Path: "/a", At: -1, Data: "x"}, {Kind: api.CmdWrite, Path: "/a", At: 16385}, {Kind: api.CmdWrite, Path: "/a", Data: strings.Repeat("x", 513)}, {Kind: api.CmdWrite, Path: "/a", At: math.MinInt}, {Kind: api.CmdWrite, Path: "/a", At: math.MaxInt, Data: "x"},
		{Kind: api.CmdCut, Path: "a"}, {Kind: api.CmdCut, Path: "/a", At: -1}, {Kind: api.CmdCut, Path: "/a", At: 16385}, {Kind: api.CmdCut, Path: "/a", At: math.MinInt}, {Kind: api.CmdCut, Path: "/a", Data: "x"},
		{Kind: api.CmdLink, Path: "/a"}, {Kind: api.CmdLink, Path: "/a", To: "x"}, {Kind: api.CmdLink, Path: "a", To: "/x"}, {Kind: api.CmdLink, Path: "/a", To: "/x", At: 1}, {Kind: api.CmdLink, Path: "/a", To: "/d/2/3/4/5/6/7/8/9"},
		{Kind: api.CmdRename, Path: "/a"}, {Kind: api.CmdRename, Path: "/a", To: "x"}, {Kind: api.CmdRename, Path: "a", To: "/x"}, {Kind: api.CmdRename, Path: "/", To: ""}, {Kind: api.CmdRename, Path: "/a", To: "/x", Data: "x"},
		{Kind: api.CmdRemove, Path: "a"}, {Kind: api.CmdRemove}, {Kind: api.CmdRemove, Path: "/a", To: "/"}, {Kind: api.CmdRemove, Path: "/a", At: 1}, {Kind: api.CmdRemove, Path: "/", At: 1},
	} {
		if e := f.Do(c); e != api.ErrArg {
			t.Errorf("%s: %v", short(c), e)
		}
		tells(t, f, m, c)
	}
}

// TestFullDirectory: of 60 names; what is named first is told first.
func TestFullDirectory(t *testing.T) {
	f, m := files.New(), newModel()
	lines := []string{"dir /d", "make /a", "make /d/f"}
	for i := range 59 {
		lines = append(lines, fmt.Sprintf("link /a /d/l%d", i))
	}
	for _, line := range lines {
		if e := does(t, f, m, command(t, line)); e != api.OK {
			t.Fatal(line, e)
		}
	}
	steps(t, f, m, []step{
		{"make /d/x", api.ErrFileLong}, {"dir /d/x", api.ErrFileLong}, {"link /a /d/x", api.ErrFileLong}, {"rename /a /d/x", api.ErrFileLong}, {"rename /d/f /d/x", api.ErrFileLong},
		{"make /d/f", api.ErrFileThere}, {"link /a /d/f", api.ErrFileThere}, {"rename /d/f /d/f", api.ErrFileThere}, {"rename /d/f /d/l1", api.ErrFileThere}, {"make /d/x/y", api.ErrFileNone}, {"make /d/f/y", api.ErrFileKind}, {"rename /d /d/x", api.ErrFileBusy},
		{"rename /d/f /f", api.OK}, {"rename /d/l0 /d/x", api.OK}, {"make /d/f", api.OK}, {"make /d/y", api.ErrFileLong}, {"remove /d/x", api.OK}, {"rename /f /d/x", api.OK}, {"link /a /d/y", api.ErrFileLong},
	})
	if n, e := f.Get("/a"); n.Links != 59 || e != api.OK {
		t.Error(n, e)
	}
}

// TestFullTree: of 60 nodes; links and other names find room.
func TestFullTree(t *testing.T) {
	f, m := files.New(), newModel()
	lines := []string{"dir /d"}
	for i := range 58 {
		lines = append(lines, fmt.Sprintf("%s /%s%d", []string{"make", "dir"}[i%2], []string{"f", "d"}[i%2], i))
	}
	for _, line := range lines {
		if e := does(t, f, m, command(t, line)); e != api.OK {
			t.Fatal(line, e)
		}
	}
	if n := len(f.Nodes()); n != 60 {
		t.Fatal(n)
	}
	steps(t, f, m, []step{
		{"make /x", api.ErrFileLong}, {"dir /x", api.ErrFileLong}, {"make /d/x", api.ErrFileLong}, {"dir /d/x", api.ErrFileLong}, {"make /d", api.ErrFileThere}, {"make /", api.ErrFileThere}, {"make /f0/x", api.ErrFileKind}, {"make /n/x", api.ErrFileNone},
		{"link /f0 /d/x", api.OK}, {"link /f0 /l", api.OK}, {"link /f0 /d/y", api.OK}, {"link /f0 /m", api.ErrFileLong}, {"rename /f2 /d/f2", api.OK}, {"rename /d1 /d/d1", api.OK},
		{"remove /f0", api.OK}, {"make /x", api.ErrFileLong}, {"remove /l", api.OK}, {"remove /d/x", api.OK}, {"make /x", api.ErrFileLong}, {"remove /d/y", api.OK}, {"make /x", api.OK}, {"make /y", api.ErrFileLong}, {"remove /d/d1", api.OK}, {"dir /d/y", api.OK}, {"dir /y", api.ErrFileLong},
	})
}

// TestFullBoth: 60 names and 60 nodes at once.
func TestFullBoth(t *testing.T) {
	l := wide(58)
	l[0].Data = ""
	var names []api.Entry
	for i := range 58 {
		names = append(names, api.Entry{Name: fmt.Sprintf("%03d", i), Num: i + 2})
	}
	names = append(names, api.Entry{Name: "f", Num: 60}, api.Entry{Name: "g", Num: 60})
	l[0].Data = dir(names...)
	l = append(l, api.Node{Num: 60, Links: 2, Data: "x"})
	f, m := takes(t, l)
	if f == nil {
		t.Fatal("no tree")
	}
	steps(t, f, m, []step{
		{"make /x", api.ErrFileLong}, {"remove /g", api.OK}, {"make /x", api.ErrFileLong}, {"link /f /g", api.OK}, {"link /f /000/g", api.OK}, {"remove /001", api.OK}, {"make /x", api.OK}, {"dir /000/x", api.ErrFileLong}, {"remove /002", api.OK}, {"dir /000/x", api.OK}, {"remove /003", api.OK}, {"make /000/x/y", api.OK},
	})
}

// deepPath is a path of so many names d.
func deepPath(n int) string { return strings.Repeat("/d", n) }

func TestDeep(t *testing.T) {
	f, m := files.New(), newModel()
	for i := range 8 {
		if e := does(t, f, m, api.Command{Kind: api.CmdDir, Path: deepPath(i + 1)}); e != api.OK {
			t.Fatal(i, e)
		}
	}
	steps(t, f, m, []step{
		{"make " + deepPath(7) + "/f", api.OK}, {"make /f", api.OK}, {"link /f " + deepPath(7) + "/g", api.OK}, {"dir /e", api.OK},
		{"rename /d /e/d", api.ErrFileLong}, {"rename /d/d /d/e", api.OK}, {"rename /d/e /d/d", api.OK}, {"rename /d/d /e/d", api.OK}, {"rename /e/d /d/d", api.OK}, {"rename /d/d /e", api.ErrFileThere}, {"rename /d/d /x", api.OK}, {"rename /d /y", api.OK}, {"rename /x /y/x", api.OK},
		{"rename /e /y" + "/x" + deepPath(6) + "", api.ErrFileThere}, {"rename /e /y/x" + deepPath(5) + "/e", api.OK}, {"rename /y/x /x", api.OK}, {"rename /y/d /x" + deepPath(6), api.ErrFileNone},
	})
	for _, c := range []api.Command{{Kind: api.CmdMake, Path: deepPath(9)}, {Kind: api.CmdLink, Path: "/f", To: deepPath(9)}, {Kind: api.CmdRename, Path: "/f", To: deepPath(9)}} {
		if e := does(t, f, m, c); e != api.ErrArg {
			t.Error(c, e)
		}
	}
	tells(t, f, m, "deep")
}

// TestExamples: those of the document.
func TestExamples(t *testing.T) {
	f := files.New()
	do(t, f, "make /a")
	if n, e := f.Get("/a"); n != (api.Node{Num: 2, Links: 1}) || e != api.OK {
		t.Error(n, e)
	}
	do(t, f, "link /a /b", "write /b 0 78")
	if s, e := f.Read("/a", 0, 9); s != "x" || e != api.OK {
		t.Error(s, e)
	}
	do(t, f, "remove /a")
	if n, e := f.Get("/b"); n.Links != 1 || e != api.OK {
		t.Error(n, e)
	}
}

// P14.3 to P14.5, by the model

// someLines are commands on a few paths.
var someLines = []string{
	"make /a", "make /b", "make /a/b", "dir /a", "dir /a/b", "dir /b", "write /a 0 7879", "write /b 1 7a", "cut /a 1", "cut /b 0",
	"link /a /b", "link /a/b /c", "link /b /a/b", "rename /a /b", "rename /b /a", "rename /a /a/b", "rename /b /a/b", "rename /a/b /b", "rename /a/b /a",
	"remove /a", "remove /b", "remove /a/b", "remove /",
}

// TestAllRows: all rows of six commands of some, of which none but the last one is refused; each goes on from a clone.
func TestAllRows(t *testing.T) {
	var l []api.Command
	for _, line := range someLines {
		l = append(l, command(t, line))
	}
	var goOn func(f *files.Tree, m *model, rest int)
	goOn = func(f *files.Tree, m *model, rest int) {
		for _, c := range l {
			other, otherM := f.Clone(), m.clone()
			before := f.Nodes()
			e := does(t, other, otherM, c)
			if !slices.Equal(f.Nodes(), before) {
				t.Fatal("a clone's command is seen", c)
			}
			if e != api.OK && !slices.Equal(other.Nodes(), before) {
				t.Fatal("what is refused changes something", c)
			}
			if e != api.OK {
				continue
			}
			if l := other.Nodes(); !slices.Equal(l, otherM.nodes()) {
				t.Fatalf("%s: %s, not %s", short(c), short(l), short(otherM.nodes()))
			}
			if rest > 0 {
				goOn(other, otherM, rest-1)
			}
		}
		for _, path := range []string{"/a", "/b", "/c", "/a/b", "/a/b/c", "/b/a", "/a/", "b"} {
			asks(t, f, m, path)
		}
	}
	goOn(files.New(), newModel(), 5)
}

// one is of some by chance.
func one[T any](chance *rand.Rand, l []T) T {
	return l[chance.Intn(len(l))]
}

// pathByChance is a path, often one that is there or would be in a directory that is.
func pathByChance(chance *rand.Rand, m *model) string {
	names := []string{"a", "b", "c", "d", "e", "f.1", "-", "abcdefghijklmnop"}
	path := one(chance, slices.Sorted(maps.Keys(m.at)))
	switch chance.Intn(10) {
	case 0, 1, 2, 3:
	case 4, 5, 6, 7:
		path = join(path, one(chance, names))
	case 8:
		path = join(path, fmt.Sprint("n", chance.Intn(100)))
	default:
		path = ""
		for range 1 + chance.Intn(9) {
			path += "/" + one(chance, names[:2])
		}
	}
	return path
}

// byChance is a command; most often it may be.
func byChance(chance *rand.Rand, m *model, kinds []int) api.Command {
	c := api.Command{Kind: one(chance, kinds), Path: pathByChance(chance, m)}
	size := len(m.data[m.at[c.Path]])
	switch c.Kind {
	case api.CmdWrite:
		c.At = chance.Intn(size + 2)
		c.Data = strings.Repeat(string([]byte{byte(chance.Intn(256))}), chance.Intn(513))
	case api.CmdCut:
		c.At = chance.Intn(size + 2)
	case api.CmdLink, api.CmdRename:
		c.To = pathByChance(chance, m)
	}
	return c
}

// TestByChance: long rows of commands, with clones and trees of nodes between.
func TestByChance(t *testing.T) {
	chance := rand.New(rand.NewSource(14))
	answers := map[string]int{}
	full := 0
	for row := range 60 {
		f, m := files.New(), newModel()
		// Rows that grow, that are deep, that change.
		kinds := [][]int{
			{api.CmdMake, api.CmdMake, api.CmdDir, api.CmdDir, api.CmdLink, api.CmdRename, api.CmdWrite, api.CmdRemove},
			{api.CmdMake, api.CmdDir, api.CmdDir, api.CmdDir, api.CmdRename, api.CmdRename, api.CmdLink},
			{api.CmdMake, api.CmdDir, api.CmdWrite, api.CmdCut, api.CmdLink, api.CmdRename, api.CmdRemove, api.CmdRemove, api.CmdSnap},
		}[row%3]
		for i := range 300 {
			c := byChance(chance, m, kinds)
			before := f.Nodes()
			e := does(t, f, m, c)
			answers[fmt.Sprint(c.Kind, " ", e)]++
			after := f.Nodes()
			if want := m.nodes(); !slices.Equal(after, want) {
				t.Fatalf("behind %s: %s, not %s", short(c), short(after), short(want))
			}
			if e != api.OK && !slices.Equal(after, before) {
				t.Fatal("what is refused changes something", c)
			}
			asks(t, f, m, c.Path)
			asks(t, f, m, max(c.To, "/"))
			if len(after) == 60 {
				full++
			}
			switch i % 10 {
			case 3:
				f = f.Clone()
			case 7:
				if f, _ = takes(t, after); f == nil {
					t.Fatal("nodes that make no tree", short(after))
				}
			}
		}
		tells(t, f, m, row)
	}
	for kind, want := range map[int][]api.Errno{
		api.CmdMake: {api.OK, api.ErrArg, api.ErrFileThere, api.ErrFileKind, api.ErrFileNone, api.ErrFileLong}, api.CmdDir: {api.OK, api.ErrArg, api.ErrFileThere, api.ErrFileKind, api.ErrFileNone, api.ErrFileLong},
		api.CmdWrite: {api.OK, api.ErrFileKind, api.ErrFileNone, api.ErrFileLong}, api.CmdCut: {api.OK, api.ErrFileKind, api.ErrFileNone, api.ErrFileLong},
		api.CmdLink: {api.OK, api.ErrFileKind, api.ErrFileNone, api.ErrFileThere}, api.CmdRename: {api.OK, api.ErrFileKind, api.ErrFileNone, api.ErrFileThere, api.ErrFileBusy, api.ErrFileLong},
		api.CmdRemove: {api.OK, api.ErrFileKind, api.ErrFileNone, api.ErrFileBusy}, api.CmdSnap: {api.ErrArg},
	} {
		for _, e := range want {
			if answers[fmt.Sprint(kind, " ", e)] < 3 {
				t.Error("seldom", kind, e, answers)
			}
		}
	}
	if full < 100 {
		t.Error("seldom full", full)
	}
}

// grown is a tree that commands by chance have made.
func grown(t testing.TB, chance *rand.Rand) *model {
	f, m := files.New(), newModel()
	for range chance.Intn(150) {
		does(t, f, m, byChance(chance, m, []int{api.CmdMake, api.CmdDir, api.CmdDir, api.CmdLink, api.CmdRename, api.CmdWrite}))
	}
	return m
}

// TestFromByChance: nodes of trees, with a few other ones among them.
func TestFromByChance(t *testing.T) {
	chance := rand.New(rand.NewSource(141))
	right, wrong := 0, 0
	for range 4000 {
		l := grown(t, chance).nodes()
		for range chance.Intn(3) {
			l = change(chance, l)
		}
		if f, m := takes(t, l); f != nil {
			right++
			tells(t, f, m, l)
		} else {
			wrong++
		}
	}
	if right < 500 || wrong < 500 {
		t.Error("few", right, wrong)
	}
}

// change are nodes of which one is another one.
func change(chance *rand.Rand, l []api.Node) []api.Node {
	l = slices.Clone(l)
	i := chance.Intn(len(l))
	n := &l[i]
	switch chance.Intn(9) {
	case 0:
		n.Num += chance.Intn(3) - 1
	case 1:
		n.Links += chance.Intn(3) - 1
	case 2:
		n.Dir = !n.Dir
	case 3:
		l = slices.Delete(l, i, i+1)
		l = append(l, api.Node{Num: 61, Links: 1})
	case 4:
		l[i] = l[chance.Intn(len(l))]
	case 5:
		j := chance.Intn(len(l))
		l[i], l[j] = l[j], l[i]
	case 6:
		n.Data += "x"
	default:
		// Numbers of entries change places: directories come to stand in one another.
		x, y := chance.Intn(len(l)), chance.Intn(len(l))
		a, _ := tables.ParseEntries(l[x].Data)
		b, _ := tables.ParseEntries(l[y].Data)
		if l[x].Dir && l[y].Dir && len(a) > 0 && len(b) > 0 {
			if x == y {
				b = a
			}
			p, q := chance.Intn(len(a)), chance.Intn(len(b))
			a[p].Num, b[q].Num = b[q].Num, a[p].Num
			l[x].Data, l[y].Data = dir(a...), dir(b...)
		}
	}
	return l
}

// TestOneFile: the names of one file tell the same bytes, whichever is written.
func TestOneFile(t *testing.T) {
	f := files.New()
	do(t, f, "make /a", "dir /d", "link /a /b", "link /b /d/a", "link /d/a /d/b", "rename /a /d/c")
	names := []string{"/b", "/d/a", "/d/b", "/d/c"}
	want := ""
	for i := range 40 {
		c := api.Command{Kind: api.CmdWrite, Path: names[i%4], At: len(want), Data: string(rune('a' + i%26))}
		if i%7 == 6 {
			c = api.Command{Kind: api.CmdCut, Path: names[i%4], At: len(want) / 2}
		}
		want = want[:c.At] + c.Data
		if e := f.Do(c); e != api.OK {
			t.Fatal(c, e)
		}
		for _, other := range names {
			if s, e := f.Read(other, 0, 100); s != want || e != api.OK {
				t.Fatalf("%d, %s: %q, not %q, %v", i, other, s, want, e)
			}
			if n, e := f.Get(other); n != (api.Node{Num: 2, Links: 4, Data: want}) || e != api.OK {
				t.Fatal(other, n, e)
			}
		}
	}
}

// P14.4

func TestClone(t *testing.T) {
	f, m := files.New(), newModel()
	for _, line := range []string{"make /a", "dir /d", "dir /d/e", "link /a /d/l", "write /a 0 6162"} {
		does(t, f, m, command(t, line))
	}
	for _, line := range []string{"make /x", "make /d/e/x", "dir /d/x", "write /a 1 7a", "write /d/l 2 7a", "cut /a 1", "link /a /x", "link /a /d/e/x", "rename /a /x", "rename /d /x", "rename /d/e /d/x", "remove /a", "remove /d/l", "remove /d/e"} {
		c, cm := f.Clone(), m.clone()
		tells(t, c, cm, "Clone")
		if e := does(t, c, cm, command(t, line)); e != api.OK {
			t.Fatal(line, e)
		}
		tells(t, f, m, line)
		tells(t, c, cm, line)
		// The other way round.
		c, cm = f.Clone(), m.clone()
		g, gm := f.Clone(), m.clone()
		does(t, g, gm, command(t, line))
		tells(t, c, cm, line)
		h := g.Clone()
		does(t, g, gm.clone(), command(t, "make /after"))
		tells(t, h, gm, line)
		tells(t, f, m, line)
	}
}

// The rules that hold everywhere

// TestMemoryOfLists: lists that are handed in and answered are nobody else's.
func TestMemoryOfLists(t *testing.T) {
	l := []api.Node{{Num: 1, Dir: true, Links: 1, Data: dir(api.Entry{Name: "a", Num: 2}, api.Entry{Name: "b", Num: 2})}, {Num: 2, Links: 2, Data: "xyz"}, {Num: 9, Data: "behind"}}
	was := slices.Clone(l)
	f, e := files.From(l[:2])
	if e != api.OK || !slices.Equal(l, was) {
		t.Fatal(l, e)
	}
	l[0].Data, l[1].Data, l[1].Num = "\x00", "other", 7
	for range 3 {
		nodes := f.Nodes()
		names, _ := f.List("/")
		if !slices.Equal(nodes, was[:2]) || !slices.Equal(names, []string{"a", "b"}) {
			t.Fatal(nodes, names)
		}
		for i := range nodes[:cap(nodes)] {
			nodes[:cap(nodes)][i] = api.Node{Num: 5}
		}
		for i := range names[:cap(names)] {
			names[:cap(names)][i] = "x"
		}
	}
}

// lent is a text whose bytes its owner changes by the answered call.
func lent(s string) (string, func()) {
	b := []byte(s)
	return unsafe.String(unsafe.SliceData(b), len(b)), func() {
		for i := range b {
			b[i] = '!'
		}
	}
}

// TestMemoryOfTexts: nothing of a text that is handed in is kept.
func TestMemoryOfTexts(t *testing.T) {
	f, m := files.New(), newModel()
	for _, line := range []string{"make /abc", "dir /d", "write /abc 0 616263", "write /abc 1 7879", "write /abc 3 7a", "link /abc /d/link", "rename /abc /d/other", "cut /d/link 2", "write /d/link 2 71", "write /d/other 0 -", "rename /d /e", "make /e/x", "write /e/x 0 6162636465666768", "make /y", "remove /e/link"} {
		c := command(t, line)
		path, spoilPath := lent(c.Path)
		to, spoilTo := lent(c.To)
		data, spoilData := lent(c.Data)
		want := m.do(c)
		c.Path, c.To, c.Data = path, to, data
		if e := f.Do(c); e != want {
			t.Fatal(line, e)
		}
		spoilPath()
		spoilTo()
		spoilData()
		tells(t, f, m, line)
	}
	l := m.nodes()
	var spoils []func()
	for i := range l {
		s, spoil := lent(l[i].Data)
		l[i].Data = s
		spoils = append(spoils, spoil)
	}
	g, e := files.From(l)
	if e != api.OK {
		t.Fatal(e)
	}
	for _, spoil := range spoils {
		spoil()
	}
	tells(t, g, m, "From")
}

// TestAnswersAgain: a call that only asks changes nothing, nor does one that is refused; the same is answered again.
func TestAnswersAgain(t *testing.T) {
	chance := rand.New(rand.NewSource(142))
	for range 100 {
		m := grown(t, chance)
		f, _ := takes(t, m.nodes())
		for range 3 {
			tells(t, f, m, "asking")
			for _, path := range []string{"", "//", "/n/n", "/a/a/a/a/a/a/a/a"} {
				asks(t, f, m, path)
			}
		}
	}
}

// Fuzzing

func FuzzDo(f *testing.F) {
	f.Add(strings.Join(someLines, "\n"))
	f.Add("dir /a\ndir /a/b\nmake /a/b/c\nrename /a/b /c\nlink /c/c /d\nwrite /d 0 6162\ncut /c/c 1\nremove /d\nsnap s")
	f.Add("dir /a\ndir /a/a\ndir /a/a/a\ndir /a/a/a/a\ndir /a/a/a/a/a\ndir /a/a/a/a/a/a\ndir /a/a/a/a/a/a/a\ndir /a/a/a/a/a/a/a/a\ndir /b\nrename /a /b/a\nrename /a/a /b/a")
	f.Fuzz(func(t *testing.T, s string) {
		tree, m := files.New(), newModel()
		for line := range strings.SplitSeq(s, "\n") {
			c, e := commands.Parse(line)
			if e != api.OK {
				c = api.Command{Kind: len(line) % 12, Path: line, To: line}
			}
			does(t, tree, m, c)
			asks(t, tree, m, c.Path)
			asks(t, tree, m, c.To)
		}
		tells(t, tree, m, s)
		takes(t, m.nodes())
	})
}

func FuzzFrom(f *testing.F) {
	f.Add("\x01\x01\x01\x02\x01a\x02\x01b\x03|\x02\x01\x01\x00|\x03\x00\x01xyz")
	f.Add("\x01\x01\x01\x01\x01a\x02|\x02\x01\x01\x01\x01a\x03|\x03\x01\x01\x00")
	f.Add("\x01\x01\x01\x00|\x02\x01\x01\x01\x01a\x03|\x03\x01\x01\x01\x01a\x02")
	f.Fuzz(func(t *testing.T, s string) {
		var l []api.Node
		for part := range strings.SplitSeq(s, "|") {
			if len(part) >= 3 {
				l = append(l, api.Node{Num: int(part[0]), Dir: part[1]%2 == 1, Links: int(part[2]), Data: part[3:]})
			}
		}
		if tree, m := takes(t, l); tree != nil {
			tells(t, tree, m, s)
		}
	})
}
