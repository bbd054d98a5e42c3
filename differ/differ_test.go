package differ_test

import (
	"encoding/hex"
	"math"
	"math/rand"
	"slices"
	"strings"
	"sync"
	"testing"
	"unsafe"

	"stillage/api"
	"stillage/differ"
)

// knownHeads are heads with their bytes, laid by hand.
func knownHeads() map[api.Head]string {
	return map[api.Head]string{
		{Id: 1, Name: "s", Table: api.Blob{Root: 5, Size: 6}}:                                                                                                                               "01" + "00" + "0173" + "05" + "06" + "00" + "00",
		{Id: 2, Base: 1, Name: "s", Table: api.Blob{Root: 5, Size: 6}, Count: 7, Drop: "\x02"}:                                                                                              "02" + "01" + "0173" + "05" + "06" + "07" + "0102",
		{Id: 300, Base: 299, Name: "h.1", Table: api.Blob{Root: 300, Size: 128}, Count: 127, Drop: "\x00\x80"}:                                                                              "ac02" + "ab02" + "03682e31" + "ac02" + "8001" + "7f" + "020080",
		{Id: 1 << 40, Base: 1<<40 - 1, Name: "0123456789abcdef", Table: api.Blob{Root: 4095, Size: 16384}, Count: 4095, Drop: strings.Repeat("\x00", 511) + "\x80"}:                         "808080808020" + "ffffffffff1f" + "10" + hex.EncodeToString([]byte("0123456789abcdef")) + "ff1f" + "808001" + "ff1f" + "8004" + strings.Repeat("00", 511) + "80",
		{Id: 1 << 40, Base: 1, Name: "...", Table: api.Blob{Root: 1, Size: 1}, Count: 4095, Drop: "\xfe" + strings.Repeat("\xff", 511)}:                                                     "808080808020" + "01" + "032e2e2e" + "01" + "01" + "ff1f" + "8004" + "fe" + strings.Repeat("ff", 511),
		{Id: 128, Base: 127, Name: "a-_9.z", Table: api.Blob{Root: 128, Size: 16383}, Count: 128, Drop: strings.Repeat("\x00", 126) + "\x01"}:                                               "8001" + "7f" + "06612d5f392e7a" + "8001" + "ff7f" + "8001" + "7f" + strings.Repeat("00", 126) + "01",
		{Id: 129, Base: 128, Name: strings.Repeat("-", 16), Table: api.Blob{Root: 127, Size: 127}, Count: 0, Drop: strings.Repeat("\x00", 127) + "\x10"}:                                    "8101" + "8001" + "10" + strings.Repeat("2d", 16) + "7f" + "7f" + "00" + "8001" + strings.Repeat("00", 127) + "10",
		{Id: 7, Base: 0, Name: "z", Table: api.Blob{Root: 2, Size: 300}, Count: 3}:                                                                                                          "07" + "00" + "017a" + "02" + "ac02" + "03" + "00",
		{Id: 1<<40 - 1, Base: 0, Name: "_", Table: api.Blob{Root: 4094, Size: 16383}, Count: 4094}:                                                                                          "ffffffffff1f" + "00" + "015f" + "fe1f" + "ff7f" + "fe1f" + "00",
		{Id: 5, Base: 4, Name: strings.Repeat("a", 15), Table: api.Blob{Root: 16, Size: 17}, Count: 18, Drop: "\xfe"}:                                                                       "05" + "04" + "0f" + strings.Repeat("61", 15) + "10" + "11" + "12" + "01fe",
		{Id: 6, Base: 1, Name: "b", Table: api.Blob{Root: 1, Size: 2}, Count: 3, Drop: "\x04\x00\x00\x00\x01"}:                                                                              "06" + "01" + "0162" + "01" + "02" + "03" + "050400000001",
		{Id: 16384, Base: 16383, Name: "c", Table: api.Blob{Root: 3, Size: 4}, Count: 5, Drop: ""}:                                                                                          "808001" + "ff7f" + "0163" + "03" + "04" + "05" + "00",
		{Id: 1 << 35, Base: 1 << 28, Name: "d", Table: api.Blob{Root: 6, Size: 7}, Count: 8, Drop: strings.Repeat("\x00", 100) + strings.Repeat("\xff", 100)}:                               "808080808001" + "8080808001" + "0164" + "06" + "07" + "08" + "c801" + strings.Repeat("00", 100) + strings.Repeat("ff", 100),
		{Id: 1 << 31, Base: 1<<31 - 1, Name: "e", Table: api.Blob{Root: 9, Size: 10}, Count: 11, Drop: strings.Repeat("\x00", 300) + "\x01" + strings.Repeat("\x00", 100) + "\x7f"}:         "8080808008" + "ffffffff07" + "0165" + "09" + "0a" + "0b" + "9203" + strings.Repeat("00", 300) + "01" + strings.Repeat("00", 100) + "7f",
		{Id: 1<<32 + 1, Base: 1 << 32, Name: "f", Table: api.Blob{Root: 12, Size: 13}, Count: 14, Drop: strings.Repeat("\xaa", 128)}:                                                        "8180808010" + "8080808010" + "0166" + "0c" + "0d" + "0e" + "8001" + strings.Repeat("aa", 128),
		{Id: 9, Base: 8, Name: "nine", Table: api.Blob{Root: 1000, Size: 10000}, Count: 2000, Drop: "\x00\x00\x00\x00\x00\x00\x00\x00\x00\x00\x00\x00\x00\x00\x00\x00\x00\x00\x00\x00\x01"}: "09" + "08" + "046e696e65" + "e807" + "904e" + "d00f" + "15" + strings.Repeat("00", 20) + "01",
	}
}

// someHeads are those in an order of their own.
func someHeads() (l []api.Head) {
	for h := range knownHeads() {
		l = append(l, h)
	}
	slices.SortFunc(l, func(g, h api.Head) int { return strings.Compare(laidHead(g), laidHead(h)) })
	return l
}

// knownBlocks are records with their bytes, laid by hand.
func knownBlocks() map[block]string {
	return map[block]string{
		{5, "ab"}:                          "05" + "02" + "6162",
		{300, "ab"}:                        "ac02" + "02" + "6162",
		{1, ""}:                            "01" + "00",
		{4095, strings.Repeat("x", 240)}:   "ff1f" + "f001" + strings.Repeat("78", 240),
		{127, strings.Repeat("\x00", 127)}: "7f" + "7f" + strings.Repeat("00", 127),
		{128, strings.Repeat("\xff", 128)}: "8001" + "8001" + strings.Repeat("ff", 128),
		{4094, "\x00"}:                     "fe1f" + "01" + "00",
		{2, all(239, 1)}:                   "02" + "ef01" + hex.EncodeToString([]byte(all(239, 1))),
	}
}

// someBlocks are those in an order of their own.
func someBlocks() (l []block) {
	for x := range knownBlocks() {
		l = append(l, x)
	}
	slices.SortFunc(l, func(x, y block) int { return x.vbn - y.vbn })
	return l
}

// numbers are those about the limits, about which a number's bytes become one more, and those that would be others in fewer bits.
func numbers() []int {
	return []int{
		math.MinInt, math.MinInt + 1, -1 << 62, -1 << 40, -1 << 32, -1<<32 + 5, -4095, -256, -128, -2, -1,
		0, 1, 2, 3, 5, 6, 127, 128, 129, 255, 256, 257, 4094, 4095, 4096, 4097, 16383, 16384, 16385, 65535, 65536, 65537,
		1<<31 - 1, 1 << 31, 1<<32 - 1, 1 << 32, 1<<32 + 1, 1<<32 + 5, 1<<40 - 1, 1 << 40, 1<<40 + 1, 1 << 41, 1<<62 - 1, 1 << 62, math.MaxInt - 1, math.MaxInt,
	}
}

// names are such as are names, or are none.
func names() []string {
	return []string{
		"", "a", "z", "0", "9", "-", "_", ".", "..", "...", ".a", "a.", "a.b-c_9", "h.1", strings.Repeat("a", 15), strings.Repeat("a", 16), strings.Repeat(".", 16),
		"A", "aB", "a/b", "/a", "a b", " a", "a ", "a\x00", "\x00", "\xff", "a\n", "a,b", "`", "{", "@", "^", "/", ":", "ä", strings.Repeat("a", 17), strings.Repeat(".", 17), strings.Repeat("a", 272), strings.Repeat("a", 65537),
	}
}

// drops are such as are least texts of blocks, or are none.
func drops() []string {
	nought := func(n int) string { return strings.Repeat("\x00", n) }
	return []string{
		"", "\x02", "\xfe", "\x80", "\x00\x01", "\x00\x80", "\x02\x01", nought(511) + "\x80", nought(511) + "\x01", "\xfe" + strings.Repeat("\xff", 511), nought(510) + "\xff", nought(127) + "\x01", nought(128) + "\x01",
		"\x00", "\x01", "\x03", "\xff", "\x02\x00", "\x02\x00\x00", "\x00\x00", "\x01\x02", "\x01\x00", nought(511), nought(512), nought(513), "\x02" + nought(511), "\x02" + nought(512), nought(510) + "\x80\x00", nought(511) + "\x80\x00",
		nought(512) + "\x01", nought(512) + "\x80", "\x02" + nought(511) + "\x01", strings.Repeat("\xff", 512), strings.Repeat("\xff", 513), "\xfe" + strings.Repeat("\xff", 512), nought(1023) + "\x02", nought(8191) + "\x80", nought(8192) + "\x01",
		"\x02" + nought(8192),
	}
}

// headWays are the ways to make a head another one: each number, name and set in each place.
func headWays() (l [][]func(h *api.Head)) {
	at := []func(h *api.Head) *int{
		func(h *api.Head) *int { return &h.Id },
		func(h *api.Head) *int { return &h.Base },
		func(h *api.Head) *int { return &h.Table.Root },
		func(h *api.Head) *int { return &h.Table.Size },
		func(h *api.Head) *int { return &h.Count },
	}
	for _, place := range at {
		var ways []func(h *api.Head)
		for _, n := range numbers() {
			ways = append(ways, func(h *api.Head) { *place(h) = n })
		}
		l = append(l, ways)
	}
	var ways []func(h *api.Head)
	for _, s := range names() {
		ways = append(ways, func(h *api.Head) { h.Name = s })
	}
	l = append(l, ways)
	ways = nil
	for _, s := range drops() {
		ways = append(ways, func(h *api.Head) { h.Drop = s })
	}
	return append(l, ways)
}

// P19.1

func TestExamples(t *testing.T) {
	if s, e := differ.Record(5, "ab"); s != "\x05\x02ab" || e != api.OK {
		t.Errorf("%q, %d", s, e)
	}
	if n, p, e := differ.ParseRecord("\x05\x02ab"); n != 5 || p != "ab" || e != api.OK {
		t.Errorf("%d, %q, %d", n, p, e)
	}
}

func TestKnown(t *testing.T) {
	for h, want := range knownHeads() {
		if s, e := differ.Head(h); hex.EncodeToString([]byte(s)) != want || e != api.OK {
			t.Errorf("Head(%s): %s, %d, not %s", brief(show(h)), short(s), e, brief(want))
		}
		b, _ := hex.DecodeString(want)
		if g, e := differ.ParseHead(string(b)); g != h || e != api.OK {
			t.Errorf("ParseHead(%s): %s, %d", brief(want), brief(show(g)), e)
		}
	}
	for x, want := range knownBlocks() {
		if s, e := differ.Record(x.vbn, x.payload); hex.EncodeToString([]byte(s)) != want || e != api.OK {
			t.Errorf("Record(%d, %s): %s, %d, not %s", x.vbn, short(x.payload), short(s), e, brief(want))
		}
		b, _ := hex.DecodeString(want)
		if n, p, e := differ.ParseRecord(string(b)); n != x.vbn || p != x.payload || e != api.OK {
			t.Errorf("ParseRecord(%s): %d, %s, %d", brief(want), n, short(p), e)
		}
	}
}

// TestHeadFields: each two fields with each of their values, of heads with and without a base.
func TestHeadFields(t *testing.T) {
	ways := headWays()
	for _, start := range []api.Head{
		{Id: 6, Base: 5, Name: "s", Table: api.Blob{Root: 5, Size: 6}, Count: 7, Drop: "\x02"},
		{Id: 1 << 40, Name: "s", Table: api.Blob{Root: 4095, Size: 16384}, Count: 4095},
	} {
		for i := range ways {
			for _, one := range ways[i] {
				for j := range i {
					for _, other := range ways[j] {
						h := start
						one(&h)
						other(&h)
						laysHead(t, h)
					}
				}
				h := start
				one(&h)
				laysHead(t, h)
				if h.Id >= 0 && h.Base >= 0 && h.Table.Root >= 0 && h.Table.Size >= 0 && h.Count >= 0 {
					parsesHead(t, laidHead(h))
				}
			}
		}
	}
}

// TestWrongHeads: some that may not be, each for one reason.
func TestWrongHeads(t *testing.T) {
	right := api.Head{Id: 6, Base: 5, Name: "s", Table: api.Blob{Root: 5, Size: 6}, Count: 7, Drop: "\x02"}
	for what, wrong := range map[string]func(h *api.Head){
		"the number 0":              func(h *api.Head) { h.Id, h.Base, h.Drop = 0, 0, "" },
		"too great a number":        func(h *api.Head) { h.Id = 1<<40 + 1 },
		"a base below 0":            func(h *api.Head) { h.Base = -1 },
		"a base below 0, no drop":   func(h *api.Head) { h.Base, h.Drop = -1, "" },
		"itself as its base":        func(h *api.Head) { h.Base = 6 },
		"a base above it":           func(h *api.Head) { h.Base = 7 },
		"no name":                   func(h *api.Head) { h.Name = "" },
		"no file's name":            func(h *api.Head) { h.Name = ".." },
		"no table":                  func(h *api.Head) { h.Table = api.Blob{} },
		"a table of no bytes":       func(h *api.Head) { h.Table.Size = 0 },
		"a table in no block":       func(h *api.Head) { h.Table.Root = 0 },
		"a table beyond all blocks": func(h *api.Head) { h.Table.Root = 4096 },
		"too long a table":          func(h *api.Head) { h.Table.Size = 16385 },
		"fewer than no blocks":      func(h *api.Head) { h.Count = -1 },
		"too many blocks":           func(h *api.Head) { h.Count = 4096 },
		"block 0":                   func(h *api.Head) { h.Drop = "\x03" },
		"a block beyond all":        func(h *api.Head) { h.Drop = strings.Repeat("\x00", 512) + "\x01" },
		"no least text":             func(h *api.Head) { h.Drop = "\x02\x00" },
		"a drop of no base":         func(h *api.Head) { h.Base = 0 },
	} {
		h := right
		wrong(&h)
		if s, e := differ.Head(h); s != "" || e != api.ErrDifferForm {
			t.Errorf("%s: %s, %d", what, short(s), e)
		}
		if min(h.Id, h.Base, h.Count) < 0 {
			continue
		}
		if g, e := differ.ParseHead(laidHead(h)); g != (api.Head{}) || e != api.ErrDifferForm {
			t.Errorf("%s: %s, %d", what, show(g), e)
		}
	}
	laysHead(t, right)
}

// TestDropBytes: each byte at each end of sets of blocks, and each block alone.
func TestDropBytes(t *testing.T) {
	h := api.Head{Id: 6, Base: 5, Name: "s", Table: api.Blob{Root: 5, Size: 6}, Count: 7}
	for b := range 256 {
		one := string([]byte{byte(b)})
		for _, s := range []string{"", "\x00", "\x02", strings.Repeat("\x00", 510), "\xfe" + strings.Repeat("\xff", 510), strings.Repeat("\x00", 511)} {
			for _, drop := range []string{one + s, s + one, one + s + "\x01"} {
				h.Drop = drop
				laysHead(t, h)
				parsesHead(t, laidHead(h))
			}
		}
	}
	for n := range 4200 {
		h.Drop = setOf(n)
		laysHead(t, h)
		parsesHead(t, laidHead(h))
	}
	for _, n := range []int{65534, 65535, 65536, 1 << 20} {
		for _, drop := range []string{"\x02" + strings.Repeat("\x00", n), strings.Repeat("\x00", n), strings.Repeat("\x00", n) + "\x02"} {
			h.Drop = drop
			laysHead(t, h)
			parsesHead(t, laidHead(h))
		}
	}
}

// TestNameBytes: each byte in a name.
func TestNameBytes(t *testing.T) {
	h := api.Head{Id: 6, Base: 5, Name: "s", Table: api.Blob{Root: 5, Size: 6}, Count: 7}
	for b := range 256 {
		one := string([]byte{byte(b)})
		for _, name := range []string{one, "a" + one, one + "a", "a" + one + "a", one + one} {
			h.Name = name
			laysHead(t, h)
			parsesHead(t, laidHead(h))
		}
	}
}

// TestRecordFields: each number with payloads of each length.
func TestRecordFields(t *testing.T) {
	for _, n := range numbers() {
		for size := range 260 {
			laysBlock(t, n, all(size, n))
			if n >= 0 {
				parsesBlock(t, told(n)+text(all(size, n)))
			}
		}
		for _, size := range []int{256, 480, 496, 65535, 65536, 65537, 65536 + 240, 1 << 20} {
			laysBlock(t, n, all(size, n))
			if n >= 0 {
				parsesBlock(t, told(n)+text(all(size, n)))
			}
		}
	}
	for n := range 4200 {
		laysBlock(t, n, "x")
		parsesBlock(t, told(n)+text(""))
	}
	for b := range 256 {
		one := string([]byte{byte(b)})
		laysBlock(t, 7, one)
		laysBlock(t, b+1, all(100, 1)+one)
		laysBlock(t, b+1, one+all(239, 1))
	}
}

// TestWrongRecords: some that may not be.
func TestWrongRecords(t *testing.T) {
	for _, x := range []block{{0, ""}, {0, "a"}, {-1, "a"}, {4096, "a"}, {math.MinInt, "a"}, {math.MaxInt, "a"}, {1, all(241, 0)}, {4095, all(65537, 0)}, {0, all(241, 0)}} {
		if s, e := differ.Record(x.vbn, x.payload); s != "" || e != api.ErrDifferForm {
			t.Errorf("%d, %s: %s, %d", x.vbn, short(x.payload), short(s), e)
		}
		if x.vbn < 0 {
			continue
		}
		if n, p, e := differ.ParseRecord(laidBlock(x)); n != 0 || p != "" || e != api.ErrDifferForm {
			t.Errorf("%d, %s: %d, %s, %d", x.vbn, short(x.payload), n, short(p), e)
		}
	}
}

// parses hands bytes to both that parse.
func parses(t testing.TB, s string) {
	t.Helper()
	parsesHead(t, s)
	parsesBlock(t, s)
}

// laidAll are the bytes of all known heads and records.
func laidAll() (l []string) {
	for _, h := range someHeads() {
		l = append(l, laidHead(h))
	}
	for _, x := range someBlocks() {
		l = append(l, laidBlock(x))
	}
	return l
}

// TestParseOtherBytes: what was laid, of which a byte is each other one, comes once more, or is left out.
func TestParseOtherBytes(t *testing.T) {
	for _, s := range laidAll() {
		for i := range s {
			if i > 30 && i < len(s)-4 && i%37 != 0 {
				continue
			}
			for b := range 256 {
				one := string([]byte{byte(b)})
				parses(t, s[:i]+one+s[i+1:])
				parses(t, s[:i]+one+s[i:])
			}
			parses(t, s[:i]+s[i+1:])
		}
	}
}

// TestParseCut: what was laid, cut at either end, or with more bytes at either end.
func TestParseCut(t *testing.T) {
	for _, s := range laidAll() {
		for i := range s {
			parses(t, s[:i])
			parses(t, s[i:])
		}
		for _, more := range []string{"\x00", "x", "\x80", "\xff", all(300, 3), s} {
			parses(t, s+more)
			parses(t, more+s)
		}
	}
	for _, h := range someHeads() {
		s := laidHead(h)
		for i := range s {
			if g, e := differ.ParseHead(s[:i]); g != (api.Head{}) || e != api.ErrDifferForm {
				t.Fatalf("%s: %s, %d", short(s[:i]), show(g), e)
			}
		}
		if g, e := differ.ParseHead(s + "\x00"); g != (api.Head{}) || e != api.ErrDifferForm {
			t.Fatalf("%s and a byte more: %s, %d", short(s), show(g), e)
		}
	}
	for _, x := range someBlocks() {
		s := laidBlock(x)
		for i := range s {
			if n, p, e := differ.ParseRecord(s[:i]); n != 0 || p != "" || e != api.ErrDifferForm {
				t.Fatalf("%s: %d, %s, %d", short(s[:i]), n, short(p), e)
			}
		}
		if n, p, e := differ.ParseRecord(s + "\x00"); n != 0 || p != "" || e != api.ErrDifferForm {
			t.Fatalf("%s and a byte more: %d, %s, %d", short(s), n, short(p), e)
		}
	}
}

// TestParseNumbers: each number in each place, also in more bytes than need be, and of more than nine of them.
func TestParseNumbers(t *testing.T) {
	places := func(n string) []string {
		return []string{
			n + "\x00\x01s\x05\x06\x07\x00", "\x06" + n + "\x01s\x05\x06\x07\x00", "\x06\x05" + n + "s\x05\x06\x07\x00", "\x06\x05\x01s" + n + "\x06\x07\x00",
			"\x06\x05\x01s\x05" + n + "\x07\x00", "\x06\x05\x01s\x05\x06" + n + "\x00", "\x06\x05\x01s\x05\x06\x07" + n, "\x06\x05\x01s\x05\x06\x07" + n + "\x02",
			n + "\x00", n + "\x02ab", "\x05" + n, "\x05" + n + "a",
		}
	}
	for _, n := range numbers() {
		if n < 0 {
			continue
		}
		for noughts := range 12 {
			for _, s := range places(padded(n, noughts)) {
				parses(t, s)
			}
		}
	}
	for _, n := range []string{strings.Repeat("\x80", 20), strings.Repeat("\xff", 20), strings.Repeat("\xff", 8) + "\x7f", strings.Repeat("\xff", 9) + "\x01", strings.Repeat("\x80", 9) + "\x01", strings.Repeat("\x80", 9) + "\x00"} {
		for _, s := range places(n) {
			parses(t, s)
		}
	}
}

// TestParseShort: all bytes of up to six of a few.
func TestParseShort(t *testing.T) {
	few := "\x00\x01\x02\x05a\x7f\x80\xff"
	last := []string{""}
	parses(t, "")
	for range 6 {
		var next []string
		for _, s := range last {
			for i := range few {
				next = append(next, s+few[i:i+1])
			}
		}
		for _, s := range next {
			parses(t, s)
			// Bytes that are all but the beginning of a head.
			parsesHead(t, "\x02\x01\x01s"+s)
			parsesHead(t, s+"\x05\x06\x07\x00")
		}
		last = next
	}
}

// P19.4

// headByChance is a head that may be, or nearly.
func headByChance(chance *rand.Rand) api.Head {
	number := func(least, most int) int {
		switch chance.Intn(20) {
		case 0:
			return least
		case 1:
			return most
		case 2:
			return numbers()[chance.Intn(len(numbers()))]
		case 3:
			return min(most, least+chance.Intn(130))
		}
		return least + chance.Intn(most-least+1)
	}
	h := api.Head{Id: number(2, mostId), Table: api.Blob{Root: number(1, mostBlock), Size: number(1, mostSize)}, Count: number(0, mostBlock)}
	for range 1 + chance.Intn(16) {
		h.Name += "abcdefghijklmnopqrstuvwxyz0123456789.-_"[chance.Intn(39):][:1]
	}
	if chance.Intn(3) > 0 && h.Id > 1 {
		h.Base = number(1, h.Id-1)
		var l []int
		for range chance.Intn(60) {
			l = append(l, 1+chance.Intn(min(mostBlock, 1+chance.Intn(5000))))
		}
		h.Drop = setOf(l...)
	}
	return h
}

// TestByChance: there and back, and with one byte another one, or cut.
func TestByChance(t *testing.T) {
	chance := rand.New(rand.NewSource(19))
	right := 0
	for range 20000 {
		h := headByChance(chance)
		laysHead(t, h)
		payload := all(chance.Intn(246), chance.Intn(256))
		vbn := chance.Intn(4100)
		laysBlock(t, vbn, payload)
		l := []string{laidBlock(block{vbn, payload})}
		if isHead(h) {
			l = append(l, laidHead(h))
			right++
		}
		for _, s := range l {
			parses(t, s)
			b := []byte(s)
			b[chance.Intn(len(b))] ^= byte(1 + chance.Intn(255))
			parses(t, string(b))
			parses(t, string(b[:chance.Intn(len(b))]))
			parses(t, s[:chance.Intn(len(s))])
		}
	}
	if right < 10000 {
		t.Errorf("%d heads may be", right)
	}
}

// TestOneOfEach: unlike heads have unlike bytes, and unlike records.
func TestOneOfEach(t *testing.T) {
	heads := map[string]api.Head{}
	for _, id := range []int{3, 127, 128, mostId} {
		for _, base := range []int{0, 1, 2} {
			for _, name := range []string{"a", "b", "aa", "a.", "ab"} {
				for _, root := range []int{1, 2, 128, 4095} {
					for _, size := range []int{1, 2, 128, 16384} {
						for _, count := range []int{0, 1, 2, 128, 4095} {
							for _, drop := range []string{"", "\x02", "\x00\x02", "\x02\x01"} {
								h := api.Head{Id: id, Base: base, Name: name, Table: api.Blob{Root: root, Size: size}, Count: count, Drop: drop}
								s, e := differ.Head(h)
								if !isHead(h) {
									continue
								}
								if g, ok := heads[s]; ok || e != api.OK {
									t.Fatalf("%s and %s: %s, %d", show(h), show(g), short(s), e)
								}
								heads[s] = h
							}
						}
					}
				}
			}
		}
	}
	for s, h := range heads {
		if g, e := differ.ParseHead(s); g != h || e != api.OK {
			t.Fatalf("%s, not %s: %d", show(g), show(h), e)
		}
	}
	blocks := map[string]block{}
	for _, vbn := range []int{1, 2, 127, 128, 256, 4095} {
		for _, payload := range []string{"", "\x00", "\x00\x00", "\x01", "\x01\x00", "a", "ab", all(127, 0), all(128, 0), all(240, 0)} {
			s, e := differ.Record(vbn, payload)
			if x, ok := blocks[s]; ok || e != api.OK {
				t.Fatalf("%d, %s and %s: %s, %d", vbn, short(payload), brief(show(x)), short(s), e)
			}
			blocks[s] = block{vbn, payload}
		}
	}
}

func FuzzHead(f *testing.F) {
	for _, h := range someHeads() {
		f.Add(h.Id, h.Base, h.Name, h.Table.Root, h.Table.Size, h.Count, h.Drop)
	}
	f.Fuzz(func(t *testing.T, id, base int, name string, root, size, count int, drop string) {
		laysHead(t, api.Head{Id: id, Base: base, Name: name, Table: api.Blob{Root: root, Size: size}, Count: count, Drop: drop})
		laysHead(t, api.Head{Id: id & (1<<40 - 1), Base: base & 255, Name: name, Table: api.Blob{Root: root & 4095, Size: size & 16383}, Count: count & 4095, Drop: drop})
		laysBlock(t, count, drop)
		laysBlock(t, count&4095, name)
	})
}

func FuzzParse(f *testing.F) {
	for _, s := range laidAll() {
		f.Add(s)
	}
	f.Fuzz(func(t *testing.T, s string) { parses(t, s) })
}

// The rules that hold everywhere

// TestEnds (R1): texts of any length are told of.
func TestEnds(t *testing.T) {
	long := strings.Repeat(all(4099, 0), 1000)
	for _, s := range []string{long, strings.Repeat("\x00", len(long)), strings.Repeat("\x80", len(long)), strings.Repeat("\xff", len(long)), "\x02" + strings.Repeat("\x00", len(long))} {
		laysBlock(t, 1, s)
		for _, x := range []string{s, "\x05" + text(s), "\x06\x05" + text(s) + "\x05\x06\x07\x00", "\x06\x05\x01s\x05\x06\x07" + text(s), "\x05\xff\xff\xff\xff\xff\xff\xff\xff\x7f" + s} {
			if h, e := differ.ParseHead(x); h != (api.Head{}) || e != api.ErrDifferForm {
				t.Errorf("ParseHead(%s): %d", short(x), e)
			}
			if n, p, e := differ.ParseRecord(x); n != 0 || p != "" || e != api.ErrDifferForm {
				t.Errorf("ParseRecord(%s): %d", short(x), e)
			}
		}
		for _, h := range []api.Head{
			{Id: 6, Base: 5, Name: s, Table: api.Blob{Root: 5, Size: 6}, Count: 7},
			{Id: 6, Base: 5, Name: "s", Table: api.Blob{Root: 5, Size: 6}, Count: 7, Drop: s},
			{Name: s, Drop: s},
		} {
			if u, e := differ.Head(h); u != "" || e != api.ErrDifferForm {
				t.Errorf("Head(%s): %s, %d", brief(show(h)), short(u), e)
			}
		}
	}
}

// within tells whether a text stands in the memory of another one.
func within(part, whole string) bool {
	at, from := uintptr(unsafe.Pointer(unsafe.StringData(part))), uintptr(unsafe.Pointer(unsafe.StringData(whole)))
	return part != "" && from <= at && at < from+uintptr(len(whole))
}

// lent is a text whose bytes its owner changes by the answered call.
func lent(s string) (string, func()) {
	b := []byte(s)
	return unsafe.String(unsafe.SliceData(b), len(b)), func() {
		for i := range b {
			b[i] = '!'
		}
	}
}

// TestNewMemory (R4): what is answered shares no memory with what was handed in, and is the same when that has changed.
func TestNewMemory(t *testing.T) {
	for _, h := range someHeads() {
		want := laidHead(h)
		s, spoil := lent(want)
		g, e := differ.ParseHead(s)
		if within(g.Name, s) || within(g.Drop, s) {
			t.Errorf("a part of %s stands in its bytes", brief(show(h)))
		}
		spoil()
		if g != h || e != api.OK {
			t.Errorf("behind the change of the bytes: %s, %d", brief(show(g)), e)
		}
		name, spoilName := lent(h.Name)
		drop, spoilDrop := lent(h.Drop)
		g.Name, g.Drop = name, drop
		u, e := differ.Head(g)
		spoilName()
		spoilDrop()
		if u != want || e != api.OK {
			t.Errorf("behind the change of the head: %s, %d", short(u), e)
		}
	}
	for _, x := range someBlocks() {
		want := laidBlock(x)
		s, spoil := lent(want)
		_, p, e := differ.ParseRecord(s)
		if within(p, s) {
			t.Errorf("a payload of %d bytes stands in the record", len(p))
		}
		spoil()
		if p != x.payload || e != api.OK {
			t.Errorf("behind the change of the bytes: %s, %d", short(p), e)
		}
		payload, spoil := lent(x.payload)
		u, e := differ.Record(x.vbn, payload)
		spoil()
		if u != want || e != api.OK {
			t.Errorf("behind the change of the payload: %s, %d", short(u), e)
		}
	}
}

// TestAnswersAgain (R5): the same is answered again, whatever was asked between, and by whomever.
func TestAnswersAgain(t *testing.T) {
	heads, blocks := someHeads(), someBlocks()
	var asking sync.WaitGroup
	for who := range 4 {
		asking.Go(func() {
			for i := range 200 {
				h, x := heads[(i*(2*who+1)+who)%len(heads)], blocks[(i*(2*who+3)+who)%len(blocks)]
				laysHead(t, h)
				differ.ParseHead(strings.Repeat("\xff", i))
				differ.Head(api.Head{Id: i, Base: i, Name: "other"})
				laysBlock(t, x.vbn, x.payload)
				parses(t, laidHead(h)[1:])
				parses(t, laidBlock(x)[1:])
			}
		})
	}
	asking.Wait()
}
