package differ_test

import (
	"encoding/hex"
	"fmt"
	"slices"
	"strings"
	"testing"

	"stillage/api"
	"stillage/differ"
)

const (
	mostId    = 1 << 40
	mostBlock = 4095
	mostSize  = 16384
	mostName  = 16
	mostBytes = 240
)

// told are a number's bytes: digits to the base 128, the lowest first, all but the last one with 128 more.
func told(n int) string {
	if n < 128 {
		return string([]byte{byte(n)})
	}
	return string([]byte{byte(n%128 + 128)}) + told(n/128)
}

// padded are a number's bytes with digits 0 behind them that need not be.
func padded(n, noughts int) string {
	b := []byte(told(n))
	for range noughts {
		b[len(b)-1] |= 128
		b = append(b, 0)
	}
	return string(b)
}

// text are a text's bytes.
func text(s string) string { return told(len(s)) + s }

// parser reads bytes one behind the other, also numbers of more digits than need be.
type parser struct {
	rest string
	bad  bool
}

func (p *parser) number() (n int) {
	for i, value := 0, 1; i < len(p.rest) && i < 9; i, value = i+1, value*128 {
		n += int(p.rest[i]%128) * value
		if p.rest[i] < 128 {
			p.rest = p.rest[i+1:]
			return n
		}
	}
	p.bad = true
	return 0
}

func (p *parser) text() string {
	n := p.number()
	if n < 0 || n > len(p.rest) {
		p.bad = true
	}
	if p.bad {
		return ""
	}
	s := p.rest[:n]
	p.rest = p.rest[n:]
	return s
}

// isName tells whether a text is a name, by the words of the document.
func isName(s string) bool {
	for i := range len(s) {
		if !strings.Contains("abcdefghijklmnopqrstuvwxyz0123456789.-_", s[i:i+1]) {
			return false
		}
	}
	return s != "" && len(s) <= mostName && s != "." && s != ".."
}

// isDrop tells whether a text is the least one of a set of blocks, by the words of the document.
func isDrop(s string) bool {
	for n := range 8 * len(s) {
		if s[n/8]>>(n%8)&1 == 1 && (n < 1 || n > mostBlock) {
			return false
		}
	}
	return s == "" || s[len(s)-1] != 0
}

// isHead tells whether a head may be, by the words of the document.
func isHead(h api.Head) bool {
	return h.Id >= 1 && h.Id <= mostId &&
		h.Base >= 0 && h.Base < h.Id &&
		isName(h.Name) &&
		h.Table.Size >= 1 && h.Table.Size <= mostSize && h.Table.Root >= 1 && h.Table.Root <= mostBlock &&
		h.Count >= 0 && h.Count <= mostBlock &&
		isDrop(h.Drop) && (h.Drop == "" || h.Base != 0)
}

// laidHead are a head's bytes, if it has numbers from 0 on.
func laidHead(h api.Head) string {
	return told(h.Id) + told(h.Base) + text(h.Name) + told(h.Table.Root) + told(h.Table.Size) + told(h.Count) + text(h.Drop)
}

// headOf is the head whose bytes these are.
func headOf(s string) (api.Head, bool) {
	p := &parser{rest: s}
	var h api.Head
	h.Id, h.Base = p.number(), p.number()
	h.Name = p.text()
	h.Table.Root, h.Table.Size, h.Count = p.number(), p.number(), p.number()
	h.Drop = p.text()
	// Whatever was read too generously has other bytes than these.
	if p.bad || !isHead(h) || laidHead(h) != s {
		return api.Head{}, false
	}
	return h, true
}

// block is a record: a block, and what it carries.
type block struct {
	vbn     int
	payload string
}

// isBlock tells whether a record may be, by the words of the document.
func isBlock(x block) bool {
	return x.vbn >= 1 && x.vbn <= mostBlock && len(x.payload) <= mostBytes
}

// laidBlock are a record's bytes, if its number is one from 0 on.
func laidBlock(x block) string { return told(x.vbn) + text(x.payload) }

// blockOf is the record whose bytes these are.
func blockOf(s string) (block, bool) {
	p := &parser{rest: s}
	x := block{p.number(), p.text()}
	if p.bad || !isBlock(x) || laidBlock(x) != s {
		return block{}, false
	}
	return x, true
}

// wants is the error that must be told.
func wants(ok bool, wrong api.Errno) api.Errno {
	if ok {
		return api.OK
	}
	return wrong
}

// laysHead holds Head against the words, and what is laid against what is parsed of it.
func laysHead(t testing.TB, h api.Head) {
	t.Helper()
	want, ok := "", isHead(h)
	if ok {
		want = laidHead(h)
	}
	s, e := differ.Head(h)
	if s != want || e != wants(ok, api.ErrDifferForm) {
		t.Errorf("Head(%s): %s, %d", brief(show(h)), short(s), e)
	}
	if !ok {
		return
	}
	if g, e := differ.ParseHead(s); g != h || e != api.OK {
		t.Errorf("ParseHead(Head(%s)): %s, %d", brief(show(h)), brief(show(g)), e)
	}
}

// parsesHead holds ParseHead against the words, and what is parsed against what is laid of it.
func parsesHead(t testing.TB, s string) {
	t.Helper()
	want, ok := headOf(s)
	h, e := differ.ParseHead(s)
	if h != want || e != wants(ok, api.ErrDifferForm) {
		t.Errorf("ParseHead(%s): %s, %d", short(s), brief(show(h)), e)
	}
	if !ok {
		return
	}
	if u, e := differ.Head(h); u != s || e != api.OK {
		t.Errorf("Head(ParseHead(%s)): %s, %d", short(s), short(u), e)
	}
}

// laysBlock holds Record against the words, and what is laid against what is parsed of it.
func laysBlock(t testing.TB, vbn int, payload string) {
	t.Helper()
	x := block{vbn, payload}
	want, ok := "", isBlock(x)
	if ok {
		want = laidBlock(x)
	}
	s, e := differ.Record(vbn, payload)
	if s != want || e != wants(ok, api.ErrDifferForm) {
		t.Errorf("Record(%d, %s): %s, %d", vbn, short(payload), short(s), e)
	}
	if !ok {
		return
	}
	if n, p, e := differ.ParseRecord(s); n != vbn || p != payload || e != api.OK {
		t.Errorf("ParseRecord(Record(%d, %s)): %d, %s, %d", vbn, short(payload), n, short(p), e)
	}
}

// parsesBlock holds ParseRecord against the words, and what is parsed against what is laid of it.
func parsesBlock(t testing.TB, s string) {
	t.Helper()
	want, ok := blockOf(s)
	n, p, e := differ.ParseRecord(s)
	if n != want.vbn || p != want.payload || e != wants(ok, api.ErrDifferForm) {
		t.Errorf("ParseRecord(%s): %d, %s, %d", short(s), n, short(p), e)
	}
	if !ok {
		return
	}
	if u, e := differ.Record(n, p); u != s || e != api.OK {
		t.Errorf("Record(ParseRecord(%s)): %s, %d", short(s), short(u), e)
	}
}

// short is a text as it is shown.
func short(s string) string {
	return brief(hex.EncodeToString([]byte(s[:min(len(s), 100)])))
}

// brief is the beginning of what is shown.
func brief(s string) string { return fmt.Sprintf("%.200s", s) }

// show is all of something; a nil list is as good as an empty one.
func show(x any) string { return strings.ReplaceAll(fmt.Sprintf("%#v", x), "(nil)", "{}") }

// same fails, if what a call answered is not what it should.
func same(t testing.TB, what string, got, want any) {
	t.Helper()
	if g, w := show(got), show(want); g != w {
		t.Fatalf("%s: %.300s, not %.300s", what, g, w)
	}
}

// fine fails, if one of some calls was not answered OK.
func fine(t testing.TB, answers ...api.Errno) {
	t.Helper()
	for i, e := range answers {
		if e != api.OK {
			t.Fatalf("call %d: %d", i, e)
		}
	}
}

// all are bytes in which each byte comes.
func all(n, seed int) string {
	b := make([]byte, n)
	for i := range b {
		b[i] = byte(seed*31 + i*7 + i/240*13)
	}
	return string(b)
}

// setOf is the least text of a set of numbers.
func setOf(l ...int) string {
	var b []byte
	for _, n := range l {
		for len(b) <= n/8 {
			b = append(b, 0)
		}
		b[n/8] |= 1 << (n % 8)
	}
	return string(b)
}

// listOf are a set's numbers, rising.
func listOf(s string) (l []int) {
	for n := range 8 * len(s) {
		if s[n/8]>>(n%8)&1 == 1 {
			l = append(l, n)
		}
	}
	return l
}

// without are the numbers of one list that are not in another one.
func without(a, b []int) []int {
	return slices.DeleteFunc(slices.Clone(a), func(n int) bool { return slices.Contains(b, n) })
}
