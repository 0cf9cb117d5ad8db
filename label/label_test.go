package label

import (
	"math"
	"strings"
	"testing"

	"quietwing/api"
	"quietwing/plain"
)

func told(t *testing.T, what string, err error, want api.Errno) {
	t.Helper()
	if got := plain.Told(err); got != want {
		t.Errorf("%s: got %v, want %v", what, got, want)
	}
}

// wrong are labels that no call takes.
var wrong = []api.Label{
	{Level: -1},
	{Level: 8},
	{Level: 8, Set: 255},
	{Level: math.MinInt},
	{Level: math.MaxInt},
	{Level: 1 << 32},
	{Set: -1},
	{Set: 256},
	{Level: 7, Set: 256},
	{Set: 257},
	{Set: math.MinInt},
	{Set: math.MaxInt},
	{Set: 1 << 32},
	{Level: -1, Set: -1},
	{Level: math.MaxInt, Set: math.MinInt},
}

// right gives all labels that may be.
func right() []api.Label {
	var all []api.Label
	for level := range 8 {
		for set := range 256 {
			all = append(all, api.Label{Level: level, Set: set})
		}
	}
	return all
}

func TestCheck(t *testing.T) {
	for _, l := range wrong {
		if got := plain.Told(Check(l)); got != api.ErrRange {
			t.Errorf("Check(%v): got %v", l, got)
		}
	}
	for _, l := range right() {
		if err := Check(l); err != nil {
			t.Errorf("Check(%v): got %v", l, err)
		}
	}
}

// TestWrong: a wrong label is told wherever it stands, with no answer beside it.
func TestWrong(t *testing.T) {
	for _, l := range wrong {
		text, err := Write(l)
		told(t, "Write", err, api.ErrRange)
		if text != "" {
			t.Errorf("Write(%v): answered %q", l, text)
		}
		for _, other := range []api.Label{{}, {Level: 7, Set: 255}, l} {
			holdWrong(t, l, other)
			holdWrong(t, other, l)
		}
	}
}

func holdWrong(t *testing.T, a, b api.Label) {
	t.Helper()
	is, err := Below(a, b)
	told(t, "Below", err, api.ErrRange)
	join, err := Join(a, b)
	told(t, "Join", err, api.ErrRange)
	meet, err := Meet(a, b)
	told(t, "Meet", err, api.ErrRange)
	if is || join != (api.Label{}) || meet != (api.Label{}) {
		t.Errorf("%v, %v: answered %v %v %v", a, b, is, join, meet)
	}
}

func TestOfTwo(t *testing.T) {
	for _, c := range []struct {
		name             string
		a, b, join, meet string
		below            bool
	}{
		{"the same", "3bd", "3bd", "3bd", "3bd", true},
		{"the least and the greatest", "0", "7abcdefgh", "7abcdefgh", "0", true},
		{"the greatest and the least", "7abcdefgh", "0", "7abcdefgh", "0", false},
		{"a lesser level", "2a", "3a", "3a", "2a", true},
		{"a greater level", "3a", "2a", "3a", "2a", false},
		{"fewer letters", "2a", "2ah", "2ah", "2a", true},
		{"more letters", "2ah", "2a", "2ah", "2a", false},
		{"a lesser level, and more letters", "1abc", "4b", "4abc", "1b", false},
		{"a greater level, and fewer letters", "4b", "1abc", "4abc", "1b", false},
		{"other letters", "5ab", "5bc", "5abc", "5b", false},
		{"a lesser level, and other letters", "0g", "6h", "6gh", "0", false},
	} {
		a, b := parsed(t, c.a), parsed(t, c.b)
		is, err := Below(a, b)
		if is != c.below || err != nil {
			t.Errorf("%s: Below: got %v, %v", c.name, is, err)
		}
		join, err := Join(a, b)
		if join != parsed(t, c.join) || err != nil {
			t.Errorf("%s: Join: got %v, %v, want %s", c.name, join, err, c.join)
		}
		meet, err := Meet(a, b)
		if meet != parsed(t, c.meet) || err != nil {
			t.Errorf("%s: Meet: got %v, %v, want %s", c.name, meet, err, c.meet)
		}
	}
}

func parsed(t *testing.T, s string) api.Label {
	t.Helper()
	l, err := Parse(s)
	if err != nil {
		t.Fatalf("Parse(%q): got %v", s, err)
	}
	return l
}

// TestAllPairs holds all labels against each other as the words of 3.1 say it, a letter at a time.
func TestAllPairs(t *testing.T) {
	all := right()
	for _, a := range all {
		for _, b := range all {
			holdPair(t, a, b)
		}
	}
}

func holdPair(t *testing.T, a, b api.Label) {
	below, wantJoin, wantMeet := true, a, b
	if a.Level > b.Level {
		below = false
	} else {
		wantJoin, wantMeet = b, a
	}
	wantJoin.Set, wantMeet.Set = 0, 0
	for worth := 1; worth < 256; worth *= 2 {
		inA, inB := a.Set/worth%2 == 1, b.Set/worth%2 == 1
		if inA && !inB {
			below = false
		}
		if inA || inB {
			wantJoin.Set += worth
		}
		if inA && inB {
			wantMeet.Set += worth
		}
	}
	if is, err := Below(a, b); is != below || err != nil {
		t.Fatalf("Below(%v, %v): got %v, %v", a, b, is, err)
	}
	if join, err := Join(a, b); join != wantJoin || err != nil {
		t.Fatalf("Join(%v, %v): got %v, %v, want %v", a, b, join, err, wantJoin)
	}
	if meet, err := Meet(a, b); meet != wantMeet || err != nil {
		t.Fatalf("Meet(%v, %v): got %v, %v, want %v", a, b, meet, err, wantMeet)
	}
}

func TestWriteAndParse(t *testing.T) {
	for _, c := range []struct {
		l    api.Label
		text string
	}{
		{api.Label{}, "0"},
		{api.Label{Level: 7}, "7"},
		{api.Label{Set: 1}, "0a"},
		{api.Label{Set: 128}, "0h"},
		{api.Label{Level: 1, Set: 129}, "1ah"},
		{api.Label{Level: 3, Set: 200}, "3dgh"},
		{api.Label{Level: 7, Set: 255}, "7abcdefgh"},
	} {
		text, err := Write(c.l)
		if text != c.text || err != nil {
			t.Errorf("Write(%v): got %q, %v, want %q", c.l, text, err, c.text)
		}
		l, err := Parse(c.text)
		if l != c.l || err != nil {
			t.Errorf("Parse(%q): got %v, %v, want %v", c.text, l, err, c.l)
		}
	}
}

// written gives the labels by the texts that 3.2 asks for, made letter by letter.
func written() map[string]api.Label {
	texts := map[string]api.Label{}
	for _, l := range right() {
		text := "01234567"[l.Level : l.Level+1]
		left := l.Set
		for _, letter := range strings.Split("abcdefgh", "") {
			if left%2 == 1 {
				text += letter
			}
			left /= 2
		}
		texts[text] = l
	}
	return texts
}

// TestAllWritten: each label has a text of its own, and comes back from it.
func TestAllWritten(t *testing.T) {
	texts := written()
	if len(texts) != 2048 {
		t.Fatalf("%d texts", len(texts))
	}
	for want, l := range texts {
		if text, err := Write(l); text != want || err != nil {
			t.Errorf("Write(%v): got %q, %v, want %q", l, text, err, want)
		}
		holdParse(t, texts, want)
	}
}

// holdParse: what is no text of a label is refused, with no answer beside it.
func holdParse(t *testing.T, texts map[string]api.Label, s string) {
	t.Helper()
	want, ok := texts[s]
	wantErr := api.ErrSyntax
	if ok {
		wantErr = api.OK
	}
	if l, err := Parse(s); l != want || plain.Told(err) != wantErr {
		t.Errorf("Parse(%q): got %v, %v, want %v, %v", s, l, err, want, wantErr)
	}
}

func TestParseWrong(t *testing.T) {
	for _, s := range []string{
		"", " ", "a", "abc", "8", "9", "/", ":", "8a", "-1", "+1", "00", "07", "10", "1 ", " 1", "1\n", "1\x00",
		"3i", "3`", "3A", "3H", "3a ", "3 a", "3aa", "3aab", "3abb", "3ba", "3hg", "3aca", "3a3", "a3", "3a,b",
		"\xff", "3\xff", "3\x80", "3\u00e9", "3\uff41", "\uff13", "\xb0", "3\xe1", "7abcdefghi", "7abcdefgha", "7abcdefghh",
		"7abcdefgh7abcdefgh", strings.Repeat("a", 100_000), "0" + strings.Repeat("h", 100_000), strings.Repeat("0", 100_000),
	} {
		l, err := Parse(s)
		if l != (api.Label{}) || plain.Told(err) != api.ErrSyntax {
			t.Errorf("Parse(%.20q): got %v, %v", s, l, err)
		}
	}
}

// TestParseAllShort: all texts of up to two bytes, and all of up to five signs that nearly make a label.
func TestParseAllShort(t *testing.T) {
	texts := written()
	for first := range 256 {
		holdParse(t, texts, string([]byte{byte(first)}))
		for second := range 256 {
			holdParse(t, texts, string([]byte{byte(first), byte(second)}))
		}
	}
	var longer func(s string)
	longer = func(s string) {
		holdParse(t, texts, s)
		if len(s) == 5 {
			return
		}
		for _, sign := range strings.Split("078`abcghi", "") {
			longer(s + sign)
		}
	}
	longer("")
}
