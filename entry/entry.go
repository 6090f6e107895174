// Package entry: entries, and their bytes.
package entry

import (
	"strings"

	"tidegate/api"
)

// lead: bytes of an entry ahead of its key: gone?, how long its key and its value are.
const lead = 3

// Check an entry.
func Check(e api.Entry) error {
	if e.Key == "" || e.Gone && e.Val != "" {
		return api.ErrShape
	}
	if len(e.Key) > api.MaxKey || len(e.Val) > api.MaxVal {
		return api.ErrMany
	}
	return nil
}

// Bytes of entries that may be: how many, then of each: gone?, how long key and value are, these.
func Bytes(l []api.Entry) (string, error) {
	size := 1
	for _, e := range l {
		if err := Check(e); err != nil {
			return "", err
		}
		size += lead + len(e.Key) + len(e.Val)
	}
	// What fits a page is so few entries that their number fits its byte.
	if size > api.Page {
		return "", api.ErrMany
	}
	out := make([]byte, 0, size)
	out = append(out, byte(len(l)))
	for _, e := range l {
		out = append(out, goneByte(e.Gone), byte(len(e.Key)), byte(len(e.Val)))
		out = append(out, e.Key...)
		out = append(out, e.Val...)
	}
	return string(out), nil
}

func goneByte(gone bool) byte {
	if gone {
		return 1
	}
	return 0
}

// Parse entries of a page: what is behind them is nothing.
func Parse(s string) ([]api.Entry, error) {
	if s == "" {
		return nil, api.ErrText
	}
	many, rest := int(s[0]), s[1:]
	l := make([]api.Entry, 0, many)
	for range many {
		e, size, ok := first(rest)
		if !ok {
			return nil, api.ErrText
		}
		l = append(l, e)
		rest = rest[size:]
	}
	if !blank(rest) {
		return nil, api.ErrText
	}
	return l, nil
}

// first entry that a text begins with, and how many bytes it takes; false: it begins with none that may be.
func first(s string) (api.Entry, int, bool) {
	if len(s) < lead || s[0] > 1 {
		return api.Entry{}, 0, false
	}
	val := lead + int(s[1])
	end := val + int(s[2])
	if len(s) < end {
		return api.Entry{}, 0, false
	}
	// Copies: an entry that is kept must not hold on to the whole text.
	e := api.Entry{Key: strings.Clone(s[lead:val]), Val: strings.Clone(s[val:end]), Gone: s[0] == 1}
	if Check(e) != nil {
		return api.Entry{}, 0, false
	}
	return e, end, true
}

// blank: are all bytes 0?
func blank(s string) bool {
	for i := range len(s) {
		if s[i] != 0 {
			return false
		}
	}
	return true
}
