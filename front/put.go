package front

import (
	"strconv"

	"bastion/api"
	"bastion/csp"
	"bastion/tables"
	"bastion/url"
)

// put puts what a word says where it belongs, and tells whether it is a word that may stand there.
type put func(word string) bool

// most is the greatest number that may stand in a line; below 0 they go as far.
const most = 1 << 62

// number puts a number.
func number(to *int) put {
	return func(word string) bool {
		n, bad := strconv.Atoi(word)
		*to = n
		// Nothing else is a number than what would be written for it.
		return bad == nil && strconv.Itoa(n) == word && -most <= n && n <= most
	}
}

// flags puts flags.
func flags(to *api.Flags) put {
	return func(word string) bool {
		n := 0
		is := number(&n)(word)
		*to = api.Flags(n)
		return is && 0 <= n && n <= int(api.FlagAll)
	}
}

// mark puts that its name stands there.
func mark(to *bool) put {
	return func(string) bool {
		*to = true
		return true
	}
}

// text puts the text whose word it is.
func text(to *string) put {
	return func(word string) bool {
		s, is := Unword(word)
		*to = s
		return is
	}
}

// parsed puts what the text is read as whose word it is.
func parsed[T any](to *T, parse func(string) (T, api.Errno)) put {
	return func(word string) bool {
		s, is := Unword(word)
		x, why := parse(s)
		*to = x
		return is && why == api.OK
	}
}

// sure is a reading that has no error.
func sure[T any](parse func(string) T) func(string) (T, api.Errno) {
	return func(s string) (T, api.Errno) { return parse(s), api.OK }
}

// address puts a URL.
func address(to *api.Url) put {
	return parsed(to, func(s string) (api.Url, api.Errno) {
		return url.Parse(tables.Plain(), s, api.Url{}, false)
	})
}

// policy puts a policy behind others.
func policy(to *[]api.Policy, report bool) put {
	var p api.Policy
	next := parsed(&p, func(s string) (api.Policy, api.Errno) { return csp.Parse(s, report) })
	return func(word string) bool {
		is := next(word)
		*to = append(*to, p)
		return is
	}
}
