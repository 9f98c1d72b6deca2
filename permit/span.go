package permit

import "fenberry/api"

// end takes one end of a span.
type end func(s api.Span) int

// ends returns what takes the least and the greatest of a span.
func ends() (low, high end) {
	return func(s api.Span) int { return s.Lo }, func(s api.Span) int { return s.Hi }
}
