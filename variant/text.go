package variant

import (
	"strconv"
	"strings"

	"cirrus/api"
	"cirrus/value"
)

// PathText returns the textual form of p.
func PathText(p []api.Step) (string, api.Errno) {
	if !Valid(p) {
		return "", api.ErrForm
	}
	s := "$"
	for _, step := range p {
		s += stepText(step)
	}
	return s, api.OK
}

// ParsePath returns the path whose textual form is s; ErrParse if there is none.
func ParsePath(s string) ([]api.Step, api.Errno) {
	p, ok := readPath(s)
	if !ok {
		return nil, api.ErrParse
	}
	// The reading is lenient: that s is exactly the path's textual form is seen only here.
	if made, e := PathText(p); e != api.OK || made != s {
		return nil, api.ErrParse
	}
	return p, api.OK
}

// stepText returns the textual form of a valid step.
func stepText(s api.Step) string {
	if s.Index >= 0 {
		return "[" + strconv.Itoa(s.Index) + "]"
	}
	if value.Word(s.Key) {
		return "." + s.Key
	}
	quoted, _ := value.Text(text(s.Key))
	return "[" + quoted + "]"
}

// readPath returns a path whose textual form is s, if there is one; otherwise any path, or false.
func readPath(s string) ([]api.Step, bool) {
	rest, ok := strings.CutPrefix(s, "$")
	if !ok {
		return nil, false
	}
	var p []api.Step
	for rest != "" {
		n := stepEnd(rest)
		step, ok := readStep(rest[:n])
		if !ok {
			return nil, false
		}
		p = append(p, step)
		rest = rest[n:]
	}
	return p, true
}

// stepEnd returns how many bytes of s, which is not empty, belong to its first step: those before the next `.` or `[` outside of quotes.
func stepEnd(s string) int {
	quoted := false
	for i := 1; i < len(s); i++ {
		switch {
		case s[i] == '"':
			quoted = !quoted
		case quoted && s[i] == '\\':
			i++
		case !quoted && (s[i] == '.' || s[i] == '['):
			return i
		}
	}
	return len(s)
}

// readStep returns the step that s, which is not empty, is the textual form of, if there is one; otherwise any step, or false.
func readStep(s string) (api.Step, bool) {
	if s[0] == '.' {
		return stepOf(s[1:]), true
	}
	inner, ok := strings.CutSuffix(s[1:], "]")
	if !ok {
		return api.Step{}, false
	}
	v, e := value.Parse(inner)
	if e != api.OK {
		return api.Step{}, false
	}
	switch v.Kind {
	case api.KText:
		return stepOf(v.Text), true
	case api.KInt:
		return api.Step{Index: v.Int}, true
	}
	return api.Step{}, false
}
