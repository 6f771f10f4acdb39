package value

import (
	"slices"
	"strings"

	"cirrus/api"
)

// Parse returns the value that s denotes; ErrParse if it denotes no valid one.
func Parse(s string) (v api.Value, e api.Errno) {
	defer func() {
		if recover() != nil {
			v, e = api.Value{}, api.ErrParse
		}
	}()
	p := &parser{text: s}
	v = p.value(1)
	p.blanks()
	p.must(p.at == len(p.text))
	return v, api.OK
}

// parser reads a text. Its methods report what they cannot read by a panic, so that
// those that read nested values have no errors to pass on.
type parser struct {
	text  string
	at    int // the next byte
	nodes int // the values begun so far
}

func (p *parser) must(ok bool) {
	if !ok {
		panic(api.ErrParse)
	}
}

// value reads a value that lies at that depth.
func (p *parser) value(depth int) api.Value {
	p.nodes++
	p.must(p.nodes <= api.MaxNodes && depth <= api.MaxDepth)
	p.blanks()
	p.must(p.at < len(p.text))
	switch p.text[p.at] {
	case '[':
		return p.list(depth)
	case '{':
		return p.object(depth)
	case '"':
		return api.Value{Kind: api.KText, Text: p.quoted()}
	case 'n', 'f', 't':
		return p.name()
	}
	return p.number()
}

func (p *parser) list(depth int) api.Value {
	v := api.Value{Kind: api.KList}
	p.series('[', ']', func() {
		item := p.value(depth + 1)
		v.Items = append(v.Items, item)
	})
	return v
}

func (p *parser) object(depth int) api.Value {
	v := api.Value{Kind: api.KObject}
	p.series('{', '}', func() {
		p.blanks()
		key := p.quoted()
		p.must(p.accept(':'))
		item := p.value(depth + 1)
		i, there := slices.BinarySearch(v.Keys, key)
		p.must(!there)
		v.Keys = slices.Insert(v.Keys, i, key)
		v.Items = slices.Insert(v.Items, i, item)
	})
	return v
}

// series reads what item reads, any number of times, with commas between.
func (p *parser) series(open, end byte, item func()) {
	p.must(p.accept(open))
	if p.accept(end) {
		return
	}
	item()
	for p.accept(',') {
		item()
	}
	p.must(p.accept(end))
}

// quoted reads a string in quotes, which begins at the next byte.
func (p *parser) quoted() string {
	p.must(p.next() == '"')
	var text []byte
	for c := p.next(); c != '"'; c = p.next() {
		if c == '\\' {
			c = p.next()
			p.must(c == '"' || c == '\\')
		}
		p.must(visible(c) && len(text) < api.MaxText)
		text = append(text, c)
	}
	return string(text)
}

func (p *parser) number() api.Value {
	negative := p.accept('-')
	start, n := p.at, 0
	for p.at < len(p.text) && digit(p.text[p.at]) {
		n = 10*n + int(p.text[p.at]-'0')
		p.must(within(n))
		p.at++
	}
	p.must(p.at > start)
	if p.text[start] == '0' {
		p.must(p.at == start+1 && !negative)
	}
	if negative {
		n = -n
	}
	return api.Value{Kind: api.KInt, Int: n}
}

func (p *parser) name() api.Value {
	switch {
	case p.acceptName("null"):
		return api.Value{}
	case p.acceptName("false"):
		return api.Value{Kind: api.KTruth}
	}
	p.must(p.acceptName("true"))
	return api.Value{Kind: api.KTruth, Int: 1}
}

func (p *parser) acceptName(name string) bool {
	there := strings.HasPrefix(p.text[p.at:], name)
	if there {
		p.at += len(name)
	}
	return there
}

// accept passes blanks and, if it comes next, c; it reports whether c came.
func (p *parser) accept(c byte) bool {
	p.blanks()
	there := p.at < len(p.text) && p.text[p.at] == c
	if there {
		p.at++
	}
	return there
}

func (p *parser) blanks() {
	for p.at < len(p.text) && p.text[p.at] == ' ' {
		p.at++
	}
}

// next reads one byte.
func (p *parser) next() byte {
	p.must(p.at < len(p.text))
	c := p.text[p.at]
	p.at++
	return c
}
