package decl

import "quoin/api"

// reader is a text, and where in it what is not yet read begins.
type reader struct {
	s  string
	at int
}

// declaration reads one; beside an error it answers where that is.
func (r *reader) declaration() (api.Decl, int, api.Errno) {
	nameAt := r.at
	name := r.row(inName)
	if name == "" || !r.sign(':') {
		return api.Decl{}, r.at, api.ErrSyntax
	}
	valueAt := r.at
	value := r.row(inValue)
	if value == "" {
		return api.Decl{}, r.at, api.ErrSyntax
	}
	prop := propOf(name)
	f := formOf(prop)
	if f == nil {
		return api.Decl{}, nameAt, api.ErrName
	}
	d, ok := f.read(value)
	if !ok {
		return api.Decl{}, valueAt, api.ErrValue
	}
	d.Prop = prop
	return d, 0, api.OK
}

func (r *reader) ended() bool {
	return r.at == len(r.s)
}

// sign reads c, if it is next, with the blanks around it.
func (r *reader) sign(c byte) bool {
	r.blanks()
	if r.ended() || r.s[r.at] != c {
		return false
	}
	r.at++
	r.blanks()
	return true
}

func (r *reader) blanks() {
	r.row(isBlank)
}

// row reads as many bytes as are of one sort, perhaps none.
func (r *reader) row(of func(c byte) bool) string {
	from := r.at
	for !r.ended() && of(r.s[r.at]) {
		r.at++
	}
	return r.s[from:r.at]
}

func isBlank(c byte) bool {
	return c == ' ' || c == '\t' || c == '\n'
}

func inName(c byte) bool {
	return 'a' <= c && c <= 'z' || c == '-'
}

func inValue(c byte) bool {
	return inName(c) || isDigit(c) || c == '.' || c == '%'
}

func isDigit(c byte) bool {
	return '0' <= c && c <= '9'
}
