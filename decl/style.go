package decl

import "quoin/api"

// What of Initial isn't its zero value.
const (
	inline      = 1
	stretch     = 3
	initialLine = 1280
)

// Initial answers what an element has of which nothing is told.
func Initial() api.Style {
	none := api.Len{Kind: api.LFix}
	return api.Style{
		Display: inline,
		Items:   stretch,
		MinW:    none,
		MinH:    none,
		Margin:  [4]api.Len{none, none, none, none},
		Shrink:  1,
		Line:    initialLine,
	}
}

// Style answers base with each of l, that Parse could tell, laid over it.
func Style(base api.Style, l []api.Decl) api.Style {
	for _, d := range l {
		if f := formOf(d.Prop); f != nil && f.has(d) {
			lay(&base, d)
		}
	}
	return base
}

func lay(s *api.Style, d api.Decl) {
	switch d.Prop {
	case display:
		s.Display = d.Word
	case flexDirection:
		s.Dir = d.Word
	case flexWrap:
		s.Wrap = d.Word
	case flexGrow:
		s.Grow = d.Word
	case flexShrink:
		s.Shrink = d.Word
	case order:
		s.Order = d.Word
	case justifyContent:
		s.Justify = d.Word
	case alignItems:
		s.Items = d.Word
	case alignSelf:
		s.Self = d.Word
	case textAlign:
		s.Align = d.Word
	case whiteSpace:
		s.White = d.Word
	case overflow:
		s.Over = d.Word
	default:
		layLength(s, d.Prop, d.Len)
	}
}

func layLength(s *api.Style, prop int, n api.Len) {
	switch prop {
	case width:
		s.Width = n
	case height:
		s.Height = n
	case minWidth:
		s.MinW = n
	case minHeight:
		s.MinH = n
	case maxWidth:
		s.MaxW = n
	case maxHeight:
		s.MaxH = n
	case marginTop, marginRight, marginBottom, marginLeft:
		s.Margin[prop-marginTop] = n
	case paddingTop, paddingRight, paddingBottom, paddingLeft:
		s.Pad[prop-paddingTop] = n.N
	case borderTop, borderRight, borderBottom, borderLeft:
		s.Border[prop-borderTop] = n.N
	case flexBasis:
		s.Basis = n
	case lineHeight:
		s.Line = n.N
	}
}
