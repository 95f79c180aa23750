package decl

import (
	"slices"
	"strings"
)

// The properties, by the numbers that a Decl's Prop has.
const (
	display = iota + 1
	width
	height
	minWidth
	minHeight
	maxWidth
	maxHeight
	marginTop
	marginRight
	marginBottom
	marginLeft
	paddingTop
	paddingRight
	paddingBottom
	paddingLeft
	borderTop
	borderRight
	borderBottom
	borderLeft
	flexDirection
	flexWrap
	flexBasis
	flexGrow
	flexShrink
	order
	justifyContent
	alignItems
	alignSelf
	textAlign
	whiteSpace
	lineHeight
	overflow
)

// names is what the properties are called, in the order of their numbers.
const names = "display width height min-width min-height max-width max-height " +
	"margin-top margin-right margin-bottom margin-left " +
	"padding-top padding-right padding-bottom padding-left " +
	"border-top border-right border-bottom border-left " +
	"flex-direction flex-wrap flex-basis flex-grow flex-shrink order " +
	"justify-content align-items align-self text-align white-space " +
	"line-height overflow"

// propOf answers the property of that name, or 0.
func propOf(name string) int {
	return slices.Index(strings.Fields(names), name) + 1
}

// nameOf answers what a property is called; prop must be one.
func nameOf(prop int) string {
	return strings.Fields(names)[prop-1]
}

// formOf answers what values a property has; nil where prop is none.
func formOf(prop int) form {
	switch prop {
	case display:
		return words{"block", "inline", "flex", "none"}
	case flexDirection:
		return words{"row", "row-reverse", "column", "column-reverse"}
	case flexWrap:
		return words{"nowrap", "wrap", "wrap-reverse"}
	case flexGrow, flexShrink:
		return whole{least: 0, most: 100}
	case order:
		return whole{least: -1000, most: 1000}
	case justifyContent:
		return words{"start", "end", "center", "between", "around"}
	case alignItems:
		return words{"start", "end", "center", "stretch"}
	case alignSelf:
		return words{"auto", "start", "end", "center", "stretch"}
	case textAlign:
		return words{"left", "right", "center"}
	case whiteSpace:
		return words{"normal", "nowrap", "pre"}
	case overflow:
		return words{"visible", "hidden"}
	}
	if prop < display || prop > overflow {
		return nil
	}
	return lengthOf(prop)
}

// lengthOf answers what lengths one of the other properties has: from what a
// margin has, the narrower ones take away.
func lengthOf(prop int) length {
	f := length{auto: "auto", percent: true, minus: true}
	switch prop {
	case paddingTop, paddingRight, paddingBottom, paddingLeft,
		borderTop, borderRight, borderBottom, borderLeft, lineHeight:
		f.percent = false
		fallthrough
	case minWidth, minHeight:
		f.auto = ""
		fallthrough
	case width, height, flexBasis:
		f.minus = false
	case maxWidth, maxHeight:
		f.auto = "none"
		f.minus = false
	}
	return f
}
