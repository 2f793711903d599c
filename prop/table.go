package prop

// The forms that several longhands have.
const (
	flow   = "visible|hidden|clip|scroll|auto"
	size   = "auto|<len+>|<pct+>"
	most   = "none|<len+>|<pct+>"
	offset = "auto|<len>|<pct>"
	amount = "<len+>|<pct+>"
	thick  = "thin|medium|thick|<len+>"
	line   = "none|hidden|dotted|dashed|solid|double"
	edge   = "currentcolor|transparent|<color>"
)

// longhands: the table is greater than one at package level may be, so it is a literal within a function, and an array, so that each who asks has their own.
func longhands() [48]Prop {
	return [...]Prop{
		{"display", "inline", false, "block|inline|inline-block|flex|grid|none|contents|table"},
		{"position", "static", false, "static|relative|absolute|fixed|sticky"},
		{"float", "none", false, "left|right|none"},
		{"clear", "none", false, "left|right|both|none"},
		{"visibility", "visible", true, "visible|hidden|collapse"},
		{"overflow-x", "visible", false, flow},
		{"overflow-y", "visible", false, flow},
		{"box-sizing", "content-box", false, "content-box|border-box"},
		{"width", "auto", false, size},
		{"height", "auto", false, size},
		{"min-width", "auto", false, size},
		{"min-height", "auto", false, size},
		{"max-width", "none", false, most},
		{"max-height", "none", false, most},
		{"margin-top", "0px", false, offset},
		{"margin-right", "0px", false, offset},
		{"margin-bottom", "0px", false, offset},
		{"margin-left", "0px", false, offset},
		{"padding-top", "0px", false, amount},
		{"padding-right", "0px", false, amount},
		{"padding-bottom", "0px", false, amount},
		{"padding-left", "0px", false, amount},
		{"border-top-width", "medium", false, thick},
		{"border-right-width", "medium", false, thick},
		{"border-bottom-width", "medium", false, thick},
		{"border-left-width", "medium", false, thick},
		{"border-top-style", "none", false, line},
		{"border-right-style", "none", false, line},
		{"border-bottom-style", "none", false, line},
		{"border-left-style", "none", false, line},
		{"border-top-color", "currentcolor", false, edge},
		{"border-right-color", "currentcolor", false, edge},
		{"border-bottom-color", "currentcolor", false, edge},
		{"border-left-color", "currentcolor", false, edge},
		{"top", "auto", false, offset},
		{"right", "auto", false, offset},
		{"bottom", "auto", false, offset},
		{"left", "auto", false, offset},
		{"color", "#000000", true, "<color>"},
		{"background-color", "transparent", false, "transparent|currentcolor|<color>"},
		{"font-size", "16px", true, amount},
		{"font-weight", "normal", true, "normal|bold|<int+>"},
		{"line-height", "normal", true, "normal|<int+>|<len+>|<pct+>"},
		{"text-align", "start", true, "start|end|left|right|center|justify"},
		{"white-space", "normal", true, "normal|nowrap|pre|pre-wrap"},
		{"direction", "ltr", true, "ltr|rtl"},
		{"order", "0", false, "<int>"},
		{"z-index", "auto", false, "auto|<int>"},
	}
}

// eachLonghand: each longhand behind its place, to be ranged over till the one that is looked for.
func eachLonghand(yield func(int, Prop) bool) {
	for place, p := range longhands() {
		if !yield(place, p) {
			return
		}
	}
}
