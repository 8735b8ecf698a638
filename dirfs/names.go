package dirfs

import (
	"strings"

	"lychgate/api"
)

const stroke = "/"

// May tells whether an entry may have that name.
func May(name string) bool {
	if name == "" || len(name) > api.MaxName || name == "." || name == ".." {
		return false
	}
	for i := range len(name) {
		if !letter(name[i]) {
			return false
		}
	}
	return true
}

// letter tells whether c may stand in a name.
func letter(c byte) bool {
	return 'a' <= c && c <= 'z' || '0' <= c && c <= '9' || c == '.' || c == '-' || c == '_'
}

// Split answers the names of a path.
func Split(path string) ([]string, error) {
	rest, ok := strings.CutPrefix(path, stroke)
	if !ok {
		return nil, api.ErrName
	}
	if rest == "" {
		return nil, nil
	}
	// One more than may be is enough to know that there are too many.
	l := strings.SplitN(rest, stroke, api.MaxDepth+1)
	if len(l) > api.MaxDepth {
		return nil, api.ErrName
	}
	for _, name := range l {
		if !May(name) {
			return nil, api.ErrName
		}
	}
	return l, nil
}
