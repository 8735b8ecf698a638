package render

import (
	"strings"

	"lychgate/api"
	"lychgate/worlddb"
)

// tell makes texts lines to one character.
func tell(name string, texts ...string) []api.Say {
	var l []api.Say
	for _, text := range texts {
		l = append(l, api.Say{To: name, Text: text})
	}
	return l
}

// exits answers the line that tells where a room leads on.
func exits(r api.Room) string {
	words := []string{"Exits:"}
	for d, to := range r.Exits {
		if to != 0 {
			words = append(words, Dir(d))
		}
	}
	if len(words) == 1 {
		words = append(words, "none")
	}
	return strings.Join(words, " ")
}

// thing answers the name of t's kind.
func thing(db *api.Db, t api.Thing) string {
	p, _ := worlddb.Proto(db, t.Proto)
	return p.Name
}

// mob answers the name of m's kind.
func mob(db *api.Db, m api.Mob) string {
	p, _ := worlddb.Mob(db, m.Proto)
	return p.Name
}

// great answers a character's name as it stands in texts, with a great letter
// ahead. It goes by bytes, so that a name that is no UTF-8 stays as it is.
func great(name string) string {
	if name == "" || name[0] < 'a' || name[0] > 'z' {
		return name
	}
	return string(name[0]-'a'+'A') + name[1:]
}
