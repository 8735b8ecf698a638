package worlddb

import (
	"cmp"
	"slices"
	"strings"

	"lychgate/api"
	"lychgate/lines"
)

// Parse answers the tables that a file describes.
func Parse(text string) (*api.Db, error) {
	db := &api.Db{}
	for i, line := range lines.Lines(text) {
		if !addLine(db, line) {
			return nil, &LineError{Line: i + 1, Err: api.ErrLine}
		}
	}
	sortTables(db)
	if err := Check(db); err != nil {
		return nil, err
	}
	return db, nil
}

// addLine adds to the tables what a line says. False: it is no line.
func addLine(db *api.Db, line string) bool {
	words := lines.Words(line)
	if len(words) == 0 || strings.HasPrefix(line, "#") {
		return true
	}
	r := &reader{words: words[1:]}
	switch words[0] {
	case "room":
		return addRow(&db.Rooms, r, readRoom, isRoom)
	case "item":
		return addRow(&db.Protos, r, readProto, isProto)
	case "mob":
		return addRow(&db.Mobs, r, readMob, isMob)
	case "recipe":
		return addRow(&db.Recipes, r, readRecipe, isRecipe)
	case "quest":
		return addRow(&db.Quests, r, readQuest, isQuest)
	case "shop":
		return addRow(&db.Shops, r, readShop, isShop)
	}
	return false
}

// addRow adds a row to a list. False: it is none, or there are words behind it.
func addRow[T any](l *[]T, r *reader, read func(r *reader) T, isRow func(x T) bool) bool {
	x := read(r)
	if len(r.words) > 0 || !isRow(x) {
		return false
	}
	*l = append(*l, x)
	return true
}

// reader takes a line's words from the front. For a word that is not what is
// asked, or lacks, it answers what no right row has: an empty text, or -1.
type reader struct {
	words []string
}

func (r *reader) word() string {
	if len(r.words) == 0 {
		return ""
	}
	w := r.words[0]
	r.words = r.words[1:]
	return w
}

// name takes a name, as memory of its own, lest it keep the whole file.
func (r *reader) name() string {
	return strings.Clone(r.word())
}

func (r *reader) number() int64 {
	n, ok := lines.Number(r.word())
	if !ok {
		return -1
	}
	return n
}

func (r *reader) id() int {
	return int(r.number())
}

// ids takes all words that are left.
func (r *reader) ids() []int {
	var l []int
	for len(r.words) > 0 {
		l = append(l, r.id())
	}
	return l
}

func (r *reader) kind() int {
	return slices.Index([]string{
		api.RPlain: "plain", api.RShop: "shop", api.RBank: "bank",
		api.RForge: "forge", api.RHouse: "house", api.RHall: "hall",
	}, r.word())
}

func (r *reader) slot() int {
	return slices.Index([]string{api.SNone: "none", api.SWield: "wield", api.SBody: "body"}, r.word())
}

func readRoom(r *reader) api.Room {
	x := api.Room{Id: r.id(), Name: r.name(), Kind: r.kind(), Price: r.number()}
	for i := range x.Exits {
		x.Exits[i] = r.id()
	}
	return x
}

func readProto(r *reader) api.Proto {
	return api.Proto{Id: r.id(), Name: r.name(), Slot: r.slot(), Power: r.number(), Price: r.number()}
}

func readMob(r *reader) api.MobProto {
	return api.MobProto{
		Id: r.id(), Name: r.name(), Home: r.id(),
		Hp: r.number(), Power: r.number(), Xp: r.number(), Gold: r.number(),
	}
}

func readRecipe(r *reader) api.Recipe {
	return api.Recipe{Out: r.id(), Needs: r.ids()}
}

func readQuest(r *reader) api.Quest {
	return api.Quest{Id: r.id(), Item: r.id(), Count: r.id(), Gold: r.number(), Reward: r.id()}
}

func readShop(r *reader) api.Shop {
	return api.Shop{Room: r.id(), Till: r.number(), Items: r.ids()}
}

// sortTables makes all lists rise, as lines may come in any order.
func sortTables(db *api.Db) {
	sortBy(db.Rooms, roomId)
	sortBy(db.Protos, protoId)
	sortBy(db.Mobs, mobId)
	sortBy(db.Recipes, recipeId)
	sortBy(db.Quests, questId)
	sortBy(db.Shops, shopId)
	for _, r := range db.Recipes {
		slices.Sort(r.Needs)
	}
	for _, s := range db.Shops {
		slices.Sort(s.Items)
	}
}

func sortBy[T any](l []T, idOf func(row T) int) {
	slices.SortFunc(l, func(a, b T) int { return cmp.Compare(idOf(a), idOf(b)) })
}
