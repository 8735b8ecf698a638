package worlddb

import (
	"slices"

	"lychgate/api"
)

// mostRows is how many rows a list has that api has no limit for.
const mostRows = 60

// Check tells what tables are not as they must be.
func Check(db *api.Db) error {
	switch {
	case db == nil || !areTables(db):
		return api.ErrLine
	case !isClosed(db):
		return api.ErrNotFound
	}
	return nil
}

// areTables tells whether the lists rise, aren't too long, and have right rows,
// whatever these name.
func areTables(db *api.Db) bool {
	return len(db.Rooms) > 0 &&
		isTable(db.Rooms, api.MaxRooms, roomId, isRoom) &&
		isTable(db.Protos, api.MaxProtos, protoId, isProto) &&
		isTable(db.Mobs, mostRows, mobId, isMob) &&
		isTable(db.Recipes, mostRows, recipeId, isSortedRecipe) &&
		isTable(db.Quests, mostRows, questId, isQuest) &&
		isTable(db.Shops, mostRows, shopId, isSortedShop)
}

func isTable[T any](l []T, most int, idOf func(row T) int, isRow func(row T) bool) bool {
	return len(l) <= most && all(l, isRow) && rises(l, idOf)
}

// rises tells whether the numbers in l rise, and none comes twice.
func rises[T any](l []T, idOf func(row T) int) bool {
	for i := 1; i < len(l); i++ {
		if idOf(l[i-1]) >= idOf(l[i]) {
			return false
		}
	}
	return true
}

// isSortedRecipe lets equal needs stand beside one another: a thing may be
// needed several times.
func isSortedRecipe(r api.Recipe) bool {
	return isRecipe(r) && slices.IsSorted(r.Needs)
}

// isSortedShop lets no equal items stand beside one another: nothing is for sale
// twice.
func isSortedShop(s api.Shop) bool {
	return isShop(s) && rises(s.Items, func(id int) int { return id })
}

// isClosed tells whether all is there that the tables name.
func isClosed(db *api.Db) bool {
	return all(db.Rooms, func(r api.Room) bool { return hasExits(db, r) }) &&
		all(db.Mobs, func(m api.MobProto) bool { return hasRoom(db, m.Home) }) &&
		all(db.Recipes, func(r api.Recipe) bool { return hasProto(db, r.Out) && hasProtos(db, r.Needs) }) &&
		all(db.Quests, func(q api.Quest) bool { return hasQuest(db, q) }) &&
		all(db.Shops, func(s api.Shop) bool { return hasShop(db, s) })
}

func hasExits(db *api.Db, r api.Room) bool {
	return all(r.Exits[:], func(exit int) bool { return exit == 0 || hasRoom(db, exit) })
}

func hasQuest(db *api.Db, q api.Quest) bool {
	return hasProto(db, q.Item) && (q.Reward == 0 || hasProto(db, q.Reward))
}

func hasShop(db *api.Db, s api.Shop) bool {
	r, ok := Room(db, s.Room)
	return ok && r.Kind == api.RShop && hasProtos(db, s.Items)
}

func hasRoom(db *api.Db, id int) bool {
	_, ok := Room(db, id)
	return ok
}

func hasProto(db *api.Db, id int) bool {
	_, ok := Proto(db, id)
	return ok
}

func hasProtos(db *api.Db, ids []int) bool {
	return all(ids, func(id int) bool { return hasProto(db, id) })
}
