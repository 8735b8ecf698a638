package worlddb

import (
	"lychgate/api"
	"lychgate/lines"
)

const (
	mostId    = 1000
	mostPower = 100
	mostHp    = 10_000
	mostXp    = 10_000
	mostGold  = 1 << 30 // in prices and tills, too
	mostCount = 5
	mostNeeds = 5
	mostItems = 8
)

// What follows tells of one row whether its words and numbers are as the chapter
// says, be it from a line or from a table. Whether the lists in a row rise is
// none of this, as in a line they may have any order.

func isRoom(r api.Room) bool {
	return isId(r.Id) && lines.Word(r.Name) && within(r.Kind, api.RPlain, api.RHall) &&
		isGold(r.Price) && all(r.Exits[:], isIdOrNone)
}

func isProto(p api.Proto) bool {
	return isId(p.Id) && lines.Word(p.Name) && within(p.Slot, api.SNone, api.SBody) &&
		isPower(p.Power) && isGold(p.Price)
}

func isMob(m api.MobProto) bool {
	return isId(m.Id) && lines.Word(m.Name) && isId(m.Home) && within(m.Hp, 1, mostHp) &&
		isPower(m.Power) && within(m.Xp, 0, mostXp) && isGold(m.Gold)
}

func isRecipe(r api.Recipe) bool {
	return isId(r.Out) && within(len(r.Needs), 1, mostNeeds) && all(r.Needs, isId)
}

func isQuest(q api.Quest) bool {
	return isId(q.Id) && isId(q.Item) && within(q.Count, 1, mostCount) && isGold(q.Gold) && isIdOrNone(q.Reward)
}

func isShop(s api.Shop) bool {
	return isId(s.Room) && isGold(s.Till) && len(s.Items) <= mostItems && all(s.Items, isId)
}

func isId(n int) bool {
	return within(n, 1, mostId)
}

func isIdOrNone(n int) bool {
	return n == 0 || isId(n)
}

func isPower(n int64) bool {
	return within(n, 0, mostPower)
}

func isGold(n int64) bool {
	return within(n, 0, mostGold)
}

func within[N int | int64](n, least, most N) bool {
	return least <= n && n <= most
}

// all tells whether each row of l is so.
func all[T any](l []T, isSo func(row T) bool) bool {
	for _, row := range l {
		if !isSo(row) {
			return false
		}
	}
	return true
}
