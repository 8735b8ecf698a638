/- World files: the numbers by which lists rise, and the comparisons that the sort is handed (made by tools/gendca.py). -/
import Derived.Test.YtheaghgockafmaaGreatDbK
import Derived.Test.YtheaghgockafmaaGreatLinN
import Derived.Test.YtheaghgockafmaaGreatDbA
import Derived.Shelf.SlSortCmp.QuietGrown
namespace Go.Proofs.YtheaghgockafmaaGreat.Wd
open Go.RowKit Go.Maps Go.Proofs.YtheaghgockafmaaGreat Go.Proofs.YtheaghgockafmaaGreat.Lin Go.Sort
set_option maxRecDepth 100000

/-- A slice's parts. -/
structure SlV where
  a : Option Addr
  n : Nat
  c : Nat
instance : Inhabited RoomM := ⟨⟨0, ⟨#[]⟩, 0, 0, 0, 0, 0, 0, 0, 0⟩⟩
instance : Inhabited ProtoM := ⟨⟨0, ⟨#[]⟩, 0, 0, 0⟩⟩
instance : Inhabited MobPM := ⟨⟨0, ⟨#[]⟩, 0, 0, 0, 0, 0⟩⟩
instance : Inhabited RecM := ⟨⟨0, []⟩⟩
instance : Inhabited QuestM := ⟨⟨0, 0, 0, 0, 0⟩⟩
instance : Inhabited ShopM := ⟨⟨0, 0, []⟩⟩
instance : Inhabited SlV := ⟨⟨none, 0, 0⟩⟩
def recS (x : RecM × SlV) : List Value := [.int .i64 x.1.out, .slice x.2.a x.2.n x.2.c]
def shopS (x : ShopM × SlV) : List Value := [.int .i64 x.1.room, .int .i64 x.1.till, .slice x.2.a x.2.n x.2.c]

theorem Tryz.mixedO : Tryz.prog.follows .mixedOrders = true := by kernel_rfl

theorem nanI_any {w : World} (x : Int) : Calls Tryz.prog 365 #[.int .i64 x] w fun e w' => e = .returned (.bool false) ∧ w = w' := by
  go_enter Tryz.func365, Tryz.ntmps365
  go_wp2
  go_ret
  exact ⟨by simp, rfl⟩

theorem roomC_lenA (x : RoomM) : (roomC x).length = 10 := rfl
theorem roomC_one (x : RoomM) : ∀ v ∈ roomC x, v.oneCell' = true := by
  intro v hv
  simp only [roomC, List.mem_cons, List.not_mem_nil, or_false] at hv
  rcases hv with rfl | rfl | rfl | rfl | rfl | rfl | rfl | rfl | rfl | rfl <;> rfl
theorem roomId_any {w : World} (x : RoomM) : Calls Tryz.prog 184 #[.agg (roomC x).toArray] w fun e w' => e = .returned (.int .i64 x.id) ∧ ∃ n os, w' = grow (w.drewN n) os := by
  simp only [roomC]
  go_enter Tryz.func184, Tryz.ntmps184
  go_wp2
  go_ret
  exact ⟨rfl, 0, _, by rw [alloc_eq_grow]; rfl⟩
theorem Tryz.en_roomId : ∀ args w, (callFunc 184 args).run Tryz.prog w = .ok (.enter 184 args) w := enters_of Tryz.func184 (by kernel_rfl) rfl

theorem protoC_lenA (x : ProtoM) : (protoC x).length = 5 := rfl
theorem protoC_one (x : ProtoM) : ∀ v ∈ protoC x, v.oneCell' = true := by
  intro v hv
  simp only [protoC, List.mem_cons, List.not_mem_nil, or_false] at hv
  rcases hv with rfl | rfl | rfl | rfl | rfl <;> rfl
theorem protoId_any {w : World} (x : ProtoM) : Calls Tryz.prog 187 #[.agg (protoC x).toArray] w fun e w' => e = .returned (.int .i64 x.id) ∧ ∃ n os, w' = grow (w.drewN n) os := by
  simp only [protoC]
  go_enter Tryz.func187, Tryz.ntmps187
  go_wp2
  go_ret
  exact ⟨rfl, 0, _, by rw [alloc_eq_grow]; rfl⟩
theorem Tryz.en_protoId : ∀ args w, (callFunc 187 args).run Tryz.prog w = .ok (.enter 187 args) w := enters_of Tryz.func187 (by kernel_rfl) rfl

theorem mobpC_lenA (x : MobPM) : (mobpC x).length = 7 := rfl
theorem mobpC_one (x : MobPM) : ∀ v ∈ mobpC x, v.oneCell' = true := by
  intro v hv
  simp only [mobpC, List.mem_cons, List.not_mem_nil, or_false] at hv
  rcases hv with rfl | rfl | rfl | rfl | rfl | rfl | rfl <;> rfl
theorem mobId_any {w : World} (x : MobPM) : Calls Tryz.prog 190 #[.agg (mobpC x).toArray] w fun e w' => e = .returned (.int .i64 x.id) ∧ ∃ n os, w' = grow (w.drewN n) os := by
  simp only [mobpC]
  go_enter Tryz.func190, Tryz.ntmps190
  go_wp2
  go_ret
  exact ⟨rfl, 0, _, by rw [alloc_eq_grow]; rfl⟩
theorem Tryz.en_mobId : ∀ args w, (callFunc 190 args).run Tryz.prog w = .ok (.enter 190 args) w := enters_of Tryz.func190 (by kernel_rfl) rfl

theorem recS_lenA (x : RecM × SlV) : (recS x).length = 2 := rfl
theorem recS_one (x : RecM × SlV) : ∀ v ∈ recS x, v.oneCell' = true := by
  intro v hv
  simp only [recS, List.mem_cons, List.not_mem_nil, or_false] at hv
  rcases hv with rfl | rfl <;> rfl
theorem recipeId_any {w : World} (x : RecM × SlV) : Calls Tryz.prog 193 #[.agg (recS x).toArray] w fun e w' => e = .returned (.int .i64 x.1.out) ∧ ∃ n os, w' = grow (w.drewN n) os := by
  simp only [recS]
  go_enter Tryz.func193, Tryz.ntmps193
  go_wp2
  go_ret
  exact ⟨rfl, 0, _, by rw [alloc_eq_grow]; rfl⟩
theorem Tryz.en_recipeId : ∀ args w, (callFunc 193 args).run Tryz.prog w = .ok (.enter 193 args) w := enters_of Tryz.func193 (by kernel_rfl) rfl

theorem questC_lenA (x : QuestM) : (questC x).length = 5 := rfl
theorem questC_one (x : QuestM) : ∀ v ∈ questC x, v.oneCell' = true := by
  intro v hv
  simp only [questC, List.mem_cons, List.not_mem_nil, or_false] at hv
  rcases hv with rfl | rfl | rfl | rfl | rfl <;> rfl
theorem questId_any {w : World} (x : QuestM) : Calls Tryz.prog 196 #[.agg (questC x).toArray] w fun e w' => e = .returned (.int .i64 x.id) ∧ ∃ n os, w' = grow (w.drewN n) os := by
  simp only [questC]
  go_enter Tryz.func196, Tryz.ntmps196
  go_wp2
  go_ret
  exact ⟨rfl, 0, _, by rw [alloc_eq_grow]; rfl⟩
theorem Tryz.en_questId : ∀ args w, (callFunc 196 args).run Tryz.prog w = .ok (.enter 196 args) w := enters_of Tryz.func196 (by kernel_rfl) rfl

theorem shopS_lenA (x : ShopM × SlV) : (shopS x).length = 3 := rfl
theorem shopS_one (x : ShopM × SlV) : ∀ v ∈ shopS x, v.oneCell' = true := by
  intro v hv
  simp only [shopS, List.mem_cons, List.not_mem_nil, or_false] at hv
  rcases hv with rfl | rfl | rfl <;> rfl
theorem shopId_any {w : World} (x : ShopM × SlV) : Calls Tryz.prog 199 #[.agg (shopS x).toArray] w fun e w' => e = .returned (.int .i64 x.1.room) ∧ ∃ n os, w' = grow (w.drewN n) os := by
  simp only [shopS]
  go_enter Tryz.func199, Tryz.ntmps199
  go_wp2
  go_ret
  exact ⟨rfl, 0, _, by rw [alloc_eq_grow]; rfl⟩
theorem Tryz.en_shopId : ∀ args w, (callFunc 199 args).run Tryz.prog w = .ok (.enter 199 args) w := enters_of Tryz.func199 (by kernel_rfl) rfl
end Go.Proofs.YtheaghgockafmaaGreat.Wd
