/- Dice: throws out of a list; what the reference's cup does. -/
import Derived.Test.YtdblblnihdifiaaArgsI
namespace Go.Proofs.Ytdblblnihdifiaa.Di
open Go.RowKit Go.Proofs.Ytdblblnihdifiaa
set_option maxRecDepth 100000

def fitI (n : Int) : Prop := -9223372036854775808 ≤ n ∧ n ≤ 9223372036854775807

/-- What a throw is where the numbers xs are left. -/
def rollF (xs : List Int) (s : Int) : Int := if s < 1 then 0 else match xs with | [] => 1 | n :: _ => n % s + 1
/-- How many are taken behind a throw. -/
def takenF (l : List Int) (k : Nat) (s : Int) : Nat := if s < 1 then k else min (k + 1) l.length

theorem tmod_low (n : Int) {s : Int} (hs : 1 ≤ s) : n.tmod s < 0 ∧ n % s = n.tmod s + s ∨ 0 ≤ n.tmod s ∧ n % s = n.tmod s := by
  have h1 := Int.tmod_eq_emod (a := n) (b := s)
  have h2 := Int.emod_nonneg n (by omega : s ≠ 0)
  have h3 := Int.emod_lt_of_pos n (by omega : 0 < s)
  by_cases hd : 0 ≤ n ∨ s ∣ n
  · rw [if_pos hd] at h1; right; omega
  · rw [if_neg hd] at h1; left; omega

theorem rest_fit (n : Int) {s : Int} (hs : 1 ≤ s) : 0 ≤ n % s ∧ n % s < s := ⟨Int.emod_nonneg n (by omega), Int.emod_lt_of_pos n (by omega)⟩

theorem icells_length (l : List Int) : (icells l).length = l.length := by simp [icells]
theorem icells_get {l : List Int} {k : Nat} {x : Int} (h : l[k]? = some x) : (icells l)[k]? = some (.int .i64 x) := by simp [icells, h]

/-- The slice v reads as the numbers l; if there are any, it lies in a block of N. -/
structure Nums (N : Nat → Prop) (w : World) (v : Value) (l : List Int) : Prop where
  seen : Seen w 1 v l.length (icells l)
  own : ∀ b, v.ownBlock = some b → 0 < l.length → N b

theorem Nums.keep {N F : Nat → Prop} {w w' : World} {v : Value} {l : List Int} (h : Nums N w v l) (k : Keep F w w') (hF : ∀ b, N b → ¬ F b) : Nums N w' v l := by
  refine ⟨?_, h.own⟩
  obtain ⟨h1, a, cap, rfl, h2, h3, h4⟩ := h.seen
  refine ⟨h1, a, cap, rfl, h2, h3, ?_⟩
  rcases h4 with h4 | ⟨g, off, rfl, hg, hc⟩
  · exact .inl h4
  · rcases Nat.eq_zero_or_pos l.length with h0 | h0
    · exact .inl h0
    · exact .inr ⟨g, off, rfl, Nat.lt_of_lt_of_le hg k.size, fun j u hu => by rw [k.cell hg (hF g (h.own g rfl h0))]; exact hc j u hu⟩
theorem Nums.mono {N M : Nat → Prop} {w : World} {v : Value} {l : List Int} (h : Nums N w v l) (hN : ∀ b, N b → M b) : Nums M w v l := ⟨h.seen, fun b hb h0 => hN b (h.own b hb h0)⟩

/-- The reference's cup at block p: the list l, k of it taken. -/
structure RCup (N : Nat → Prop) (w : World) (p : Nat) (l : List Int) (k : Nat) : Prop where
  ex : ∃ v, w.heap[p]? = some (.cells #[v, .int .i64 (k : Int)] 28 (0, 0)) ∧ Nums N w v l
  np : ¬ N p
  le : k ≤ l.length
  small : l.length ≤ 1000000
  fit : ∀ n ∈ l, fitI n

theorem RCup.lt {N : Nat → Prop} {w : World} {p : Nat} {l : List Int} {k : Nat} (h : RCup N w p l k) : p < w.heap.size := by
  obtain ⟨v, h1, _⟩ := h.ex; exact lt_of_block h1
theorem RCup.keep {N F : Nat → Prop} {w w' : World} {p : Nat} {l : List Int} {k : Nat} (h : RCup N w p l k) (hk : Keep F w w') (hp : ¬ F p) (hF : ∀ b, N b → ¬ F b) : RCup N w' p l k := by
  obtain ⟨v, h1, h2⟩ := h.ex
  exact ⟨⟨v, (hk.block p (lt_of_block h1) hp).trans h1, h2.keep hk hF⟩, h.np, h.le, h.small, h.fit⟩
theorem RCup.drew {N : Nat → Prop} {w : World} {p : Nat} {l : List Int} {k : Nat} (h : RCup N w p l k) : RCup N w.drew p l k := h.keep (F := fun _ => False) (Keep.refl _ w).drew (fun e => e) (fun _ _ e => e)
theorem RCup.set {N : Nat → Prop} {w : World} {p : Nat} {l : List Int} {k m : Nat} (h : RCup N w p l k) (hm : m ≤ l.length) : RCup N (w.setCell ⟨p, 1, none⟩ (.int .i64 (m : Int))) p l m := by
  obtain ⟨v, h1, h2⟩ := h.ex
  exact ⟨⟨v, (heap_setCell_at _ h1).trans rfl, h2.keep (F := fun b => b = p) (Keep.setCell (Keep.refl _ _) _ _ (.inl rfl)) (fun b hb e => h.np (e ▸ hb))⟩, h.np, hm, h.small, h.fit⟩

theorem refRoll_any {N : Nat → Prop} {w : World} {p : Nat} {l : List Int} {k : Nat} (h : RCup N w p l k) (s : Int) (hs : fitI s) : Calls Try.prog 7 #[.pointer (some ⟨p, 0, none⟩), .int .i64 s] w fun e w' => e = .returned (.int .i64 (rollF (l.drop k) s)) ∧ RCup N w' p l (takenF l k s) ∧ Keep (fun b => b = p) w w' := by
  obtain ⟨_, h1, h2, h3⟩ := h.ex
  obtain ⟨_, a, cap, rfl, hc, hm, h4⟩ := h2
  have hle := h.le
  have hsm := h.small
  unfold fitI at hs
  have c0 : w.cell? ⟨p, 0, none⟩ = some (.slice a l.length cap) := by rw [cell_of_row _ _ _ _ _ _ h1]; rfl
  have c1 : w.cell? ⟨p, 1, none⟩ = some (.int .i64 (k : Int)) := by rw [cell_of_row _ _ _ _ _ _ h1]; rfl
  by_cases hs1 : s < 1
  · have HR : Hid (rollF (l.drop k) s = 0) := Lib.hid (by unfold rollF; rw [if_pos hs1])
    have HT : Hid (RCup N w p l (takenF l k s)) := Lib.hid (by unfold takenF; rw [if_pos hs1]; exact h)
    have d1 : decide (s < 1) = true := by simpa using hs1
    clear h h1 h3 h4 hc
    go_enter Try.func7, Try.ntmps7
    go_wp2
    go_ret
    exact ⟨by rw [HR.out]; rfl, HT.out, Keep.refl _ _⟩
  · have d1 : decide (s < 1) = false := by simpa using hs1
    rcases Nat.lt_or_ge k l.length with hk | hk
    · obtain ⟨g, off, rfl, hg, q⟩ := h4.resolve_left (by omega)
      obtain ⟨n, hn⟩ : ∃ n, l[k]? = some n := ⟨_, List.getElem?_eq_getElem hk⟩
      have c2 : w.cell? ⟨g, off + k, none⟩ = some (.int .i64 n) := q k _ (icells_get hn)
      have hf := h.fit n (List.mem_of_getElem? hn)
      unfold fitI at hf
      have hd : l.drop k = n :: l.drop (k + 1) := by
        obtain ⟨hk2, rfl⟩ := List.getElem?_eq_some_iff.1 hn
        exact List.drop_eq_getElem_cons hk2
      have hgp : g ≠ p := fun e => h.np (e ▸ h3 g rfl (by omega))
      have HR : Hid (rollF (l.drop k) s = n % s + 1) := Lib.hid (by unfold rollF; rw [if_neg hs1, hd])
      have HT : Hid (RCup N (w.setCell ⟨p, 1, none⟩ (.int .i64 ((k : Int) + 1))) p l (takenF l k s)) := Lib.hid (by
        unfold takenF; rw [if_neg hs1, Nat.min_eq_left hk]
        exact h.set hk)
      have HK : Hid (Keep (fun b => b = p) w (w.setCell ⟨p, 1, none⟩ (.int .i64 ((k : Int) + 1)))) := Lib.hid (Keep.setCell (Keep.refl _ _) _ _ (.inl rfl))
      have hlt := rest_fit n (s := s) (by omega)
      have fr : w.frozen? ⟨p, 1, none⟩ = false := by simp [World.frozen?, h1]
      have d2 : decide ((l.length : Int) ≤ (k : Int)) = false := by rw [decide_eq_false_iff_not]; omega
      have d3 : (s == 0) = false := by rw [beq_eq_false_iff_ne]; omega
      rcases tmod_low n (s := s) (by omega) with ⟨hl, he⟩ | ⟨hl, he⟩
      · have d4 : decide (n.tmod s < 0) = true := by simpa using hl
        clear h h1 h3 h4 q
        go_enter Try.func7, Try.ntmps7
        go_wp2
        go_region
        all_goals
          go_wp2
          go_region
          all_goals
            go_wp2
            go_ret
            exact ⟨by rw [HR.out, he]; rfl, HT.out.drew.drew, HK.out.drew.drew⟩
      · have d4 : decide (n.tmod s < 0) = false := by rw [decide_eq_false_iff_not]; omega
        clear h h1 h3 h4 q
        go_enter Try.func7, Try.ntmps7
        go_wp2
        go_region
        all_goals
          go_wp2
          go_region
          all_goals
            go_wp2
            go_ret
            exact ⟨by rw [HR.out, he]; rfl, HT.out.drew.drew, HK.out.drew.drew⟩
    · have hk2 : k = l.length := by omega
      have HR : Hid (rollF (l.drop k) s = 1) := Lib.hid (by unfold rollF; rw [if_neg hs1, List.drop_eq_nil_of_le hk])
      have HT : Hid (RCup N w p l (takenF l k s)) := Lib.hid (by
        have e : takenF l k s = k := by unfold takenF; rw [if_neg hs1]; omega
        rw [e]; exact h)
      have d2 : decide ((l.length : Int) ≤ (k : Int)) = true := by rw [decide_eq_true_eq]; omega
      have d5 : decide (l.length ≤ k) = true := by simpa using hk
      clear h h1 h3 h4 hk2
      go_enter Try.func7, Try.ntmps7
      go_wp2
      go_region
      all_goals
        go_wp2
        go_ret
        exact ⟨by rw [HR.out]; rfl, HT.out.drew, (Keep.refl _ _).drew⟩
end Go.Proofs.Ytdblblnihdifiaa.Di
