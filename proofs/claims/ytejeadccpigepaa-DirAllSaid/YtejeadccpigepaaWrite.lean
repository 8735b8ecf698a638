/- Files on blocks: what Write wants of grown and turn. -/
import Derived.Test.YtejeadccpigepaaTurnA
namespace Go.Proofs.Ytejeadccpigepaa.Ino
open Go.RowKit Go.Maps Go.Proofs.Ytejeadccpigepaa
set_option maxRecDepth 100000

theorem growTo_old (a b : Nat) (T : List Nat) (nx k : Nat) (hk : k ≤ T.length) (j : Nat) : tg (growTo a b T nx k).1 j = tg T j ∨ (tg T j = 0 ∧ nx < tg (growTo a b T nx k).1 j ∧ tg (growTo a b T nx k).1 j ≤ (growTo a b T nx k).2) := by
  induction k with
  | zero => exact .inl rfl
  | succ k ih =>
    have ih := ih (by omega)
    have hle := growTo_le a b T nx 0 k
    have hah := growTo_ahead a b T nx k k (Nat.le_refl _) (by omega)
    rw [Nat.zero_add] at hle
    have h0 : (growTo a b T nx 0).2 = nx := rfl
    rw [h0] at hle
    rw [growTo, growStep]
    split
    · rename_i hc
      simp only
      rw [tg_set _ _ _ _ (by rw [growTo_length]; omega)]
      by_cases e : j = k
      · subst e
        rw [if_pos rfl]
        exact .inr ⟨by rw [← hah]; exact hc.1, by omega, Nat.le_refl _⟩
      · rw [if_neg e]
        rcases ih with h | h
        · exact .inl h
        · exact .inr ⟨h.1, h.2.1, by omega⟩
    · exact ih

theorem givenL_old (a b : Nat) (T : List Nat) (nx k : Nat) (hk : k ≤ T.length) (n : Nat) : givenL (growTo a b T nx k).1 T n = [] := by
  induction n with
  | zero => rfl
  | succ n ih =>
    rw [givenL_skip, ih]
    rcases growTo_old a b T nx k hk n with h | h
    · by_cases h0 : tg T n = 0
      · exact .inr h0
      · exact .inl (h ▸ h0)
    · exact .inr h.1

theorem Held.grown {S S' : Sto} {T : List Nat} {a b : Nat} (h : Held S T) (hT : T.length = 203) (hm : ∀ x ∈ T, x ≤ S.nxt) (hG : Grw S S') (hn : S'.nxt = (growTo a b T S.nxt 203).2) : Held S' (growTo a b T S.nxt 203).1 := fun k hk => by
  rcases growTo_old a b T S.nxt 203 (by omega) k with e | ⟨e1, e2, e3⟩
  · rw [e] at hk ⊢
    have hkl : k < T.length := by
      refine Classical.byContradiction fun hx => hk ?_
      rw [tg, List.getD_eq_getElem?_getD, List.getElem?_eq_none (by omega)]; rfl
    rw [hG.old _ (hm _ (tg_mem hkl))]
    exact h k hk
  · exact hG.new _ e2 (by omega)

theorem laidL_length (S : Sto) (T : List Nat) : ∀ (f a : Nat) (b : List UInt8), (laidL S T f a b).length ≤ f
  | 0, _, _ => Nat.le_refl _
  | f + 1, a, b => by
    rw [laidL]
    split
    · simp
    · rw [List.length_cons]
      have := laidL_length S T f (a + (b.take (512 - a % 512)).length) (b.drop (b.take (512 - a % 512)).length)
      omega

theorem grown_fits {w : World} {F : Nat → Prop} {p s : Nat} {S : Sto} {size : Nat} {T : List Nat} (h : IsFile w F p s S size T) (hx : S.nxt + 203 < 100000) (hcm : S.c ≤ S.most) (hm : ∀ x ∈ T, x ≤ S.nxt) (a b : Nat) (hfit : S.c + ((growTo a b T S.nxt 203).2 - S.nxt) ≤ S.most) :
    Calls Try.prog 42 #[.pointer (some ⟨p, 0, none⟩), .int .i64 (a : Int), .int .i64 (b : Int)] w fun e w' => e = .returned (.tuple #[tabV (growTo a b T S.nxt 203).1, .nilIface]) ∧ Keep F w w' ∧ ∃ S', Grw S S' ∧ S'.nxt = (growTo a b T S.nxt 203).2 ∧ IsFile w' (grow F w w') p s S' size T := by
  refine (grown_any h hx hcm hm a b).mono ?_
  rintro e w' ⟨k, ⟨_, h1, h2⟩ | ⟨h1, _⟩⟩
  · exact ⟨h1, k, h2⟩
  · exact absurd hfit h1

theorem grown_full {w : World} {F : Nat → Prop} {p s : Nat} {S : Sto} {size : Nat} {T : List Nat} (h : IsFile w F p s S size T) (hx : S.nxt + 203 < 100000) (hcm : S.c ≤ S.most) (hm : ∀ x ∈ T, x ≤ S.nxt) (a b : Nat) (hfit : ¬ S.c + ((growTo a b T S.nxt 203).2 - S.nxt) ≤ S.most) :
    Calls Try.prog 42 #[.pointer (some ⟨p, 0, none⟩), .int .i64 (a : Int), .int .i64 (b : Int)] w fun e w' => Keep F w w' ∧ ∃ r nx, e = .returned (.tuple #[tabV zero203, .iface 127 (.pointer (some ⟨r, 0, none⟩))]) ∧ S.nxt ≤ nx ∧ nx ≤ S.nxt + 203 ∧ IsFile w' (grow F w w') p s { S with nxt := nx } size T ∧ ErrAt w' w.heap.size r := by
  refine (grown_any h hx hcm hm a b).mono ?_
  rintro e w' ⟨k, ⟨h1, _⟩ | ⟨_, h1⟩⟩
  · exact absurd h1 hfit
  · exact ⟨k, h1⟩

theorem turn_wr {w w1 w2 : World} {F : Nat → Prop} {p s : Nat} {S S' : Sto} {size n : Nat} {T T2 : List Nat} (H : IsFile w F p s S size T) (hT2 : T2.length = 203) (hf2 : ∀ x ∈ T2, x < 4294967296) (hgv : givenL T2 T 203 = []) (hld : Held S' T2) {lv : Value} {l : List Chg} (hc1 : ChgsAt w1 lv l) (hll : l.length ≤ n) (hn : n ≤ 50000) (k1 : Keep (fun _ => False) w w1) (o1 : ∀ x, lv.ownBlock = some x → w.heap.size ≤ x) (k2 : Keep F w1 w2) (h2 : IsFile w2 (grow F w1 w2) p s S' size T) (z : Int) (sz : Nat) (hz : z = (sz : Int)) {w9 : World} (k9 : Keep (fun _ => False) w2 w9) :
    Calls Try.prog 44 #[.pointer (some ⟨p, 0, none⟩), tabV T2, .int .i64 z, lv] w9 fun e w' => e = .returned .nilIface ∧ ∃ F', IsFile w' F' p s (putAll S' T2 (l ++ pagedL T T2 203)) sz T2 ∧ Keep (fun x => F x ∨ x = p) w w' ∧ (∀ x, F' x → F x ∨ w.heap.size ≤ x) ∧ Keep (fun x => x < w2.heap.size) w9 w' := by
  subst hz
  have hlw := H.lt
  have hs1 := k1.size; have hs2 := k2.size
  have hC := (hc1.keep k2 (fun x hx hF => by have := o1 x hx; have := hlw.1 x hF; omega)).keep (F := fun _ => False) k9 (fun _ _ h => h)
  have h := turn_any (h2.keep0 k9) hT2 hf2 sz hC (by omega) (fun x hx => ⟨fun hF => hF.elim (fun hF => by have := o1 x hx; have := hlw.1 x hF; omega) (fun hF => by have := hc1.row.lt hx; omega), by have := o1 x hx; omega⟩) (fun c _ => hld c.k) (by rw [hgv]; exact List.nodup_nil) (by rw [hgv]; intro x hx; cases hx)
  refine h.mono ?_
  rintro e w' ⟨rfl, F', h1, h3, h4⟩
  rw [hgv, Sto.without_nil] at h1
  have k3 : Keep (fun x => F x ∨ x = p) w w9 := ((k1.mono (fun _ _ h => h.elim)).trans k2 (fun x hx => .inl (.inl hx))).trans k9 (fun _ h => h.elim)
  refine ⟨rfl, F', h1, k3.trans h3 (fun x hx => ?_), fun x hx => ?_, h3.mono fun x _ hx => ?_⟩
  · rcases hx with (hx | hx) | hx | hx
    · exact .inl (.inl hx)
    · exact .inr (by omega)
    · exact .inl (.inr hx)
    · exact .inr (o1 x hx)
  · have hsa := k9.size
    rcases h4 x hx with (h | h) | h
    · exact .inl h
    · exact .inr (by omega)
    · exact .inr (by omega)
  · rcases hx with (hx | hx) | hx | hx
    · have := hlw.1 x hx; omega
    · exact hx.2
    · omega
    · have := hc1.row.lt hx; omega

end Go.Proofs.Ytejeadccpigepaa.Ino
