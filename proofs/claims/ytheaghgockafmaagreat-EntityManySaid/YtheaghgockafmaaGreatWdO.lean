/- Numbers in order: the reference's sorted. -/
import Derived.Test.YtheaghgockafmaaGreatWdN
namespace Go.Proofs.YtheaghgockafmaaGreat.Wd
open Go.RowKit Go.Proofs.YtheaghgockafmaaGreat Go.Proofs.YtheaghgockafmaaGreat.Lin
set_option maxRecDepth 100000

theorem set_swap {α : Type} (A B : List α) (x y : α) : ((A ++ y :: x :: B).set A.length x).set (A.length + 1) y = A ++ x :: y :: B := by
  rw [List.set_append_right _ _ (Nat.le_refl _), Nat.sub_self, List.set_cons_zero, List.set_append_right _ _ (by omega), show A.length + 1 - A.length = 1 by omega]
  rfl
theorem icells_set (l : List Int) (k : Nat) (n : Int) : icells (l.set k n) = (icells l).set k (.int .i64 n) := by simp [icells, List.map_set]

/-- What an insertion leaves. -/
theorem ins_sorted {α : Type} {r : α → α → Prop} (ht : ∀ a b c, r a b → r b c → r a c) {A B : List α} {x : α} (h : (A ++ B).Pairwise r) (hB : ∀ y ∈ B, r x y) (hA : A = [] ∨ ∃ A' y, A = A' ++ [y] ∧ r y x) : (A ++ x :: B).Pairwise r := by
  rw [List.pairwise_append] at h ⊢
  refine ⟨h.1, List.pairwise_cons.2 ⟨hB, h.2.1⟩, fun a ha b hb => ?_⟩
  rcases hA with rfl | ⟨A', y, rfl, hy⟩
  · simp at ha
  · have hay : r a y ∨ a = y := by
      rcases List.mem_append.1 ha with ha | ha
      · left
        have := (List.pairwise_append.1 h.1).2.2 a ha y (by simp)
        exact this
      · right; simpa using ha
    have hax : r a x := by
      rcases hay with h1 | h1
      · exact ht _ _ _ h1 hy
      · rw [h1]; exact hy
    rcases List.mem_cons.1 hb with rfl | hb
    · exact hax
    · exact ht _ _ _ hax (hB b hb)

/-- A list in the order of keys. -/
def SortOf {α : Type} (key : α → Int) (L M : List α) : Prop := M.Perm L ∧ M.Pairwise (fun a b => key a ≤ key b)

theorem SortOf.nil {α : Type} (key : α → Int) : SortOf key [] [] := ⟨List.Perm.refl _, List.Pairwise.nil⟩
theorem SortOf.ins {α : Type} {key : α → Int} {L A B : List α} {x : α} (h : SortOf key L (A ++ B)) (hB : ∀ y ∈ B, key x ≤ key y) (hA : A = [] ∨ ∃ A' y, A = A' ++ [y] ∧ key y ≤ key x) : SortOf key (L ++ [x]) (A ++ x :: B) :=
  ⟨(List.perm_middle).trans (((h.1.cons x)).trans (List.perm_append_comm (l₁ := [x]))), ins_sorted (r := fun a b => key a ≤ key b) (fun _ _ _ h1 h2 => Int.le_trans h1 h2) h.2 hB hA⟩

structure SdR (l : List Int) (w0 : World) (mv iv : Value) (wr : World) : Prop where
  ex : ∃ (k : Nat) (M : List Int), k ≤ l.length ∧ iv = .int .i64 (k : Int) ∧ SortOf id (l.take k) M ∧ Row wr 3 1 mv k (icells M) ∧ (∀ b, mv.ownBlock = some b → w0.heap.size ≤ b) ∧ Keep (fun x => w0.heap.size ≤ x) w0 wr

/-- While x goes to its place. -/
structure SeR (M : List Int) (x : Int) (n : Nat) (mv : Value) (w0 : World) (jv : Value) (wr : World) : Prop where
  ex : ∃ (A B : List Int), M = A ++ B ∧ jv = .int .i64 (A.length : Int) ∧ (∀ y ∈ B, x ≤ y) ∧ Row wr 3 1 mv n (icells (A ++ x :: B)) ∧ Keep (fun b => mv.ownBlock = some b) w0 wr

theorem SdR.drew {l : List Int} {w0 wr : World} {mv iv : Value} (h : SdR l w0 mv iv wr) : SdR l w0 mv iv wr.drew := by
  obtain ⟨k, M, h1, h2, h3, h4, h5, h6⟩ := h.ex
  exact ⟨k, M, h1, h2, h3, h4.drew, h5, h6.drew⟩

set_option maxHeartbeats 2000000 in
theorem refSorted_any {w : World} {v : Value} {l : List Int} (h : Seen w 1 v l.length (icells l)) (hl : l.length ≤ 1000000) : Calls Tryz.prog 100 #[v] w fun e w' => ∃ M v', e = .returned v' ∧ SortOf id l M ∧ Row w' 3 1 v' M.length (icells M) ∧ (∀ b, v'.ownBlock = some b → w.heap.size ≤ b) ∧ Keep (fun _ => False) w w' := by
  obtain ⟨i0, hi0, hz0, hz1, hz2⟩ := info_parts Tryz.infoI
  obtain ⟨_, a1, c1, rfl, hc1, hc2, h1⟩ := h
  unfold maxLen at hc2
  have H1 := Lib.hid h1
  clear h1
  go_enter Tryz.func100, Tryz.ntmps100
  go_wp2
  go_loopw [3, 4, 5, 6, 7] (fun mv iv _ _ _ wr => SdR l w mv iv wr) (fun _ iv _ _ _ _ => l.length - (intOf iv).toNat)
  case atStart => exact ⟨0, [], by omega, rfl, SortOf.nil _, Row.nil _ _ _, fun b hb => by simp [Value.ownBlock] at hb, Keep.refl _ _⟩
  case round =>
    obtain ⟨k, M, hk, rfl, hso, hrow, hown, hK⟩ := hrel.ex
    have HSO := Lib.hid hso; have HROW := Lib.hid hrow; have HOWN := Lib.hid hown; have HK := Lib.hid hK
    clear hso hrow hown hK hrel
    obtain ⟨va, vc, rfl, hvc1, hvc2⟩ := HROW.out.slice
    by_cases hlt : k < l.length
    · have hd1 : decide (k < l.length) = true := by simpa using hlt
      obtain ⟨x, hx⟩ : ∃ x, l[k]? = some x := ⟨_, List.getElem?_eq_getElem hlt⟩
      obtain ⟨g, off, rfl, hg, q⟩ := H1.out.resolve_left (by omega)
      have q1 : wr.cell? ⟨g, off + k, none⟩ = some (.int .i64 x) := (HK.out.cell hg (by omega) _).trans (q k _ (icells_get hx))
      have HX := Lib.hid hx
      clear hx q
      go_wp2_with (at_builtin; go_loud (refine wpList_append_row _ rfl (.tmp 14) (.tmp 19) rfl Tryz.underlying60 hi0 hz0 hz1 hz2 rfl rfl (HROW.out.alloc _) rfl (Src.lit Tryz.underlying60 #[.int .i64 x] _ 1 1 rfl rfl (by simp [Value.oneCell'])) (by unfold maxLen; omega) (by omega) ?_))
      intro v7 w2 hr2 hk2 hb2 _
      have HML : Hid (M.length = k) := Lib.hid (by have := HROW.out.1; rw [icells_length] at this; omega)
      have HR2 : Hid (Row w2 3 1 v7 (k + 1) (icells (M ++ [x]))) := Lib.hid (by rw [icells_append]; exact hr2)
      have HOW2 : Hid (∀ b, v7.ownBlock = some b → w.heap.size ≤ b) := Lib.hid (fun b hb => by
        have hks := HK.out.size
        rcases hb2 b hb with h | h
        · exact HOWN.out b h
        · have h1 := h.1; first | omega | (simp at h1; omega))
      have HK2 : Hid (Keep (fun x => w.heap.size ≤ x) w w2) := Lib.hid ((HK.out.alloc _).trans hk2 (fun b hb => .inl (HOWN.out b hb)))
      clear hr2 hk2 hb2
      obtain ⟨g7, o7, c7, rfl, hc7, hc7'⟩ := HR2.out.full (by omega)
      go_wp2
      go_loopw [5, 6, 7] (fun jv _ _ wq => SeR M x (k + 1) (.slice (some ⟨g7, o7, none⟩) (k + 1) c7) w2 jv wq) (fun jv _ _ _ => (intOf jv).toNat)
      case atStart => exact ⟨M, [], by simp, by rw [HML.out], by simp, HR2.out, Keep.refl _ _⟩
      case round =>
        obtain ⟨A, B, hM, rfl, hB, hrw, hKq⟩ := hrel.ex
        have HM := Lib.hid hM; have HB := Lib.hid hB; have HRW := Lib.hid hrw; have HKQ := Lib.hid hKq
        have hAl : A.length ≤ k := by rw [← HML.out, hM]; simp
        clear hM hB hrw hKq hrel
        have HRL : Hid (∀ (hA : A = [] ∨ ∃ A' y, A = A' ++ [y] ∧ y ≤ x), SdR l w (.slice (some ⟨g7, o7, none⟩) (k + 1) c7) (.int .i64 ((k + 1 : Nat) : Int)) wr) := Lib.hid (fun hA => by
          refine ⟨k + 1, A ++ x :: B, by omega, rfl, ?_, ?_, HOW2.out, HK2.out.trans HKQ.out (fun b hb => .inl (HOW2.out b hb))⟩
          · rw [sort_take HX.out]
            have h := HSO.out
            rw [HM.out] at h
            exact h.ins (key := id) HB.out hA
          · exact HRW.out)
        rcases List.eq_nil_or_concat A with hA | ⟨A', y, hA⟩
        · subst hA
          have HR9 := Lib.hid (HRL.out (.inl rfl))
          go_wp2
          go_region
          all_goals
            go_wp2
            go_roundw
            case rel => exact HR9.out.drew
            case measure => simp [intOf]; omega
        · have hA' : A = A' ++ [y] := by simpa using hA
          subst hA'
          obtain ⟨m, hm⟩ : ∃ m, m = A'.length := ⟨_, rfl⟩
          have HMM := Lib.hid hm
          have hal : (A' ++ [y]).length = m + 1 := by rw [hm]; simp
          rw [hal] at hAl ⊢
          have hcy : wr.cell? ⟨g7, o7 + m, none⟩ = some (.int .i64 y) := by
            rw [HRW.out.cellAt m (by omega)]
            exact icells_get (by rw [hm]; simp)
          have hcx : wr.cell? ⟨g7, o7 + (m + 1), none⟩ = some (.int .i64 x) := by
            rw [HRW.out.cellAt (m + 1) (by omega)]
            exact icells_get (by rw [hm]; simp)
          have e1 : ((m + 1 : Nat) : Int) - 1 = (m : Int) := by omega
          have f1 := (HRW.out.there m (by omega)).2
          have f2 := (HRW.out.there (m + 1) (by omega)).2
          clear hm hal hA
          by_cases hxy : x < y
          · have dxy : decide (x < y) = true := by simpa using hxy
            go_wp2
            go_region
            all_goals
              go_wp2
              go_region
              all_goals
                go_wp2
                go_roundw
                case rel =>
                  refine ⟨A', y :: B, by rw [HM.out]; simp, by rw [HMM.out], ?_, ?_, ?_⟩
                  · intro z hz
                    rcases List.mem_cons.1 hz with rfl | hz
                    · omega
                    · exact HB.out z hz
                  · have h := (HRW.out.stored m (.int .i64 x)).stored (m + 1) (.int .i64 y)
                    rw [← icells_set, ← icells_set, List.append_assoc, HMM.out] at h
                    rw [show ((A' ++ ([y] ++ x :: B)).set A'.length x).set (A'.length + 1) y = A' ++ x :: y :: B from set_swap A' B x y, ← HMM.out] at h
                    exact h.drew.drew
                  · refine Keep.drew (Keep.drew (Keep.setCell (Keep.setCell HKQ.out _ _ ?_) _ _ ?_)) <;> exact .inl (by simp [Value.ownBlock])
                case measure => simp [intOf]
          · have dxy : decide (x < y) = false := by simpa using hxy
            have HR9 := Lib.hid (HRL.out (.inr ⟨A', y, rfl, by omega⟩))
            go_wp2
            go_region
            all_goals
              go_wp2
              go_roundw
              case rel => exact HR9.out.drew
              case measure => simp [intOf]; omega
    · have hd1 : decide (k < l.length) = false := by rw [decide_eq_false_iff_not]; omega
      have hke : k = l.length := by omega
      have HKE := Lib.hid hke
      clear hke
      go_wp2
      go_ret
      have h := HSO.out
      rw [List.take_of_length_le (by have := HKE.out; omega)] at h
      have hml : M.length = k := by have := HROW.out.1; rw [icells_length] at this; omega
      exact ⟨M, _, rfl, h, by rw [hml]; exact HROW.out, HOWN.out, HK.out.mono (fun i hi h => by omega)⟩
end Go.Proofs.YtheaghgockafmaaGreat.Wd
