/- Files on blocks: Truncate. -/
import Derived.Test.YtcfllloilfahnaaTruncP
namespace Go.Proofs.Ytcfllloilfahnaa.Ino
open Go.RowKit Go.Maps Go.Proofs.Ytcfllloilfahnaa
set_option maxRecDepth 100000

/-- The end goes further, or stays. -/
theorem trunc_up {w : World} {F : Nat → Prop} {p s : Nat} {S : Sto} {size : Nat} {T : List Nat} (h : Fl w F p s S size T) (n : Nat) (hn : size ≤ n) (hm : n ≤ 102400) :
    Calls Try.prog 11 #[.pointer (some ⟨p, 0, none⟩), .int .i64 (n : Int)] w fun e w' => e = .returned .nilIface ∧ Fl w' F p s S n T ∧ Keep (fun x => x = p) w w' := by
  have H := Lib.hid h
  have HW := Lib.hid (works_any h.file)
  have c1 := h.file.cell 1
  simp only [List.getElem?_cons_succ, List.getElem?_cons_zero] at c1
  have f1 := frozen_of_row _ _ 1 _ _ h.file.head
  have hset := heap_setCell_at (i := 1) (.int .i64 (n : Int)) h.file.head
  have hk : Keep (fun x => x = p) w (w.setCell ⟨p, 1, none⟩ (.int .i64 (n : Int))) := (Keep.refl _ w).setCell _ _ (.inl rfl)
  obtain ⟨b, D, hs⟩ := h.file.sto
  have hend : Fl (w.setCell ⟨p, 1, none⟩ (.int .i64 (n : Int))) F p s S n T := ⟨⟨by simpa using hset, ⟨b, D, hs.keep hk (fun x hx e => h.file.pF (e ▸ hx))⟩, h.file.pF, h.file.len, h.file.fit⟩, h.ok, hm⟩
  have HE := Lib.hid hend; have HK := Lib.hid hk
  clear h hset hk hs hend
  have d1 : decide ((n : Int) < 0) = false := by rw [decide_eq_false_iff_not]; omega
  have d2 : decide (102400 < (n : Int)) = false := by rw [decide_eq_false_iff_not]; omega
  have d3 : decide ((size : Int) ≤ (n : Int)) = true := by rw [decide_eq_true_eq]; omega
  go_enter Try.func11, Try.ntmps11
  go_wp2_with (go_at_call 21; refine HW.out.mono ?_; rintro e w1 ⟨rfl, rfl⟩)
  go_ret
  exact ⟨rfl, HE.out, HK.out⟩

set_option maxHeartbeats 1000000 in
/-- The end comes nearer. -/
theorem trunc_down {w : World} {F : Nat → Prop} {p s : Nat} {S : Sto} {size : Nat} {T : List Nat} (h : Fl w F p s S size T) (n : Nat) (hn : n < size) :
    Calls Try.prog 11 #[.pointer (some ⟨p, 0, none⟩), .int .i64 (n : Int)] w fun e w' => e = .returned .nilIface ∧ ∃ F' S', Fl w' F' p s S' n (cutT T n) ∧ S'.most = S.most ∧ S'.nxt = S.nxt ∧ S' = (putAll S (cutT T n) (clearedL S T n size ++ pagedL T (cutT T n) 203)).without (givenL (cutT T n) T 203) ∧ Keep (fun x => F x ∨ x = p) w w' ∧ ∀ x, F' x → F x ∨ w.heap.size ≤ x := by
  have H := Lib.hid h
  have HW := Lib.hid (works_any h.file)
  have HCL := Lib.hid (cleared_any h.file h.ok.held n hn h.top)
  have htop := h.top
  have hT := h.ok.len
  have HCT := Lib.hid (fun w1 : World => cut_any (w := w1) hT n (by omega))
  have hor := cutT_or hT (n := n) (by omega)
  have hl2 := cutT_length hT (n := n) (by omega)
  have HOK := Lib.hid (cut_ok h.ok hl2 hor (clearedL S T n size ++ pagedL T (cutT T n) 203))
  have HND := Lib.hid (givenL_nodup (T := cutT T n) h.ok.inj 203)
  have c1 := h.file.cell 1
  simp only [List.getElem?_cons_succ, List.getElem?_cons_zero] at c1
  have HR := Lib.hid h.file.range
  have hll : (clearedL S T n size).length ≤ 60000 := by simp only [clearedL, List.length_map, List.length_range']; omega
  generalize cutT T n = T2 at *
  have hf2 : ∀ x ∈ T2, x < 4294967296 := fun x hx => by
    obtain ⟨j, hj, rfl⟩ := List.mem_iff_getElem.1 hx
    have e : T2[j] = tg T2 j := by rw [tg, List.getD_eq_getElem?_getD, List.getElem?_eq_getElem hj]; rfl
    rw [e]
    rcases hor j with e | e
    · rw [e]; exact h.file.fit _ (tg_mem (by omega))
    · omega
  have hhd : ∀ k, tg T2 k ≠ 0 → S.f (tg T2 k) ≠ none := fun k hk => by
    have e := (hor k).resolve_right hk
    rw [e] at hk ⊢
    exact h.ok.held k hk
  have HTR : Hid (∀ (w1 w2 : World) (lv : Value), ChgsAt w1 lv (clearedL S T n size) → Keep (fun _ => False) w w1 → (∀ x, lv.ownBlock = some x → w.heap.size ≤ x) → Keep (fun _ => False) w1 w2 → Calls Try.prog 25 #[.pointer (some ⟨p, 0, none⟩), tabV T2, .int .i64 (n : Int), lv] w2 fun e w' => e = .returned .nilIface ∧ ∃ F', IsFile w' F' p s ((putAll S T2 (clearedL S T n size ++ pagedL T T2 203)).without (givenL T2 T 203)) n T2 ∧ Keep (fun x => F x ∨ x = p ∨ lv.ownBlock = some x) w2 w' ∧ ∀ x, F' x → F x ∨ w2.heap.size ≤ x) := Lib.hid (fun w1 w2 lv hC k1 hO k2 => by
    have hlw := h.file.lt
    exact turn_any ((h.file.keep0 k1).keep0 k2) hl2 hf2 n (hC.keep (F := fun _ => False) k2 (fun _ _ h => h)) hll (fun x hx => ⟨fun hF => by have := hO x hx; have := hlw.1 x hF; omega, by have := hO x hx; omega⟩) (fun c _ => hhd c.k) HND.out (fun x hx => by
      obtain ⟨j, hj, h0, h2, h3⟩ := givenL_mem.1 hx
      rw [← h3]; exact h.ok.held j h2))
  clear h hor hf2 hhd
  have d1 : decide ((n : Int) < 0) = false := by rw [decide_eq_false_iff_not]; omega
  have d2 : decide (102400 < (n : Int)) = false := by rw [decide_eq_false_iff_not]; omega
  have d3 : decide ((size : Int) ≤ (n : Int)) = false := by rw [decide_eq_false_iff_not]; omega
  go_enter Try.func11, Try.ntmps11
  go_wp2_with (first | (go_at_call 21; refine HW.out.mono ?_; rintro e w1 ⟨rfl, rfl⟩) | (go_at_call 27; refine HCL.out.mono ?_; rintro e w1 ⟨lv, rfl, hc1, k1, o1⟩; have HC1 := Lib.hid hc1; have K1 := Lib.hid k1; have O1 := Lib.hid o1; clear hc1 k1 o1) | (refine wpList_load_tab rfl _ rfl p 2 T hT rfl (H.out.file.keep0 K1.out).range ?_) | (go_at_call 28; refine (HCT.out _).mono ?_; rintro e w2 ⟨rfl, k2⟩; have K2 := Lib.hid k2; clear k2) | (go_at_call 25; refine (HTR.out w1 w2 lv HC1.out K1.out O1.out K2.out).mono ?_; rintro e w3 ⟨rfl, F3, h3, k3, f3⟩; have H3 := Lib.hid h3; have K3 := Lib.hid k3; have F3' := Lib.hid f3; clear h3 k3 f3))
  go_ret
  have s1 := K1.out.size; have s2 := K2.out.size
  refine ⟨rfl, F3, _, ⟨H3.out, HOK.out.1, by omega⟩, HOK.out.2.1, HOK.out.2.2, rfl, ((K1.out.trans K2.out (fun _ h => h.elim)).mono (fun _ _ h => h.elim)).trans K3.out (fun x hx => ?_), fun x hx => ?_⟩
  · rcases hx with hx | hx | hx
    · exact .inl (.inl hx)
    · exact .inl (.inr hx)
    · exact .inr (O1.out x hx)
  · rcases F3'.out x hx with h | h
    · exact .inl h
    · exact .inr (by omega)

end Go.Proofs.Ytcfllloilfahnaa.Ino
