/- Files on blocks: the indirect blocks' changes. -/
import Derived.Test.YtejeadccpigepaaChgB
namespace Go.Proofs.Ytejeadccpigepaa.Ino
open Go.RowKit Go.Maps Go.Proofs.Ytejeadccpigepaa
set_option maxRecDepth 100000

set_option maxHeartbeats 1000000 in
theorem paged_any {w : World} {p : Nat} {x0 x1 : Value} {T T' : List Nat} (hT : T.length = 203) (hT' : T'.length = 203) (hf : ∀ x ∈ T, x < 4294967296) (hf' : ∀ x ∈ T', x < 4294967296) (h1 : w.heap[p]? = some (.cells (x0 :: x1 :: tabL T).toArray 58 (0, 0))) {tb : Nat} (h4 : w.heap[tb]? = some (.cells (tabL T').toArray 56 (0, 0))) :
    Calls Try.prog 54 #[.pointer (some ⟨p, 0, none⟩), .pointer (some ⟨tb, 0, none⟩)] w fun e w' => ∃ v, e = .returned v ∧ ChgsAt w' v (pagedL T T' 203) ∧ Keep (fun _ => False) w w' ∧ ∀ b, v.ownBlock = some b → w.heap.size ≤ b := by
  have H1 := Lib.hid h1; have H4 := Lib.hid h4; have HF := Lib.hid hf; have HF' := Lib.hid hf'
  clear h1 h4 hf hf'
  obtain ⟨Z, hzc, hzs⟩ := zChg
  go_enter Try.func54, Try.ntmps54
  go_wp2
  go_loopw [5, 6] (fun lv i wr => PgdR w T T' i lv wr) (fun _ i _ => 203 - (intOf i).toNat)
  case atStart => exact ⟨200, by omega, by omega, rfl, ChgsAt.nil w, Keep.refl _ w, fun b hb => by simp [Value.ownBlock] at hb⟩
  case round =>
    obtain ⟨k, hk0, hk3, rfl, hC, hK, hO⟩ := hrel.ex
    have HC := Lib.hid hC; have HK := Lib.hid hK; have HO := Lib.hid hO
    clear hC hK hO
    by_cases hlt : k < 203
    · have hk : k = 200 ∨ k = 201 ∨ k = 202 := by omega
      have c1 : wr.rangeAt p 2 (tabL T) := fun j v hv => by
        rw [cell_of_row _ _ _ _ _ _ ((HK.out.block p (lt_of_block H1.out) (fun h => h)).trans H1.out)]
        simpa [Nat.add_comm 2 j] using hv
      have c2 : wr.rangeAt tb 0 (tabL T') := fun j v hv => by
        rw [cell_of_row _ _ _ _ _ _ ((HK.out.block tb (lt_of_block H4.out) (fun h => h)).trans H4.out)]
        simpa using hv
      have C1 := Lib.hid c1; have C2 := Lib.hid c2
      clear c1 c2
      have P1 : Hid (Calls Try.prog 68 #[.pointer (some ⟨p, 2, none⟩), .int .i64 (k : Int)] wr fun e w' => e = .returned (.agg (blkC (page T k))) ∧ Keep (fun _ => False) wr w') := Lib.hid (page_any (.inr rfl) hT HF.out C1.out k hk _ rfl)
      have P2 : ∀ w1 : World, Keep (fun _ => False) wr w1 → Calls Try.prog 68 #[.pointer (some ⟨tb, 0, none⟩), .int .i64 (k : Int)] w1 fun e w' => e = .returned (.agg (blkC (page T' k))) ∧ Keep (fun _ => False) w1 w' := fun w1 k1 => page_any (.inl rfl) hT' HF'.out (fun j v hv => (k1.cell (b := tb) (World.block_lt_of_cell? _ _ (C2.out j v hv)) (fun h => h) _).trans (C2.out j v hv)) k hk _ rfl
      have HP2 := Lib.hid P2
      clear P2 C1 C2
      have hl1 := page_length hT hk
      have hl2 := page_length hT' hk
      have HS := Lib.hid (pagedL_step T T' hk0)
      have hkk : decide ((k : Int) < 203) = true := by rw [decide_eq_true_eq]; omega
      go_wp2_with fail
      refine P1.out.mono ?_
      rintro e w1 ⟨rfl, k1⟩
      have K1 := Lib.hid k1
      clear k1
      go_wp2_with fail
      refine (HP2.out w1 K1.out).mono ?_
      rintro e w2 ⟨rfl, k2⟩
      have K2 := Lib.hid k2
      clear k2 P1 HP2
      generalize page T k = A at *
      generalize page T' k = B at *
      have HO1 : Hid (Chg.Ok ⟨k, A, B⟩) := Lib.hid ⟨hlt, hl1, hl2⟩
      go_wp2_with (first | refine wpList_build_chg rfl _ _ _ rfl k A B hl1 hl2 rfl rfl rfl ?_ | (refine wpList_store_chg rfl _ _ rfl w2.heap.size Z ⟨k, A, B⟩ hzs HO1.out rfl rfl (heap_alloc_new w2 _) ?_; intro w4 h4 k4 s4; have H5 := Lib.hid h4; have K5 : Hid (Keep (fun _ => False) wr w4) := Lib.hid ((((K1.out.trans K2.out (fun _ h => h.elim)).alloc _).trans k4 (fun x e => .inr (by have := (K1.out.trans K2.out (fun _ h => h.elim)).size; omega)))); have R4 := Lib.hid (Chg.range HO1.out h4); clear h4 k4 s4) | refine wpList_load_blk rfl _ rfl w2.heap.size 513 B hl2 rfl R4.out.2 ?_ | refine wpList_load_blk rfl _ rfl w2.heap.size 1 A hl1 rfl R4.out.1 ?_ | refine wpList_neq_blk rfl _ _ rfl B A hl2 hl1 rfl rfl ?_ | refine wpList_load_chg rfl _ rfl w2.heap.size ⟨k, A, B⟩ HO1.out rfl H5.out ?_ | refine wpList_one_chg rfl _ rfl ⟨k, A, B⟩ HO1.out rfl ?_ | (refine wpList_append_chgs rfl _ _ rfl rfl (HC.out.keep (K5.out.alloc _) (fun _ _ h => h)) rfl (ChgsAt.made w4 _ HO1.out) (by have := pagedL_length T T' hk3; simp only [List.length_singleton]; omega) ?_; intro v6 w6 h6 k6 f6; have H6 := Lib.hid h6; have K6 := Lib.hid k6; have F6 := Lib.hid f6; clear h6 k6 f6))
      · have hB : ¬ B = A := fun e => by rename_i hh; simp [e] at hh
        have hs := HS.out
        rw [if_neg hB] at hs
        have HH := Lib.hid (hs ▸ H6.out)
        go_roundw
        case rel => exact ⟨k + 1, by omega, by omega, by go_num, HH.out, (HK.out.trans (K5.out.alloc _) (fun _ h => h.elim)).trans K6.out (fun x e => .inr (HO.out x e)), fun b hb => by
          rcases F6.out b hb with h | h
          · exact HO.out b h
          · have h1 := HK.out.size; have h2 := K5.out.size; have h3 := h.1; simp at h3; omega⟩
        case measure => simp [intOf]; omega
      · have hB : B = A := by rename_i hh; simpa using hh
        have hs := HS.out
        rw [if_pos hB, List.append_nil] at hs
        go_roundw
        case rel => exact ⟨k + 1, by omega, by omega, by go_num, by rw [hs]; exact HC.out.keep K5.out (fun _ _ h => h), HK.out.trans K5.out (fun _ h => h.elim), HO.out⟩
        case measure => simp [intOf]; omega
    · have hd : ¬ (k : Int) < 203 := by omega
      obtain rfl : k = 203 := by omega
      clear hlt
      go_wp2
      go_ret
      exact ⟨_, rfl, HC.out, HK.out, HO.out⟩

end Go.Proofs.Ytejeadccpigepaa.Ino
