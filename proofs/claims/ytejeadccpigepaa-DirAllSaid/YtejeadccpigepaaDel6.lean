/- dirfs: the first entry without a name; entries without names taken out (under way). -/
import Derived.Test.YtejeadccpigepaaCmp6
namespace Go.Proofs.Ytejeadccpigepaa.Dir
open Go.RowKit Go.Maps Go.Proofs.Ytejeadccpigepaa Go.Proofs.Ytejeadccpigepaa.Ino
set_option maxRecDepth 100000

set_option maxHeartbeats 1000000 in
theorem indexF_any {w : World} {v : Value} {E : List Ent} (hr : Row w 51 2 v E.length (ecells E)) (hE : E.length ≤ 3200) : Calls Try.prog 34 #[v, .func (.func 23) #[] #[]] w fun e w' => e = .returned (.int .i64 (plcI (plc E []))) ∧ Keep (fun _ => False) w w' := by
  obtain ⟨ad, cap, rfl, hc1, hc2⟩ := hr.slice
  unfold maxLen at hc2
  have hen := Try.enList1
  obtain ⟨n, hn⟩ : ∃ n, n = E.length := ⟨_, rfl⟩
  obtain ⟨r, hrr⟩ : ∃ r, r = plcI (plc E []) := ⟨_, rfl⟩
  rw [← hrr]
  rw [← hn] at hr hE hc1 ⊢
  have HR := Lib.hid hr; have HN := Lib.hid hn; have HRR := Lib.hid hrr
  clear hr hn hrr
  go_enter Try.func34, Try.ntmps34
  go_wp2
  go_loopw [5, 8] (fun _ iv wr => PlR w E [] iv wr) (fun _ iv _ => n - (intOf iv).toNat)
  case atStart => exact ⟨0, by omega, rfl, Keep.refl _ _, fun j hj => by omega⟩
  case round =>
    obtain ⟨k, hk, rfl, hK, hall⟩ := hrel.ex
    have hkn : k ≤ n := by rw [HN.out]; exact hk
    have HK := Lib.hid hK; have HA := Lib.hid hall
    clear hK hall hrel hk
    by_cases hlt : k < n
    · have hd : decide (k < n) = true := by rw [decide_eq_true_eq]; omega
      obtain ⟨g0, o0, _, hv0, -, -⟩ := HR.out.full (by omega)
      simp only [Value.slice.injEq] at hv0
      obtain ⟨had, -, -⟩ := hv0
      subst had
      have hkE : k < E.length := by rw [← HN.out]; exact hlt
      have hg0 : g0 < w.heap.size := HR.out.lt (k := g0) rfl
      have c0 := (HK.out.cell hg0 (fun h => h) _).trans ((HR.out.cellAt (k * 2) (by omega)).trans (ecells_get0 E k hkE))
      have c1 := (HK.out.cell hg0 (fun h => h) _).trans ((HR.out.cellAt (k * 2 + 1) (by omega)).trans (ecells_get1 E k hkE))
      rw [← Nat.add_assoc] at c1
      obtain ⟨s2, hs2⟩ : ∃ s2 : ByteArray, s2 = ⟨E[k].1.toArray⟩ := ⟨_, rfl⟩
      obtain ⟨z, hz⟩ : ∃ z : Int, z = (E[k].2 : Int) := ⟨_, rfl⟩
      rw [← hs2] at c0
      rw [← hz] at c1
      have hs3 : s2.toList = E[k].1 := by rw [ByteArray.toList_eq, hs2]
      by_cases he : E[k].1 = []
      · have HL := Lib.hid (fun w : World => lempty_any s2 z (w := w) true (by rw [hs3, he]; rfl))
        have HP : Hid (plc E [] = some k) := Lib.hid (plc_some hkE he HA.out)
        clear hs2 hz hg0 he hs3
        go_wp2_with fail
        refine (HL.out _).mono ?_
        rintro e w1 ⟨rfl, k1⟩
        have K1 := Lib.hid (HK.out.trans k1 (fun _ h => h.elim))
        clear k1 c0 c1
        go_wp2_with fail
        go_ret
        exact ⟨by rw [HRR.out, HP.out]; rfl, K1.out⟩
      · have HL := Lib.hid (fun w : World => lempty_any s2 z (w := w) false (by rw [hs3]; simpa using he))
        have HNE := Lib.hid he
        clear hs2 hz hg0 he hs3
        go_wp2_with fail
        refine (HL.out _).mono ?_
        rintro e w1 ⟨rfl, k1⟩
        have K1 := Lib.hid (HK.out.trans k1 (fun _ h => h.elim))
        clear k1 c0 c1
        go_wp2_with fail
        go_roundw
        case rel => exact ⟨k + 1, by omega, by go_num, K1.out, fun j hj hjE => by
          by_cases e : j = k
          · subst e; exact HNE.out
          · exact HA.out j (by omega) hjE⟩
        case measure => simp [intOf]; omega
    · have hd : decide (k < n) = false := by rw [decide_eq_false_iff_not]; omega
      have HP : Hid (plc E [] = none) := Lib.hid (plc_none fun j hj => HA.out j (by have := HN.out; omega) hj)
      go_wp2
      go_ret
      exact ⟨by rw [HRR.out, HP.out]; rfl, HK.out⟩

/-- Has an entry a name? -/
def named (e : Ent) : Bool := !e.1.isEmpty

structure DlI (w0 : World) (g o cap n : Nat) (E : List Ent) (iv jv : Value) (wr : World) : Prop where
  ex : ∃ (i j : Nat) (J : List Ent), iv = .int .i64 (i : Int) ∧ jv = .int .i64 (j : Int) ∧ j ≤ n ∧ ((E.take j).filter named).length = i ∧ i + J.length = j ∧ 0 < J.length ∧ SoR w0 g o cap n ((E.take j).filter named ++ J ++ E.drop j) wr

theorem clear_two {w : World} {g o n c : Nat} (hn : 0 < n) (hc : ∀ j, j < n * 2 → (w.cell? ⟨g, o + j, none⟩).isSome = true ∧ w.frozen? ⟨g, o + j, none⟩ = false) (ty : TypeId) :
    ∃ vs : List Value, vs.length = n * 2 ∧ (Builtin.clear_ #[47] ty #[.slice (some ⟨g, o, none⟩) n c]).run Try.prog w = .ok (.tuple #[]) (w.setCells g o vs) := by
  have hv : ∀ w, (zeroValue 51).run Try.prog w = .ok (.agg #[.string ⟨#[]⟩, .int .i64 0]) w := fun w => by kernel_rfl
  obtain ⟨m, rfl⟩ : ∃ m, n = m + 1 := ⟨n - 1, by omega⟩
  refine ⟨(Builtin.zeroCells #[.string ⟨#[]⟩, .int .i64 0] (m + 1)).toList, by simp [Builtin.zeroCells], ?_⟩
  have hl : (Builtin.zeroCells #[Value.string ⟨#[]⟩, Value.int .i64 0] (m + 1)).toList.length = (m + 1) * 2 := by simp [Builtin.zeroCells]
  have hst := run_storeCells_cells (P := Try.prog) g o (Builtin.zeroCells #[Value.string ⟨#[]⟩, Value.int .i64 0] (m + 1)).toList 0 w (by rw [hl]; exact fun j hj => by simpa using (hc j hj).1) (by rw [hl]; exact fun j hj => by simpa using (hc j hj).2) (by
    intro v hv'
    simp [Builtin.zeroCells] at hv'
    obtain ⟨i, hi, rfl⟩ := hv'
    rcases (by omega : i % 2 = 0 ∨ i % 2 = 1) with e | e <;> simp [e, Value.oneCell'])
  simp only [Nat.add_zero] at hst
  simp [Builtin.clear_, run_underlying Try.underlying47, hv, Value.cells, hst]

/-- What DeleteFunc leaves: the entries that have names. -/
structure DlA (w0 : World) (g o cap n : Nat) (E : List Ent) (x : Ending) (w' : World) : Prop where
  ret : x = .returned (.slice (some ⟨g, o, none⟩) (E.filter named).length cap)
  row : Row w' 51 2 (.slice (some ⟨g, o, none⟩) (E.filter named).length cap) (E.filter named).length (ecells (E.filter named))
  keep : Keep (fun x => x = g) w0 w'

theorem Row.front {w : World} {e g o n cap k : Nat} {A B : List Value} (h : Row w e 2 (.slice (some ⟨g, o, none⟩) n cap) n (A ++ B)) (hk : A.length = k * 2) : Row w e 2 (.slice (some ⟨g, o, none⟩) k cap) k A := by
  obtain ⟨hl, hr⟩ := h
  rw [List.length_append] at hl
  rcases hr with ⟨h1, _⟩ | ⟨g', o', c', cur, lo, hi, hv, hg, h1, h2, h3, h4, h5⟩
  · simp at h1
  · simp only [Value.slice.injEq, Option.some.injEq, Addr.mk.injEq, and_true, true_and] at hv
    obtain ⟨⟨rfl, rfl⟩, rfl⟩ := hv
    refine ⟨hk, .inr ⟨g, o, cap, cur, lo, hi, rfl, hg, by omega, h2, h3, h4, ?_⟩⟩
    have : (cur.toList.drop o).take (k * 2) = ((cur.toList.drop o).take (n * 2)).take (k * 2) := by rw [List.take_take, Nat.min_eq_left (by omega)]
    rw [this, h5, List.take_append_of_le_length (by omega), List.take_of_length_le (by omega)]

set_option maxHeartbeats 2000000 in
theorem deleteF_some {w : World} {g o cap n : Nat} {E : List Ent} (h : SoR w g o cap n E w) (hE : n ≤ 3200) (hnc : n ≤ cap) (hcm : cap ≤ maxLen) {i0 : Nat} (hp : plc E [] = some i0) :
    Calls Try.prog 22 #[.slice (some ⟨g, o, none⟩) n cap, .func (.func 23) #[] #[]] w (DlA w g o cap n E) := by
  have hen := Try.enList1
  have hlen := h.len
  have HI : Hid (Calls Try.prog 34 #[.slice (some ⟨g, o, none⟩) n cap, .func (.func 23) #[] #[]] w fun e w' => e = .returned (.int .i64 (i0 : Int)) ∧ Keep (fun _ => False) w w') := Lib.hid (by
    have := indexF_any (v := .slice (some ⟨g, o, none⟩) n cap) (E := E) (by rw [hlen]; exact h.row) (by omega)
    rw [hp] at this; exact this)
  have hp2 := hp
  unfold plc at hp2
  rw [List.findIdx?_eq_some_iff_getElem] at hp2
  obtain ⟨hi0, hi1, hi2⟩ := hp2
  have H0 : Hid (∀ w1, Keep (fun _ => False) w w1 → DlI w g o cap n E (.int .i64 (i0 : Int)) (.int .i64 ((i0 : Int) + 1)) w1) := Lib.hid (fun w1 k1 => by
    have hf : (E.take (i0 + 1)).filter named = E.take i0 := by
      rw [List.take_succ_eq_append_getElem hi0, List.filter_append]
      have e1 : [E[i0]].filter named = [] := by
        have : E[i0].1 = [] := by simpa using hi1
        simp [named, this]
      rw [e1, List.append_nil, List.filter_eq_self]
      intro a ha
      obtain ⟨j, hj, rfl⟩ := List.mem_iff_getElem.1 ha
      have hj' : j < i0 := by simp at hj; omega
      have := hi2 j hj'
      rw [List.getElem_take]
      simpa [named] using this
    refine ⟨i0, i0 + 1, [E[i0]], rfl, by go_num, by omega, by rw [hf, List.length_take]; omega, rfl, by simp, ?_⟩
    rw [hf]
    have e : E.take i0 ++ [E[i0]] ++ E.drop (i0 + 1) = E := by rw [← List.take_succ_eq_append_getElem hi0, List.take_append_drop]
    rw [e]; exact h.go k1)
  have hin : i0 < n := by omega
  have HLEN := Lib.hid hlen
  have hne1 : ((i0 : Int) == -1) = false := by rw [beq_eq_false_iff_ne]; omega
  have HCM := Lib.hid hcm
  unfold maxLen at hcm
  clear h hp hi0 hi1 hi2 hlen
  go_enter Try.func22, Try.ntmps22
  go_wp2_with (go_at_call 34; (with_reducible refine HI.out.mono ?_); rintro e w1 ⟨rfl, k1⟩; have H1 := Lib.hid (H0.out w1 k1); clear k1)
  clear hne1
  go_loopw [5, 6, 7] (fun iv jv _ wr => DlI w g o cap n E iv jv wr) (fun _ jv _ _ => n - (intOf jv).toNat)
  case atStart => exact H1.out
  case round =>
    obtain ⟨i, j, J, rfl, rfl, hjn, hil, hij, hJ, hS⟩ := hrel.ex
    have HIL := Lib.hid hil; have HS := Lib.hid hS; have HIJ := Lib.hid hij
    have hilt : i < j := by omega
    clear hil hS hrel H1 H0 hij
    by_cases hlt : j < n
    · have hd : decide (j < n) = true := by rw [decide_eq_true_eq]; omega
      have hjE : j < E.length := by rw [HLEN.out]; exact hlt
      obtain ⟨y, J1, hJ1⟩ := List.exists_cons_of_ne_nil (l := J) (fun e => by rw [e] at hJ; simp at hJ)
      obtain ⟨x, hx⟩ : ∃ x, x = E[j] := ⟨_, rfl⟩
      have hdr : E.drop j = x :: E.drop (j + 1) := by rw [hx]; exact List.drop_eq_getElem_cons hjE
      have hS := HS.out
      rw [hdr] at hS
      have hq : ((E.take j).filter named ++ J ++ x :: E.drop (j + 1))[j]? = some x := by
        rw [List.getElem?_append_right (by have := HIL.out; have := HIJ.out; simp only [List.length_append]; omega)]
        have e : j - ((E.take j).filter named ++ J).length = 0 := by have := HIL.out; have := HIJ.out; simp only [List.length_append]; omega
        rw [e]; rfl
      have hql := (List.getElem?_eq_some_iff.1 hq).1
      obtain ⟨cx0, cx1, _, _⟩ := hS.cell (i := j) hlt hql
      rw [(List.getElem?_eq_some_iff.1 hq).2] at cx0 cx1
      have hgl : g < wr.heap.size := hS.row.lt (k := g) rfl
      have hto : (⟨x.1.toArray⟩ : ByteArray).toList = x.1 := by rw [ByteArray.toList_eq]
      have htk : E.take (j + 1) = E.take j ++ [x] := by rw [hx]; exact List.take_succ_eq_append_getElem hjE
      have HTK := Lib.hid htk; have HS2 := Lib.hid hS; have HJ1 := Lib.hid hJ1
      clear hdr hq hql hS hx htk hJ1
      by_cases hnm : named x = true
      · have HL := Lib.hid (fun w : World => lempty_any ⟨x.1.toArray⟩ (x.2 : Int) (w := w) false (by rw [hto]; simpa [named] using hnm))
        have HNM := Lib.hid hnm
        clear hto hnm
        go_wp2_with fail
        refine (HL.out _).mono ?_
        rintro e w2 ⟨rfl, k2⟩
        have hS3 := (HS2.out.go ((Keep.refl (fun _ => False) wr).alloc (.cells #[.string ⟨x.1.toArray⟩, .int .i64 (x.2 : Int)] 51))).go k2
        have hE2 : w2.heap[wr.heap.size]? = some (.cells #[.string ⟨x.1.toArray⟩, .int .i64 (x.2 : Int)] 51 (0, 0)) := (k2.block wr.heap.size (by simp) (fun h => h)).trans (heap_alloc_new wr _)
        have v0 : w2.cell? ⟨wr.heap.size, 0, none⟩ = some (.string ⟨x.1.toArray⟩) := cell_of_row _ _ _ _ _ _ hE2
        have v1 : w2.cell? ⟨wr.heap.size, 1, none⟩ = some (.int .i64 (x.2 : Int)) := cell_of_row _ _ _ _ _ _ hE2
        obtain ⟨b0, b1, f0, f1⟩ := hS3.cell (i := i) (by omega) (by have := hS3.len; omega)
        obtain ⟨u0, d0⟩ : ∃ u, w2.cell? ⟨g, o + i * 2, none⟩ = some u := ⟨_, b0⟩
        obtain ⟨u1, d1⟩ : ∃ u, w2.cell? ⟨g, o + i * 2 + 1, none⟩ = some u := ⟨_, b1⟩
        have hin3 : i < n := by omega
        have HNEW : Hid (DlI w g o cap n E (.int .i64 ((i : Int) + 1)) (.int .i64 ((j : Int) + 1)) ((w2.setCell ⟨g, o + i * 2, none⟩ (.string ⟨x.1.toArray⟩)).setCell ⟨g, o + i * 2 + 1, none⟩ (.int .i64 (x.2 : Int)))) := Lib.hid (by
          have hf : (E.take (j + 1)).filter named = (E.take j).filter named ++ [x] := by rw [HTK.out, List.filter_append]; simp [HNM.out]
          have h1 := hS3.put i x
          have hset : ((E.take j).filter named ++ J ++ x :: E.drop (j + 1)).set i x = (E.take j).filter named ++ [x] ++ (J1 ++ [x]) ++ E.drop (j + 1) := by
            rw [HJ1.out, List.append_assoc, List.set_append_right _ _ (by rw [HIL.out]; omega), HIL.out, Nat.sub_self]
            simp
          rw [hset] at h1
          refine ⟨i + 1, j + 1, J1 ++ [x], by go_num, by go_num, by omega, by rw [hf, List.length_append, HIL.out]; rfl, ?_, by simp, by rw [hf]; exact h1⟩
          have := HIJ.out; rw [HJ1.out] at this; simp at this ⊢; omega)
        have hgw : g < w2.heap.size := hS3.row.lt (k := g) rfl
        clear k2 cx0 cx1 b0 b1 hS3 hE2
        go_wp2_with fail
        go_roundw
        case rel => exact HNEW.out
        case measure => simp [intOf]; omega
      · have HL := Lib.hid (fun w : World => lempty_any ⟨x.1.toArray⟩ (x.2 : Int) (w := w) true (by rw [hto]; simpa [named] using hnm))
        have HNM := Lib.hid hnm
        clear hto hnm
        go_wp2_with fail
        refine (HL.out _).mono ?_
        rintro e w2 ⟨rfl, k2⟩
        have HS3 := Lib.hid ((HS2.out.go ((Keep.refl (fun _ => False) wr).alloc (.cells #[.string ⟨x.1.toArray⟩, .int .i64 (x.2 : Int)] 51))).go k2)
        clear k2 cx0 cx1
        go_wp2_with fail
        go_roundw
        case rel =>
          have hf : (E.take (j + 1)).filter named = (E.take j).filter named := by rw [HTK.out, List.filter_append]; simp [HNM.out]
          refine ⟨i, j + 1, J ++ [x], rfl, by go_num, by omega, by rw [hf]; exact HIL.out, by have := HIJ.out; simp; omega, by simp, ?_⟩
          rw [hf]
          have := HS3.out
          simpa using this
        case measure => simp [intOf]; omega
    · have hd : decide (j < n) = false := by rw [decide_eq_false_iff_not]; omega
      obtain rfl : j = n := by omega
      have htake : E.take j = E := List.take_of_length_le (by rw [HLEN.out]; omega)
      have hdrop : E.drop j = [] := List.drop_eq_nil_of_le (by rw [HLEN.out]; omega)
      have hS := HS.out
      have hil := HIL.out
      rw [htake, hdrop, List.append_nil] at hS
      rw [htake] at hil
      have hnn : 0 < j - i := by omega
      obtain ⟨m, hm⟩ : ∃ m, m = j - i := ⟨_, rfl⟩
      obtain ⟨vs, hvl, hclr⟩ := clear_two (w := wr) (g := g) (o := o + i * 2) (n := j - i) (c := cap - i) hnn (fun q hq => by
        have := hS.row.there (i * 2 + q) (by omega)
        rwa [← Nat.add_assoc] at this) 0
      have HEND : Hid (DlA w g o cap j E (.returned (.slice (some ⟨g, o, none⟩) i cap)) (wr.setCells g (o + i * 2) vs)) := Lib.hid (by
        have hJl : J.length = j - i := by have := HIJ.out; omega
        have hr := hS.row.setCells (i * 2) vs (by omega)
        have e : splice (ecells (E.filter named ++ J)) (i * 2) vs = ecells (E.filter named) ++ vs := by
          unfold splice
          rw [ecells_append, List.take_append_of_le_length (by rw [ecells_length, hil]; omega), List.take_of_length_le (by rw [ecells_length, hil]; omega), List.drop_eq_nil_of_le (by rw [List.length_append, ecells_length, ecells_length, hil]; omega), List.append_nil]
        rw [e] at hr
        refine ⟨by rw [hil], ?_, keep_setCells g vs _ wr hS.keep (.inl rfl)⟩
        rw [hil]
        exact Row.front hr (by rw [ecells_length, hil]))
      have hin3 : i < j := hilt
      have hij2 : (0 : Int) ≤ (i : Int) := by omega
      have hij3 : (i : Int) ≤ (j : Int) := by omega
      clear hS hil htake hdrop hvl hm
      go_wp2_with fail
      go_ret
      exact HEND.out

end Go.Proofs.Ytejeadccpigepaa.Dir
