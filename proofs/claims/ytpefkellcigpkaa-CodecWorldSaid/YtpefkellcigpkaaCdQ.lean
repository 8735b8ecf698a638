/- codec: lists of numbers and texts, read. -/
import Derived.Test.YtpefkellcigpkaaCdO
namespace Go.Proofs.Ytpefkellcigpkaa.Cd
open Go.RowKit Go.Proofs.Ytpefkellcigpkaa
set_option maxRecDepth 100000

theorem cN_dec (r : R) : cN.dec r = decN r := rfl

theorem readI_e : ReadE 65 eI scalar := by
  intro B w g S h _
  have HB := Lib.hid (nextInt_any h)
  clear h
  go_enter Try.func65, Try.ntmps65
  go_wp2_with fail
  refine HB.out.mono ?_
  rintro e w2 ⟨rfl, hr, hk⟩
  have HR := Lib.hid hr
  have HK := Lib.hid hk
  clear hr hk
  go_wp2
  go_ret
  exact ⟨[Value.int .i64 _], rfl, rfl, HR.out, HK.out⟩

theorem infoElI : ∃ (i : TypeInfo) (z : Value), Try.prog.info? 3 = some i ∧ i.zero = some z ∧ i.size = 1 ∧ i.bytes = 8 ∧ z.cells.size = 1 := by
  have h : (Try.prog.info? 3).bind (fun i => i.zero.map fun z => (i.size, i.bytes, z.cells.size)) = some (1, 8, 1) := by kernel_rfl
  obtain ⟨i, h1, h2⟩ := Option.bind_eq_some_iff.1 h
  obtain ⟨z, h3, h4⟩ := Option.map_eq_some_iff.1 h2
  simp only [Prod.mk.injEq] at h4
  exact ⟨i, z, h1, h3, h4.1, h4.2.1, h4.2.2⟩

theorem Try.enReadI : ∀ args w, (callFunc 65 args).run Try.prog w = .ok (.enter 65 args) w := enters_of Try.func65 (by kernel_rfl) rfl

theorem readListI_any {B : Nat} {w : World} {g : Nat} {S : R} (h : RdAt B w g S) (hB : B ≤ w.heap.size) : Calls Try.prog 64 #[.pointer (some ⟨g, 0, none⟩), .func (.func 65) #[] #[]] w (RlA eI B w g ((cList eI.c).dec S)) := by
  have HB := Lib.hid (nextLength_any h)
  have HBB := Lib.hid hB
  have HG := Lib.hid h.lt
  have e : (cList eI.c).dec S = loopD eI.c.dec (decL S).1 (decL S).2 := rfl
  rw [e]
  have hlt := decL_lt S
  clear h e hB
  generalize decL S = q at *
  obtain ⟨n, S2⟩ := q
  simp only at HB hlt ⊢
  have hn1 : (n : Int) ≤ 2147483647 := by omega
  obtain ⟨ie, z, q1, q2, q3, q4, q5⟩ := infoElI
  go_enter Try.func64, Try.ntmps64
  go_wp2_with fail
  refine HB.out.mono ?_
  rintro e w2 ⟨rfl, hr, hk⟩
  have HR := Lib.hid hr
  have HK := Lib.hid hk
  clear hr hk
  go_wp2_with fail
  go_loopw [5, 6] (fun v i wr => RlR eI 3 B w g n S2 v i wr) (fun _ i _ => (intOf i).toNat)
  case atStart => exact ⟨[], n, S2, rfl, ⟨none, 0, rfl⟩, Own.nil _ _ _ _, HR.out, HK.out, by simp, by simp⟩
  case round =>
    obtain ⟨acc, m, S3, rfl, ⟨av, cv, rfl⟩, hO, hr3, hk3, hm, hL⟩ := hrel.ex
    clear hrel
    have HO := Lib.hid hO
    have HR3 := Lib.hid hr3
    have HK3 := Lib.hid hk3
    have HL := Lib.hid hL
    have HM := Lib.hid hm
    have hmi : (m : Int) ≤ 2147483647 := by omega
    obtain ⟨br, hbr⟩ : ∃ br, br = S3.br := ⟨_, rfl⟩
    have HBR := Lib.hid hbr
    have c1 : wr.cell? ⟨g, 1, none⟩ = some (.bool br) := by
      obtain ⟨_, _, _, hx, _⟩ := hr3.ex
      rw [hbr]; exact (cell_of_row wr g 1 _ _ _ hx).trans rfl
    clear hO hr3 hk3 hL hm hbr
    by_cases h0 : m = 0
    · subst h0
      go_wp2
      go_ret
      exact ⟨_, rfl, (by have h9 := HL.out; simp only [loopD, List.append_nil] at h9; rw [h9]; exact HO.out.at), (by have h9 := HL.out; simp only [loopD] at h9; rw [h9]; exact HR3.out), HK3.out⟩
    · cases br with
      | true =>
        have hpos : 0 < (m : Int) := by omega
        go_wp2
        go_ret
        have h9 := HL.out
        rw [loopD_br _ m S3 HBR.out.symm, List.append_nil] at h9
        exact ⟨_, rfl, (by rw [h9]; exact HO.out.at), (by rw [h9]; exact HR3.out), HK3.out⟩
      | false =>
        have hpos : 0 < (m : Int) := by omega
        obtain ⟨m', hm'⟩ : ∃ m', m = m' + 1 := ⟨m - 1, by omega⟩
        subst hm'
        have HL2 : Hid (loopD eI.c.dec n S2 = ((acc ++ [(eI.c.dec S3).1]) ++ (loopD eI.c.dec m' (eI.c.dec S3).2).1, (loopD eI.c.dec m' (eI.c.dec S3).2).2)) := Lib.hid (by
          have h9 := HL.out
          rw [loopD, if_neg (by rw [← HBR.out]; simp)] at h9
          rw [h9]; simp)
        have HC := Lib.hid (readI_e HR3.out (by have := HBB.out; have := HK3.out.size; omega))
        generalize eI.c.dec S3 = qq at *
        obtain ⟨x, S4⟩ := qq
        simp only at HC HL2
        have hen := Try.enReadI
        clear h0
        go_wp2_with fail
        refine HC.out.mono ?_
        rintro e w3 ⟨cs, rfl, hH, hr4, k4⟩
        obtain ⟨css, r1, d2, d3, d4⟩ := HO.out.ex
        have HD := Lib.hid (And.intro d2 (And.intro d3 d4))
        have hF : ∀ b, w.heap.size ≤ b → ¬ b = g := fun b hb e => by have := HG.out; omega
        have HF := Lib.hid hF
        have HH := Lib.hid hH
        have HK4 := Lib.hid k4
        have HR4 := Lib.hid hr4
        have HRW := Lib.hid (r1.keep k4 (fun b e => hF b (HO.out.new b e)))
        have hcs : cs = [Value.int .i64 x] := hH
        have HSRC := Lib.hid (src_agg (w := w3) (t := 3) (C := #[Value.int .i64 x]) (cs := [Value.int .i64 x]) Try.underlying42 rfl rfl (by simp [Value.oneCell']) w3.heap.size rfl)
        have HCSS := Lib.hid hcs
        rw [show scalar cs = Value.int .i64 x by rw [hcs]; rfl]
        clear hcs
        have hacc : acc.length + 1 ≤ 2147483648 := by have := HM.out; omega
        clear hH hr4 k4 r1 d2 d3 d4 hF
        go_wp2_with (first
          | (refine wpList_append_row _ rfl (.tmp 20) (.tmp 24) rfl Try.underlying42 q1 q2 q3 q4 q5 rfl (HRW.out.alloc _) rfl HSRC.out (by unfold maxLen; omega) (by omega) ?_
             intro v5 w5 r5 k5 n5 _
             have R5 := Lib.hid r5
             have K5 := Lib.hid k5
             have N5 := Lib.hid n5
             obtain ⟨a5, c5, hv5, _, _⟩ := r5.slice
             subst hv5
             clear r5 k5 n5))
        go_roundw
        case rel =>
          (repeat apply Exists.intro)
          refine RlR.step HO.out HD.out.1 HD.out.2.1 HD.out.2.2 HK4.out HF.out (by have := HK3.out.size; omega) HH.out (by rw [HCSS.out]; exact R5.out) K5.out N5.out HR4.out HBB.out HG.out HK3.out HM.out HL2.out rfl
        case measure => simp [intOf]

theorem readS_e : ReadE 79 eS scalar := by
  intro B w g S h _
  have HB := Lib.hid (nextText_any h)
  clear h
  go_enter Try.func79, Try.ntmps79
  go_wp2_with fail
  refine HB.out.mono ?_
  rintro e w2 ⟨rfl, hr, hk⟩
  have HR := Lib.hid hr
  have HK := Lib.hid hk
  clear hr hk
  go_wp2
  go_ret
  exact ⟨[Value.string _], rfl, rfl, HR.out, HK.out⟩

theorem infoElS : ∃ (i : TypeInfo) (z : Value), Try.prog.info? 9 = some i ∧ i.zero = some z ∧ i.size = 1 ∧ i.bytes = 16 ∧ z.cells.size = 1 := by
  have h : (Try.prog.info? 9).bind (fun i => i.zero.map fun z => (i.size, i.bytes, z.cells.size)) = some (1, 16, 1) := by kernel_rfl
  obtain ⟨i, h1, h2⟩ := Option.bind_eq_some_iff.1 h
  obtain ⟨z, h3, h4⟩ := Option.map_eq_some_iff.1 h2
  simp only [Prod.mk.injEq] at h4
  exact ⟨i, z, h1, h3, h4.1, h4.2.1, h4.2.2⟩

theorem Try.enReadS : ∀ args w, (callFunc 79 args).run Try.prog w = .ok (.enter 79 args) w := enters_of Try.func79 (by kernel_rfl) rfl

theorem readListS_any {B : Nat} {w : World} {g : Nat} {S : R} (h : RdAt B w g S) (hB : B ≤ w.heap.size) : Calls Try.prog 78 #[.pointer (some ⟨g, 0, none⟩), .func (.func 79) #[] #[]] w (RlA eS B w g ((cList eS.c).dec S)) := by
  have HB := Lib.hid (nextLength_any h)
  have HBB := Lib.hid hB
  have HG := Lib.hid h.lt
  have e : (cList eS.c).dec S = loopD eS.c.dec (decL S).1 (decL S).2 := rfl
  rw [e]
  have hlt := decL_lt S
  clear h e hB
  generalize decL S = q at *
  obtain ⟨n, S2⟩ := q
  simp only at HB hlt ⊢
  have hn1 : (n : Int) ≤ 2147483647 := by omega
  obtain ⟨ie, z, q1, q2, q3, q4, q5⟩ := infoElS
  go_enter Try.func78, Try.ntmps78
  go_wp2_with fail
  refine HB.out.mono ?_
  rintro e w2 ⟨rfl, hr, hk⟩
  have HR := Lib.hid hr
  have HK := Lib.hid hk
  clear hr hk
  go_wp2_with fail
  go_loopw [5, 6] (fun v i wr => RlR eS 9 B w g n S2 v i wr) (fun _ i _ => (intOf i).toNat)
  case atStart => exact ⟨[], n, S2, rfl, ⟨none, 0, rfl⟩, Own.nil _ _ _ _, HR.out, HK.out, by simp, by simp⟩
  case round =>
    obtain ⟨acc, m, S3, rfl, ⟨av, cv, rfl⟩, hO, hr3, hk3, hm, hL⟩ := hrel.ex
    clear hrel
    have HO := Lib.hid hO
    have HR3 := Lib.hid hr3
    have HK3 := Lib.hid hk3
    have HL := Lib.hid hL
    have HM := Lib.hid hm
    have hmi : (m : Int) ≤ 2147483647 := by omega
    obtain ⟨br, hbr⟩ : ∃ br, br = S3.br := ⟨_, rfl⟩
    have HBR := Lib.hid hbr
    have c1 : wr.cell? ⟨g, 1, none⟩ = some (.bool br) := by
      obtain ⟨_, _, _, hx, _⟩ := hr3.ex
      rw [hbr]; exact (cell_of_row wr g 1 _ _ _ hx).trans rfl
    clear hO hr3 hk3 hL hm hbr
    by_cases h0 : m = 0
    · subst h0
      go_wp2
      go_ret
      exact ⟨_, rfl, (by have h9 := HL.out; simp only [loopD, List.append_nil] at h9; rw [h9]; exact HO.out.at), (by have h9 := HL.out; simp only [loopD] at h9; rw [h9]; exact HR3.out), HK3.out⟩
    · cases br with
      | true =>
        have hpos : 0 < (m : Int) := by omega
        go_wp2
        go_ret
        have h9 := HL.out
        rw [loopD_br _ m S3 HBR.out.symm, List.append_nil] at h9
        exact ⟨_, rfl, (by rw [h9]; exact HO.out.at), (by rw [h9]; exact HR3.out), HK3.out⟩
      | false =>
        have hpos : 0 < (m : Int) := by omega
        obtain ⟨m', hm'⟩ : ∃ m', m = m' + 1 := ⟨m - 1, by omega⟩
        subst hm'
        have HL2 : Hid (loopD eS.c.dec n S2 = ((acc ++ [(eS.c.dec S3).1]) ++ (loopD eS.c.dec m' (eS.c.dec S3).2).1, (loopD eS.c.dec m' (eS.c.dec S3).2).2)) := Lib.hid (by
          have h9 := HL.out
          rw [loopD, if_neg (by rw [← HBR.out]; simp)] at h9
          rw [h9]; simp)
        have HC := Lib.hid (readS_e HR3.out (by have := HBB.out; have := HK3.out.size; omega))
        generalize eS.c.dec S3 = qq at *
        obtain ⟨x, S4⟩ := qq
        simp only at HC HL2
        have hen := Try.enReadS
        clear h0
        go_wp2_with fail
        refine HC.out.mono ?_
        rintro e w3 ⟨cs, rfl, hH, hr4, k4⟩
        obtain ⟨css, r1, d2, d3, d4⟩ := HO.out.ex
        have HD := Lib.hid (And.intro d2 (And.intro d3 d4))
        have hF : ∀ b, w.heap.size ≤ b → ¬ b = g := fun b hb e => by have := HG.out; omega
        have HF := Lib.hid hF
        have HH := Lib.hid hH
        have HK4 := Lib.hid k4
        have HR4 := Lib.hid hr4
        have HRW := Lib.hid (r1.keep k4 (fun b e => hF b (HO.out.new b e)))
        have hcs : cs = [Value.string x] := hH
        have HSRC := Lib.hid (src_agg (w := w3) (t := 9) (C := #[Value.string x]) (cs := [Value.string x]) Try.underlying63 rfl rfl (by simp [Value.oneCell']) w3.heap.size rfl)
        have HCSS := Lib.hid hcs
        rw [show scalar cs = Value.string x by rw [hcs]; rfl]
        clear hcs
        have hacc : acc.length + 1 ≤ 2147483648 := by have := HM.out; omega
        clear hH hr4 k4 r1 d2 d3 d4 hF
        go_wp2_with (first
          | (refine wpList_append_row _ rfl (.tmp 20) (.tmp 24) rfl Try.underlying63 q1 q2 q3 q4 q5 rfl (HRW.out.alloc _) rfl HSRC.out (by unfold maxLen; omega) (by omega) ?_
             intro v5 w5 r5 k5 n5 _
             have R5 := Lib.hid r5
             have K5 := Lib.hid k5
             have N5 := Lib.hid n5
             obtain ⟨a5, c5, hv5, _, _⟩ := r5.slice
             subst hv5
             clear r5 k5 n5))
        go_roundw
        case rel =>
          (repeat apply Exists.intro)
          refine RlR.step HO.out HD.out.1 HD.out.2.1 HD.out.2.2 HK4.out HF.out (by have := HK3.out.size; omega) HH.out (by rw [HCSS.out]; exact R5.out) K5.out N5.out HR4.out HBB.out HG.out HK3.out HM.out HL2.out rfl
        case measure => simp [intOf]

end Go.Proofs.Ytpefkellcigpkaa.Cd
