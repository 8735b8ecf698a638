/- codec: Lots, read. -/
import Derived.Test.YtpefkellcigpkaaCdQ
namespace Go.Proofs.Ytpefkellcigpkaa.Cd
open Go.RowKit Go.Proofs.Ytpefkellcigpkaa
set_option maxRecDepth 100000

set_option maxHeartbeats 1000000 in
theorem readLot_e : ReadE 45 eLot struct_ := by
  intro B w g S0 h hB
  have HG := Lib.hid h.lt
  have H0 : Hid (RdAt B (w.alloc (.cells #[.int .i64 0, .int .i64 0, .string ⟨#[]⟩, .int .i64 0, .int .i64 0, .string ⟨#[]⟩, .int .i64 0] 67)) g S0) := Lib.hid (h.keep ((Keep.refl (fun _ => False) w).alloc _) (fun _ _ h => h))
  have K0 : Hid (KeepR g (w.alloc (.cells #[.int .i64 0, .int .i64 0, .string ⟨#[]⟩, .int .i64 0, .int .i64 0, .string ⟨#[]⟩, .int .i64 0] 67)) (w.alloc (.cells #[.int .i64 0, .int .i64 0, .string ⟨#[]⟩, .int .i64 0, .int .i64 0, .string ⟨#[]⟩, .int .i64 0] 67))) := Lib.hid (Keep.refl _ _)
  have HN0 := Lib.hid (heap_alloc_new w (.cells #[.int .i64 0, .int .i64 0, .string ⟨#[]⟩, .int .i64 0, .int .i64 0, .string ⟨#[]⟩, .int .i64 0] 67))
  have HSZ : Hid ((w.alloc (.cells #[.int .i64 0, .int .i64 0, .string ⟨#[]⟩, .int .i64 0, .int .i64 0, .string ⟨#[]⟩, .int .i64 0] 67)).heap.size = w.heap.size + 1) := Lib.hid (World.size_alloc ..)
  have HBB := Lib.hid hB
  obtain ⟨x0, S1, e0⟩ : ∃ x S', decN S0 = (x, S') := ⟨_, _, rfl⟩
  obtain ⟨x1, S2, e1⟩ : ∃ x S', decN S1 = (x, S') := ⟨_, _, rfl⟩
  obtain ⟨x2, S3, e2⟩ : ∃ x S', cT.dec S2 = (x, S') := ⟨_, _, rfl⟩
  obtain ⟨x3, S4, e3⟩ : ∃ x S', decN S3 = (x, S') := ⟨_, _, rfl⟩
  obtain ⟨x4, S5, e4⟩ : ∃ x S', decN S4 = (x, S') := ⟨_, _, rfl⟩
  obtain ⟨x5, S6, e5⟩ : ∃ x S', cT.dec S5 = (x, S') := ⟨_, _, rfl⟩
  obtain ⟨x6, S7, e6⟩ : ∃ x S', decN S6 = (x, S') := ⟨_, _, rfl⟩
  have E : eLot.c.dec S0 = ((x0, x1, x2, x3, x4, x5, x6), S7) := by
    simp only [eLot, cLot, pair, cN_dec, e0, e1, e2, e3, e4, e5, e6]
  rw [E]
  clear E h hB
  unfold struct_
  have E0 := Lib.hid e0
  have E1 := Lib.hid e1
  have E2 := Lib.hid e2
  have E3 := Lib.hid e3
  have E4 := Lib.hid e4
  have E5 := Lib.hid e5
  have E6 := Lib.hid e6
  clear e0 e1 e2 e3 e4 e5 e6
  go_enter Try.func45, Try.ntmps45
  go_wp2_with fail
  have C0 := nextNumber_any H0.out
  rw [E0.out] at C0
  refine C0.mono ?_
  rintro e w1 ⟨rfl, hr, hk⟩
  have H1 := Lib.hid hr
  have K1 := Lib.hid (K0.out.trans hk)
  clear hr hk C0
  go_wp2_with fail
  have C1 := nextNumber_any H1.out
  rw [E1.out] at C1
  refine C1.mono ?_
  rintro e w2 ⟨rfl, hr, hk⟩
  have H2 := Lib.hid hr
  have K2 := Lib.hid (K1.out.trans hk)
  clear hr hk C1
  go_wp2_with fail
  have C2 := nextText_any H2.out
  rw [E2.out] at C2
  refine C2.mono ?_
  rintro e w3 ⟨rfl, hr, hk⟩
  have H3 := Lib.hid hr
  have K3 := Lib.hid (K2.out.trans hk)
  clear hr hk C2
  go_wp2_with fail
  have C3 := nextNumber_any H3.out
  rw [E3.out] at C3
  refine C3.mono ?_
  rintro e w4 ⟨rfl, hr, hk⟩
  have H4 := Lib.hid hr
  have K4 := Lib.hid (K3.out.trans hk)
  clear hr hk C3
  go_wp2_with fail
  have C4 := nextNumber_any H4.out
  rw [E4.out] at C4
  refine C4.mono ?_
  rintro e w5 ⟨rfl, hr, hk⟩
  have H5 := Lib.hid hr
  have K5 := Lib.hid (K4.out.trans hk)
  clear hr hk C4
  go_wp2_with fail
  have C5 := nextText_any H5.out
  rw [E5.out] at C5
  refine C5.mono ?_
  rintro e w6 ⟨rfl, hr, hk⟩
  have H6 := Lib.hid hr
  have K6 := Lib.hid (K5.out.trans hk)
  clear hr hk C5
  go_wp2_with fail
  have C6 := nextNumber_any H6.out
  rw [E6.out] at C6
  refine C6.mono ?_
  rintro e w7 ⟨rfl, hr, hk⟩
  have H7 := Lib.hid hr
  have K7 := Lib.hid (K6.out.trans hk)
  clear hr hk C6
  have HN : Hid (w7.heap[w.heap.size]? = some (.cells #[.int .i64 0, .int .i64 0, .string ⟨#[]⟩, .int .i64 0, .int .i64 0, .string ⟨#[]⟩, .int .i64 0] 67 (0, 0))) := Lib.hid ((K7.out.block _ (by have := HSZ.out; omega) (by have := HG.out; omega)).trans HN0.out)
  have HI : Hid ((Try.prog.info? 67).map (·.size) = some ((#[.int .i64 x0, .int .i64 x1, .string x2, .int .i64 x3, .int .i64 x4, .string x5, .int .i64 x6] : Array Value)).size) := Lib.hid Try.infoLot
  go_wp2_with (first
    | (refine wpList_store_arr HI.out (by rfl) (by simp [Value.oneCell']) rfl (.tmp 2) (.tmp 17) rfl w.heap.size rfl rfl HN.out ?_; intro ws hws kss hss; have HW := Lib.hid hws; have HKS := Lib.hid kss; have HSS := Lib.hid hss; clear hws kss hss))
  refine bodyPost_ret (results_arr1 Try.results45 _ _ w.heap.size rfl HW.out Try.underlying67 rfl HI.out) rfl ?_
  have KS := HKS.out
  refine ⟨[Value.int .i64 x0, Value.int .i64 x1, Value.string x2, Value.int .i64 x3, Value.int .i64 x4, Value.string x5, Value.int .i64 x6], rfl, rfl, H7.out.stay KS (fun b e => by have := HG.out; have := HBB.out; omega), ?_⟩
  exact (((Keep.refl (fun b => b = g) w).alloc (.cells #[.int .i64 0, .int .i64 0, .string ⟨#[]⟩, .int .i64 0, .int .i64 0, .string ⟨#[]⟩, .int .i64 0] 67)).trans K7.out (fun b e => .inl e)).trans KS (fun b e => .inr (by omega))

theorem infoElLot : ∃ (i : TypeInfo) (z : Value), Try.prog.info? 67 = some i ∧ i.zero = some z ∧ i.size = 7 ∧ i.bytes = 72 ∧ z.cells.size = 7 := by
  have h : (Try.prog.info? 67).bind (fun i => i.zero.map fun z => (i.size, i.bytes, z.cells.size)) = some (7, 72, 7) := by kernel_rfl
  obtain ⟨i, h1, h2⟩ := Option.bind_eq_some_iff.1 h
  obtain ⟨z, h3, h4⟩ := Option.map_eq_some_iff.1 h2
  simp only [Prod.mk.injEq] at h4
  exact ⟨i, z, h1, h3, h4.1, h4.2.1, h4.2.2⟩

theorem Try.enReadLot : ∀ args w, (callFunc 45 args).run Try.prog w = .ok (.enter 45 args) w := enters_of Try.func45 (by kernel_rfl) rfl

theorem readListLot_any {B : Nat} {w : World} {g : Nat} {S : R} (h : RdAt B w g S) (hB : B ≤ w.heap.size) : Calls Try.prog 44 #[.pointer (some ⟨g, 0, none⟩), .func (.func 45) #[] #[]] w (RlA eLot B w g ((cList eLot.c).dec S)) := by
  have HB := Lib.hid (nextLength_any h)
  have HBB := Lib.hid hB
  have HG := Lib.hid h.lt
  have e : (cList eLot.c).dec S = loopD eLot.c.dec (decL S).1 (decL S).2 := rfl
  rw [e]
  have hlt := decL_lt S
  clear h e hB
  generalize decL S = q at *
  obtain ⟨n, S2⟩ := q
  simp only at HB hlt ⊢
  have hn1 : (n : Int) ≤ 2147483647 := by omega
  obtain ⟨ie, z, q1, q2, q3, q4, q5⟩ := infoElLot
  go_enter Try.func44, Try.ntmps44
  go_wp2_with fail
  refine HB.out.mono ?_
  rintro e w2 ⟨rfl, hr, hk⟩
  have HR := Lib.hid hr
  have HK := Lib.hid hk
  clear hr hk
  go_wp2_with fail
  go_loopw [5, 6] (fun v i wr => RlR eLot 67 B w g n S2 v i wr) (fun _ i _ => (intOf i).toNat)
  case atStart => exact ⟨[], n, S2, rfl, ⟨none, 0, rfl⟩, Own.nil _ _ _ _, HR.out, HK.out, by simp, by simp⟩
  case round =>
    obtain ⟨acc, m, S3, rfl, ⟨av, cv, rfl⟩, hO, hr3, hk3, hm, hL⟩ := hrel.ex
    clear hrel
    have HO := Lib.hid hO
    have HR3 := Lib.hid hr3
    have HK3 := Lib.hid hk3
    have HL := Lib.hid hL
    have HM := Lib.hid hm
    have hmi : (m : Int) ≤ 2147483647 := by omega
    obtain ⟨br, hbr⟩ : ∃ br, br = S3.br := ⟨_, rfl⟩
    have HBR := Lib.hid hbr
    have c1 : wr.cell? ⟨g, 1, none⟩ = some (.bool br) := by
      obtain ⟨_, _, _, hx, _⟩ := hr3.ex
      rw [hbr]; exact (cell_of_row wr g 1 _ _ _ hx).trans rfl
    clear hO hr3 hk3 hL hm hbr
    by_cases h0 : m = 0
    · subst h0
      go_wp2
      go_ret
      exact ⟨_, rfl, (by have h9 := HL.out; simp only [loopD, List.append_nil] at h9; rw [h9]; exact HO.out.at), (by have h9 := HL.out; simp only [loopD] at h9; rw [h9]; exact HR3.out), HK3.out⟩
    · cases br with
      | true =>
        have hpos : 0 < (m : Int) := by omega
        go_wp2
        go_ret
        have h9 := HL.out
        rw [loopD_br _ m S3 HBR.out.symm, List.append_nil] at h9
        exact ⟨_, rfl, (by rw [h9]; exact HO.out.at), (by rw [h9]; exact HR3.out), HK3.out⟩
      | false =>
        have hpos : 0 < (m : Int) := by omega
        obtain ⟨m', hm'⟩ : ∃ m', m = m' + 1 := ⟨m - 1, by omega⟩
        subst hm'
        have HL2 : Hid (loopD eLot.c.dec n S2 = ((acc ++ [(eLot.c.dec S3).1]) ++ (loopD eLot.c.dec m' (eLot.c.dec S3).2).1, (loopD eLot.c.dec m' (eLot.c.dec S3).2).2)) := Lib.hid (by
          have h9 := HL.out
          rw [loopD, if_neg (by rw [← HBR.out]; simp)] at h9
          rw [h9]; simp)
        have HC := Lib.hid (readLot_e HR3.out (by have := HBB.out; have := HK3.out.size; omega))
        generalize eLot.c.dec S3 = qq at *
        obtain ⟨x, S4⟩ := qq
        simp only at HC HL2
        have hen := Try.enReadLot
        clear h0
        go_wp2_with fail
        refine HC.out.mono ?_
        rintro e w3 ⟨cs, rfl, hH, hr4, k4⟩
        obtain ⟨css, r1, d2, d3, d4⟩ := HO.out.ex
        have HD := Lib.hid (And.intro d2 (And.intro d3 d4))
        have hF : ∀ b, w.heap.size ≤ b → ¬ b = g := fun b hb e => by have := HG.out; omega
        have HF := Lib.hid hF
        have HH := Lib.hid hH
        have HK4 := Lib.hid k4
        have HR4 := Lib.hid hr4
        have HRW := Lib.hid (r1.keep k4 (fun b e => hF b (HO.out.new b e)))
        obtain ⟨C, hC⟩ : ∃ C, C = cs.toArray := ⟨_, rfl⟩
        have HCC := Lib.hid hC
        have hlen : cs.length = 7 := eLot.len hH
        have hCs : C.size = 7 := by rw [hC, List.size_toArray]; exact hlen
        have HSRC := Lib.hid (src_agg (w := w3) (t := 67) Try.underlying26 hC hlen (eLot.one hH) w3.heap.size rfl)
        have HCS := Lib.hid hCs
        unfold struct_
        rw [← hC]
        clear hC hlen hCs
        have hacc : acc.length + 1 ≤ 2147483648 := by have := HM.out; omega
        clear hH hr4 k4 r1 d2 d3 d4 hF
        go_wp2_with (first
          | (refine wpList_build1 rfl (.tmp 23) rfl rfl Try.underlying26 q1 q2 q3 q5 HCS.out (by omega) (by omega) ?_)
          | (refine wpList_append_row _ rfl (.tmp 20) (.tmp 24) rfl Try.underlying26 q1 q2 q3 q4 q5 rfl (HRW.out.alloc _) rfl HSRC.out (by unfold maxLen; omega) (by omega) ?_
             intro v5 w5 r5 k5 n5 _
             have R5 := Lib.hid r5
             have K5 := Lib.hid k5
             have N5 := Lib.hid n5
             obtain ⟨a5, c5, hv5, _, _⟩ := r5.slice
             subst hv5
             clear r5 k5 n5))
        go_roundw
        case rel =>
          (repeat apply Exists.intro)
          refine RlR.step HO.out HD.out.1 HD.out.2.1 HD.out.2.2 HK4.out HF.out (by have := HK3.out.size; omega) HH.out R5.out K5.out N5.out HR4.out HBB.out HG.out HK3.out HM.out HL2.out rfl
        case measure => simp [intOf]

end Go.Proofs.Ytpefkellcigpkaa.Cd
