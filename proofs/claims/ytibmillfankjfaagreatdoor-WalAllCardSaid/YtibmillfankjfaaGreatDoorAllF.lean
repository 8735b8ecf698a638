/- WalAll: an operation that puts. -/
import Derived.Test.YtibmillfankjfaaGreatDoorAllC
import Derived.Test.YtibmillfankjfaaGreatDoorFullP
namespace Go.Proofs.YtibmillfankjfaaGreatDoor
open Go.RowKit
set_option maxRecDepth 100000

theorem putr_fitA {N : Nat → Prop} {w w' : World} {r : Nat} {vh vs : Value} {us : List Value} {H : List ByteArray} {W : Grp} {i : Nat} {s : ByteArray} {ev : Ending} (h : PutR N w r vh vs us H W i s ev w') (hf : W.length < 40) :
    ev = .returned (.bool true) ∧ ∃ vw' ks', RefAt (more N w w') w' r vh vw' vs us ks' H (rput W i s) ∧ Keep (fun x => x = r) w w' := by
  rcases h with ⟨_, h2, _⟩ | ⟨_, h⟩
  · omega
  · exact h

/-- Blocks more that the log leaves alone. -/
theorem side_twoP (P : Nat → Prop) (w : World) (p q : Nat) (S : LogS) (n : Nat) : Side w (fun M wr => Two (fun x => M x ∨ P x) w wr p q S n) :=
  ⟨fun h k a b => (h.other k (fun x hx => .inl (a x hx)) b).sub (fun x hx => by
    rcases hx with (hx | hx) | hx
    · exact .inl (.inl hx)
    · exact .inr hx
    · exact .inl (.inr hx)), fun h a => h.sub (fun x hx => by
    rcases hx with hx | hx
    · exact .inl (a x hx)
    · exact .inr hx), fun h => h.keep⟩

set_option maxHeartbeats 4000000 in
theorem one_put {w wr : World} {p r B i : Nat} (h : ARel w p r B i wr) (hi : i < 30) (ii : Int) (hf1 : -9223372036854775808 ≤ ii) (hf2 : ii ≤ 9223372036854775807) {u : Value} {bl : List UInt8} (hu : Seen w 1 u bl.length (bcells bl)) (hub : ∀ b, u.ownBlock = some b → 0 < bl.length → b < w.heap.size) :
    Calls Tryz.prog 8 #[.pointer (some ⟨p, 0, none⟩), .pointer (some ⟨B, 0, none⟩), .pointer (some ⟨r, 0, none⟩), .agg #[.int .i64 0, .int .i64 ii, u]] wr fun e w' => e = .returned (.bool true) ∧ ARel w p r B (i + 1) w' := by
  obtain ⟨q, N, vh, vw, vs, us, ks, ks2, H, W, W2, g, m, D, hm, hp⟩ := h.ex
  obtain ⟨au, capu, lu, eu, hcu⟩ : ∃ au capu lu, u = .slice au lu capu ∧ lu = bl.length := by
    obtain ⟨_, a, cap, h, _⟩ := hu
    exact ⟨a, cap, _, h, rfl⟩
  subst eu
  have HM := Lib.hid (hm.go (side_two w p q _ _) ((Keep.refl (fun _ => False) wr).alloc (.cells #[.int .i64 0, .int .i64 ii, .slice au lu capu] 37))); have HP := Lib.hid hp
  have b0 : (wr.alloc (.cells #[.int .i64 0, .int .i64 ii, .slice au lu capu] 37)).cell? ⟨B, 0, none⟩ = some (.pointer (some ⟨q, 0, none⟩)) := (cell_of_row _ _ _ _ _ _ HM.out.var).trans rfl
  have HM0 := Lib.hid hm
  have KA : Hid (Keep (fun _ => False) wr (wr.alloc (.cells #[.int .i64 0, .int .i64 ii, .slice au lu capu] 37))) := Lib.hid ((Keep.refl (fun _ => False) wr).alloc _)
  have SA : Hid ((wr.alloc (.cells #[.int .i64 0, .int .i64 ii, .slice au lu capu] 37)).heap.size = wr.heap.size + 1) := Lib.hid (by simp)
  have HUS := Lib.hid (hu.keep HM.out.side.keep (fun _ _ _ h => h))
  have HUB : Hid (∀ b, (Value.slice au lu capu).ownBlock = some b → 0 < bl.length → b < (wr.alloc (.cells #[.int .i64 0, .int .i64 ii, .slice au lu capu] 37)).heap.size) := Lib.hid (fun b hb h0 => Nat.lt_of_lt_of_le (hub b hb h0) HM.out.side.keep.size)
  have HLU := Lib.hid hcu
  clear h hm hp hu hub hcu
  have HOP : Hid ((wr.alloc (.cells #[.int .i64 0, .int .i64 ii, .slice au lu capu] 37)).heap[wr.heap.size]? = some (.cells #[.int .i64 0, .int .i64 ii, .slice au lu capu] 37 (0, 0))) := Lib.hid (heap_alloc_new wr _)
  by_cases hin : 48 ≤ ii ∧ ii < 128
  · obtain ⟨j, rfl⟩ := Int.eq_ofNat_of_zero_le (show 0 ≤ ii by omega)
    have hj1 : 48 ≤ j := by omega
    have hj2 : j < 128 := by omega
    have d1 : decide ((j : Int) < 48) = false := by rw [decide_eq_false_iff_not]; omega
    have d2 : decide ((128 : Int) ≤ (j : Int)) = false := by rw [decide_eq_false_iff_not]; omega
    clear hin
    go_enter Tryz.func8, Tryz.ntmps8
    go_wp2_with fail
    clear b0
    generalize (wr.alloc (.cells #[.int .i64 0, .int .i64 (j : Int), .slice au lu capu] 37)) = wA at *
    rw [HLU.out] at HUS HUB ⊢
    refine (full_pos HUS.out HUB.out).mono ?_
    rintro e w1 ⟨rfl, hr1, k1, hlt1⟩
    have HR1 := Lib.hid hr1
    have HM1 := Lib.hid (HM0.out.log (T' := fun M wr' => Two (fun x => M x ∨ (x = wr.heap.size ∨ x = wA.heap.size)) w wr' p q ⟨D, g, m, []⟩ (50 + 100 * i)) ((KA.out.trans k1 (fun _ h => h.elim)).mono (fun _ _ h => h.elim)) ((HM0.out.side.other (KA.out.trans k1 (fun _ h => h.elim)) (fun _ h => h.elim) (fun _ h => h.elim)).sub (fun x hx => by
      have := SA.out
      rcases hx with hx | hx | hx
      · exact .inl hx
      · exact .inr ⟨by omega, by omega⟩
      · exact .inr ⟨by omega, by omega⟩)))
    have HO1 := Lib.hid ((k1.block wr.heap.size (lt_of_block HOP.out) (fun h => h)).trans HOP.out)
    have HB1 := Lib.hid (secStr_bytes hr1)
    have q1 : w1.cell? ⟨wr.heap.size, 1, none⟩ = some (.int .i64 (j : Int)) := (cell_of_row _ _ _ _ _ _ HO1.out).trans rfl
    clear hr1 k1
    go_wp2_with fail
    refine (put_t HM1.out.side j _ rfl (by rw [show (LogS.D ⟨D, g, m, []⟩).las.length = 128 from HP.out.clean.len]; exact home_in hj1 hj2) wA.heap.size 0 512 (secStr bl) (secStr_size _) HB1.out (.inr (by show g.length < 40; rw [← HP.out.refis.len]; have := HP.out.wlen; omega))).mono ?_
    rintro e w2 ⟨rfl, h2, k2⟩
    have HG := Lib.hid HM1.out.side.lg.gok
    have HM2 := Lib.hid (HM1.out.log (T' := fun M wr' => Two (fun x => M x ∨ (x = wr.heap.size ∨ x = wA.heap.size)) w wr' p q ⟨D, gput g j (secStr bl), m, []⟩ (50 + 100 * i)) (k2.mono (fun _ _ h ha => h (.inl ha))) h2)
    have HR2 := Lib.hid (HR1.out.keep k2 (fun x hx hn => hn (.inr (.inr (by simp [Value.ownBlock] at hx; exact hx.symm)))))
    have HO2 := Lib.hid ((k2.block wr.heap.size (lt_of_block HO1.out) (fun hn => hn (.inr (.inl rfl)))).trans HO1.out)
    have q2 : w2.cell? ⟨wr.heap.size, 1, none⟩ = some (.int .i64 (j : Int)) := (cell_of_row _ _ _ _ _ _ HO2.out).trans rfl
    clear h2 k2 q1
    go_wp2_with fail
    refine (refput_any HM2.out.ref HP.out.refis.keys (by have := HP.out.wlen; omega) j _ rfl (by omega) HR2.out (secStr_size _)).mono ?_
    intro ev w3 hpr
    obtain ⟨rfl, vw3, ks3, hrf, k3⟩ := putr_fitA hpr (by have := HP.out.wlen; omega)
    have HM3 := Lib.hid (HM2.out.turn (side_twoP _ w p q _ _) hrf (HM2.out.still k3) k3)
    have HP3 : Hid (AP D H (rput W j (secStr bl)) W2 (gput g j (secStr bl)) m (i + 1)) := Lib.hid (HP.out.put HG.out hj1 hj2)
    clear hpr hrf k3
    go_wp2
    go_ret
    exact ⟨rfl, ⟨_, _, _, _, _, _, _, _, _, _, _, _, _, _, (AM.later (HM3.out.log (T' := fun M wr => Two M w wr p q _ (50 + 100 * i)) (Keep.refl _ _) (HM3.out.side.sub (fun _ h => .inl h))) (by omega)), HP3.out⟩⟩
  · have d1 : decide (ii < 48) = true ∨ (decide (ii < 48) = false ∧ decide ((128 : Int) ≤ ii) = true) := by
      by_cases h : ii < 48
      · exact .inl (by rw [decide_eq_true_eq]; exact h)
      · exact .inr ⟨by rw [decide_eq_false_iff_not]; exact h, by rw [decide_eq_true_eq]; omega⟩
    have hhb : homeB 128 ii = false := by
      simp only [homeB, Bool.and_eq_false_iff, decide_eq_false_iff_not]; omega
    clear hin
    rcases d1 with d1 | ⟨d1, d2⟩
    all_goals
      go_enter Tryz.func8, Tryz.ntmps8
      go_wp2_with fail
      clear b0
      generalize (wr.alloc (.cells #[.int .i64 0, .int .i64 ii, .slice au lu capu] 37)) = wA at *
      rw [HLU.out] at HUS HUB ⊢
      refine (full_pos HUS.out HUB.out).mono ?_
      rintro e w1 ⟨rfl, hr1, k1, hlt1⟩
      have HM1 := Lib.hid (HM.out.go (side_two w p q _ _) k1)
      have HO1 := Lib.hid ((k1.block wr.heap.size (lt_of_block HOP.out) (fun h => h)).trans HOP.out)
      have q1 : w1.cell? ⟨wr.heap.size, 1, none⟩ = some (.int .i64 ii) := (cell_of_row _ _ _ _ _ _ HO1.out).trans rfl
      clear hr1 k1
      go_wp2_with fail
      refine (putout_g HM1.out.side.lg ii (by rw [show (LogS.D ⟨D, g, m, []⟩).las.length = 128 from HP.out.clean.len]; exact hhb) _).mono ?_
      rintro e w2 ⟨rfl, rfl⟩
      go_wp2_with (go_at_call 15; refine (is_same 1 rfl).mono ?_; rintro e w' ⟨rfl, rfl⟩)
      go_ret
      exact ⟨rfl, ⟨_, _, _, _, _, _, _, _, _, _, _, _, _, _, HM1.out.later (by omega), HP.out.later (by omega)⟩⟩

end Go.Proofs.YtibmillfankjfaaGreatDoor
