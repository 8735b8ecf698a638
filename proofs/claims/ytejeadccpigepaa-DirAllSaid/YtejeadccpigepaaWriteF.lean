/- Files on blocks: Write, where there is none. -/
import Derived.Test.YtejeadccpigepaaWriteA
namespace Go.Proofs.Ytejeadccpigepaa.Ino
open Go.RowKit Go.Maps Go.Proofs.Ytejeadccpigepaa
set_option maxRecDepth 100000

attribute [-go_sem] Go.run_max_int2

set_option maxHeartbeats 600000 in
theorem writeFull_any {w : World} {F : Nat → Prop} {p s : Nat} {S : Sto} {size : Nat} {T : List Nat} (h : IsFile w F p s S size T) (hH : Held S T) (hx : S.nxt + 203 < 100000) (hcm : S.c ≤ S.most) (hm : ∀ x ∈ T, x ≤ S.nxt) (at_ : Nat) {v : Value} {b : List UInt8} (hb : Seen w 1 v b.length (bcells b)) (hl : b.length ≤ 50000) (hb0 : 0 < b.length) (ha : at_ + b.length ≤ 102400) (hfit : ¬ S.c + ((growTo (at_ / 512) ((at_ + b.length + 511) / 512) T S.nxt 203).2 - S.nxt) ≤ S.most) :
    Calls Try.prog 30 #[.pointer (some ⟨p, 0, none⟩), .int .i64 (at_ : Int), v] w fun e w' => ∃ r nx F', e = .returned (.iface 127 (.pointer (some ⟨r, 0, none⟩))) ∧ S.nxt ≤ nx ∧ nx ≤ S.nxt + 203 ∧ IsFile w' F' p s { S with nxt := nx } size T ∧ Keep F w w' ∧ (∀ x, F' x → F x ∨ w.heap.size ≤ x) ∧ ErrAt w' w.heap.size r := by
  have H := Lib.hid h; have HB := Lib.hid hb; have HH := Lib.hid hH; have HM := Lib.hid hm
  have HW := Lib.hid (works_any h)
  have HLD := Lib.hid (laid_any h hH at_ hb hl ha)
  obtain ⟨_, ad, cap, rfl, hc1, hc2, hc3⟩ := hb
  clear h hH hm hc3
  have hd1 : ((b.length : Int) == 0) = false := by rw [beq_eq_false_iff_ne]; omega
  have hd2 : decide ((b.length : Int) > 102400 - (at_ : Int)) = false := by rw [decide_eq_false_iff_not]; omega
  obtain ⟨b2, hb2⟩ : ∃ b2, b2 = (at_ + b.length + 511) / 512 := ⟨_, rfl⟩
  obtain ⟨a2, ha2⟩ : ∃ a2, a2 = at_ / 512 := ⟨_, rfl⟩
  have HPT : Hid (∀ w1 : World, Calls Try.prog 43 #[.int .i64 ((at_ : Int) + (b.length : Int))] w1 fun e w' => e = .returned (.int .i64 (b2 : Int)) ∧ w1 = w') := Lib.hid (fun w1 => by
    have := parts_any (w := w1) (at_ + b.length) (by omega)
    rw [Int.natCast_add] at this
    rw [hb2]; exact this)
  have hq : (at_ : Int) / 512 = (a2 : Int) := by omega
  rw [← hb2, ← ha2] at hfit
  clear ha2 hb2
  obtain ⟨Z, hzt, hzs, hZ⟩ := zTab
  have HZT := Lib.hid hzt
  clear hzt
  have hT3 : zero203.length = 203 := by simp [zero203]
  have HGR : Hid (∀ w1 : World, Keep (fun _ => False) w w1 → Calls Try.prog 42 #[.pointer (some ⟨p, 0, none⟩), .int .i64 (a2 : Int), .int .i64 (b2 : Int)] w1 fun e w' => Keep F w1 w' ∧ ∃ r nx, e = .returned (.tuple #[tabV zero203, .iface 127 (.pointer (some ⟨r, 0, none⟩))]) ∧ S.nxt ≤ nx ∧ nx ≤ S.nxt + 203 ∧ IsFile w' (grow F w1 w') p s { S with nxt := nx } size T ∧ ErrAt w' w1.heap.size r) := Lib.hid (fun w1 k1 => grown_full (H.out.keep0 k1) hx hcm HM.out a2 b2 hfit)
  clear hfit
  go_enter Try.func30, Try.ntmps30
  go_wp2_with (first | (go_at_call 37; refine HW.out.mono ?_; rintro e w1 ⟨rfl, rfl⟩) | (go_at_call 41; refine HLD.out.mono ?_; rintro e w1 ⟨lv, rfl, hc1, k1, o1⟩; have K1 := Lib.hid k1; clear hc1 k1 o1) | (go_at_call 43; refine (HPT.out _).mono ?_; rintro e w9 ⟨rfl, rfl⟩) | (go_at_call 42; refine (HGR.out _ K1.out).mono ?_; rintro e w2 ⟨k2, r, nx, rfl, hn1, hn2, h2, he2⟩; have HN := Lib.hid (And.intro hn1 hn2); have H2 := Lib.hid h2; have K2 := Lib.hid k2; have HE := Lib.hid he2; clear hn1 hn2 h2 k2 he2) | (refine wpList_var_tab HZT hzs rfl rfl rfl _ _ rfl zero203 hT3 rfl rfl ?_))
  go_ret
  have hs := K1.out.size
  have hs2 := K2.out.size
  have k9 : Keep (fun _ => False) w2 (w2.alloc (.cells (tabL zero203).toArray 56)) := (Keep.refl _ w2).alloc _
  refine ⟨r, nx, grow F w1 w2, rfl, HN.out.1, HN.out.2, H2.out.keep0 k9, ((K1.out.mono (fun _ _ h => h.elim)).trans K2.out (fun x hx => .inl hx)).trans k9 (fun _ h => h.elim), fun x hx => ?_, (HE.out.keep k9 (fun _ h => h.elim)).low hs⟩
  rcases hx with hx | hx
  · exact .inl hx
  · exact .inr (by omega)

end Go.Proofs.Ytejeadccpigepaa.Ino
