/- Sorting in place: heap sort; a range reversed. -/
import Derived.Test.YtdkigiemhkoijaaDoorSrtC
namespace Go.Proofs.YtdkigiemhkoijaaDoor.Ino
open Go.RowKit Go.Maps Go.Proofs.YtdkigiemhkoijaaDoor
set_option maxRecDepth 100000

theorem Srt.cell2 {w0 wr : World} {g : Nat} {t : TypeId} {L : List Nat} (h : Srt w0 g t L wr) {i j : Nat} (hi : i < 203) (hj : j < 203) : (wr.setCell ⟨g, i, none⟩ (.int .u32 ((tg L j : Nat) : Int))).cell? ⟨g, j, none⟩ = some (.int .u32 ((tg L j : Nat) : Int)) := by
  have h1 := heap_setCell_at (i := i) (.int .u32 ((tg L j : Nat) : Int)) h.heap
  have e : ((tabL L).toArray.setIfInBounds i (.int .u32 ((tg L j : Nat) : Int))) = (tabL (L.set i (tg L j))).toArray := by rw [← tabL_set]; simp
  rw [e] at h1
  rw [tab_cell h1 j (by rw [List.length_set, h.len]; exact hj), tg_set _ _ _ _ (by rw [h.len]; exact hi)]
  split <;> rfl

/-- A loop that counts down to nought. -/
structure DownR (w : World) (g : Nat) (t : TypeId) (m : Nat) (iv : Value) (wr : World) : Prop where
  ex : ((∃ k : Nat, k < m ∧ iv = .int .i64 (k : Int)) ∨ iv = .int .i64 (-1)) ∧ SR w g t wr

theorem DownR.next {w wr : World} {g : Nat} {t : TypeId} {m k : Nat} (hk : k < m) (h : SR w g t wr) : DownR w g t m (.int .i64 ((k : Int) - 1)) wr := by
  refine ⟨?_, h⟩
  by_cases e : k = 0
  · subst e; exact .inr rfl
  · exact .inl ⟨k - 1, by omega, by congr 1; omega⟩

theorem down_start {w wr : World} {g : Nat} {t : TypeId} {m : Nat} (z : Int) (hz : -1 ≤ z) (hm : z < (m : Int)) (h : SR w g t wr) : DownR w g t m (.int .i64 z) wr := by
  refine ⟨?_, h⟩
  by_cases e : z = -1
  · exact .inr (by rw [e])
  · exact .inl ⟨z.toNat, by omega, by congr 1; omega⟩

theorem heap_any {w : World} {g : Nat} {t : TypeId} (h : SR w g t w) (a b : Nat) (hab : a ≤ b) (hb : b ≤ 203) :
    Calls Tryd.prog 54 #[tabS g, .int .i64 (a : Int), .int .i64 (b : Int)] w fun e w' => e = .returned (.tuple #[]) ∧ SR w g t w' := by
  have H := Lib.hid h
  obtain ⟨hi, hhi⟩ : ∃ hi, hi = b - a := ⟨_, rfl⟩
  have e1 : (b : Int) - (a : Int) = (hi : Int) := by omega
  have hh : a + hi ≤ 203 := by omega
  clear h hhi
  go_enter Tryd.func54, Tryd.ntmps54
  go_wp2
  have hst : -1 ≤ ((hi : Int) - 1).tdiv 2 ∧ ((hi : Int) - 1).tdiv 2 < ((204 : Nat) : Int) := by
    by_cases h0 : hi = 0
    · subst h0; exact ⟨by decide, by decide⟩
    · rw [Int.tdiv_eq_ediv_of_nonneg (by omega)]; omega
  have HST := Lib.hid hst
  clear hst
  go_loopw [9] (fun iv wr => DownR w g t 204 iv wr) (fun iv _ => (intOf iv + 1).toNat)
  case atStart => exact down_start _ HST.out.1 HST.out.2 H.out
  case round =>
    obtain ⟨hiv, hS⟩ := hrel.ex
    have HS := Lib.hid hS
    clear hS hrel HST
    rcases hiv with ⟨k, hk, rfl⟩ | rfl
    · have hd : decide ((0 : Int) ≤ (k : Int)) = true := by rw [decide_eq_true_eq]; omega
      have HSF := Lib.hid (sift_any HS.out.here k hi a (by omega) (by omega))
      go_wp2_with (go_at_call 65; refine HSF.out.mono ?_; rintro e w' ⟨rfl, h'⟩; have HS' := Lib.hid (HS.out.then h'); clear h')
      go_roundw
      case rel => exact DownR.next hk HS'.out
      case measure => first | (simp [intOf]; done) | (simp [intOf]; omega)
    · go_wp2
      obtain ⟨wz, hwz⟩ : ∃ wz, wz = wr := ⟨wr, rfl⟩
      subst wr
      go_loopw [10] (fun iv wr => DownR w g t hi iv wr) (fun iv _ => (intOf iv + 1).toNat)
      case atStart => exact down_start _ (by omega) (by omega) HS.out
      case round =>
        obtain ⟨hiv, L, hL⟩ := hrel.ex
        clear hrel
        rcases hiv with ⟨k, hk, rfl⟩ | rfl
        · have hd : decide ((0 : Int) ≤ (k : Int)) = true := by rw [decide_eq_true_eq]; omega
          obtain ⟨x, hx⟩ : ∃ x, x = a + k := ⟨_, rfl⟩
          have e2 : (a : Int) + (k : Int) = (x : Int) := by omega
          have hxl : x < 203 := by omega
          have hal : a < 203 := by omega
          have c1 := hL.cell hal
          have c2 := hL.cell hxl
          have f1 := hL.free a
          have f2 := hL.free x
          have c3 := hL.cell2 hal hxl
          have hSW : SR w g t _ := ⟨_, (hL.swap (i := a) (j := x) hal hxl).drew⟩
          have HX := Lib.hid hx
          clear hx hL
          have HSF := Lib.hid (sift_any hSW.here 0 k a (by omega) (by omega))
          have HSW := Lib.hid hSW
          clear hSW
          go_wp2
          go_region
          all_goals go_wp2_with (go_at_call 65; refine HSF.out.mono ?_; rintro e w' ⟨rfl, h'⟩; have HS' := Lib.hid (HSW.out.then h'); clear h')
          all_goals
            go_roundw
            case rel => exact DownR.next hk HS'.out
            case measure => first | (simp [intOf]; done) | (simp [intOf]; omega)
        · go_wp2
          go_end0
          exact ⟨rfl, _, hL⟩

structure RevR (w : World) (g : Nat) (t : TypeId) (a b : Nat) (iv jv : Value) (wr : World) : Prop where
  ex : ∃ i k : Nat, a ≤ i ∧ k ≤ b ∧ iv = .int .i64 (i : Int) ∧ jv = .int .i64 ((k : Int) - 1) ∧ SR w g t wr

theorem rev_any {w : World} {g : Nat} {t : TypeId} (h : SR w g t w) (a b : Nat) (hb : b ≤ 203) :
    Calls Tryd.prog 57 #[tabS g, .int .i64 (a : Int), .int .i64 (b : Int)] w fun e w' => e = .returned (.tuple #[]) ∧ SR w g t w' := by
  have H := Lib.hid h
  clear h
  go_enter Tryd.func57, Tryd.ntmps57
  go_wp2
  go_loopw [6, 7] (fun iv jv wr => RevR w g t a b iv jv wr) (fun _ jv _ => (intOf jv + 1).toNat)
  case atStart => exact ⟨a, b, by omega, by omega, rfl, rfl, H.out⟩
  case round =>
    obtain ⟨i, k, hi, hk, rfl, rfl, L, hL⟩ := hrel.ex
    clear hrel
    by_cases hlt : i + 1 < k
    · obtain ⟨j, hj⟩ : ∃ j, j = k - 1 := ⟨_, rfl⟩
      have e1 : (k : Int) - 1 = (j : Int) := by omega
      rw [e1]
      have hd : decide (i < j) = true := by rw [decide_eq_true_eq]; omega
      have hil : i < 203 := by omega
      have hjl : j < 203 := by omega
      have c1 := hL.cell hil
      have c2 := hL.cell hjl
      have f1 := hL.free i
      have f2 := hL.free j
      have c3 := hL.cell2 hil hjl
      have HSW : Hid (SR w g t _) := Lib.hid ⟨_, (hL.swap (i := i) (j := j) hil hjl).drew⟩
      have HJ := Lib.hid hj
      clear hj hL e1
      go_wp2
      go_region
      all_goals go_wp2
      all_goals
        go_roundw
        case rel => exact ⟨i + 1, j, by omega, by have := HJ.out; omega, by go_num, rfl, HSW.out⟩
        case measure => first | (simp [intOf]; done) | (simp [intOf]; omega)
    · have hd : decide ((i : Int) < (k : Int) - 1) = false := by rw [decide_eq_false_iff_not]; omega
      have HL : Hid (SR w g t wr) := Lib.hid ⟨L, hL⟩
      clear hL
      go_wp2
      go_end0
      exact ⟨rfl, HL.out⟩

end Go.Proofs.YtdkigiemhkoijaaDoor.Ino
