/- Read, Mark, Back of a log. -/
import Derived.Test.YtibmillfankjfaaGreatDoorPut
namespace Go.Proofs.YtibmillfankjfaaGreatDoor
open Go.RowKit
set_option maxRecDepth 100000

/-- What a log reads at a home sector. -/
def LogS.read (S : LogS) (i : Nat) : ByteArray :=
  match glook S.wait i with
  | some s => s
  | none => match glook S.lost i with
    | some s => s
    | none => S.D.new.getD i default

theorem lread_nil {w : World} (i : Int) :
    Calls Tryz.prog 14 #[.pointer none, .int .i64 i] w fun e w' => e = .returned (.tuple #[.slice none 0 0, apiErr 1]) ∧ w = w' := by
  go_enter Tryz.func14, Tryz.ntmps14
  go_wp2_with (go_at_call 32; refine (lhas_nil _).mono ?_; rintro e w' ⟨rfl, rfl⟩)
  go_ret2
  exact ⟨rfl, rfl⟩

theorem lread_out {w : World} {F : Nat → Prop} {p q a b c : Nat} {S : LogS} {n : Nat} (h : IsLog w F p q a b c S n) (i : Int) (hi : homeB S.D.las.length i = false) :
    Calls Tryz.prog 14 #[.pointer (some ⟨q, 0, none⟩), .int .i64 i] w fun e w' => e = .returned (.tuple #[.slice none 0 0, apiErr 1]) ∧ w = w' := by
  have H := Lib.hid h; have HI := Lib.hid hi
  clear h hi
  go_enter Tryz.func14, Tryz.ntmps14
  go_wp2_with (go_at_call 32; refine (lhas_any H.out i).mono ?_; rw [HI.out]; rintro e w' ⟨rfl, rfl⟩)
  go_ret2
  exact ⟨rfl, rfl⟩

/-- A slice of 512 bytes in new memory. -/
structure NewSec (w w' : World) (v : Value) (s : ByteArray) : Prop where
  row : ∃ e g cap, v = .slice (some ⟨g, 0, none⟩) 512 cap ∧ Row w' e 1 v 512 (byteCells s) ∧ w.heap.size ≤ g
  size : s.size = 512
  keep : Keep (fun _ => False) w w'

set_option maxHeartbeats 1000000 in
theorem lread_any {w : World} {F : Nat → Prop} {p q a b c : Nat} {S : LogS} {n : Nat} (h : IsLog w F p q a b c S n) (i : Nat) (hi : homeB S.D.las.length (i : Int) = true) :
    Calls Tryz.prog 14 #[.pointer (some ⟨q, 0, none⟩), .int .i64 (i : Int)] w fun e w' => ∃ v, e = .returned (.tuple #[v, .nilIface]) ∧ NewSec w w' v (S.read i) := by
  have c0 := h.cell 1
  have c2 := h.cell 0
  simp only [List.getElem?_toArray, List.getElem?_cons_zero, List.getElem?_cons_succ] at c0 c2
  have hi2 : 48 ≤ i ∧ i < S.D.las.length := by
    simp only [homeB, Bool.and_eq_true, decide_eq_true_eq] at hi; omega
  have hi3 : i < 65536 := by have := h.ok.len2; omega
  have HZ := Lib.hid (gget_size h.wait.ok i)
  have HZ2 := Lib.hid (gget_size h.lost.ok i)
  have H := Lib.hid h; have HI := Lib.hid hi
  have KA := Lib.hid ((Keep.refl (fun _ => False) w).alloc (.cells (secC ((glook S.wait i).getD zeroSec)) 53))
  have HA := Lib.hid (h.keep0 KA.out)
  have KB := Lib.hid (KA.out.alloc (.cells (secC ((glook S.lost i).getD zeroSec)) 53))
  have HB := Lib.hid (h.keep0 KB.out)
  have c1 := HA.out.cell 3
  have c3 := HB.out.cell 0
  simp only [List.getElem?_toArray, List.getElem?_cons_zero, List.getElem?_cons_succ] at c1 c3
  have HR : Hid (S.read i = match glook S.wait i with | some s => s | none => match glook S.lost i with | some s => s | none => S.D.new.getD i default) := Lib.hid rfl
  clear h hi
  cases hss : glook S.wait i with
  | some s0 =>
    have HSS := Lib.hid hss
    have e1 : S.read i = (glook S.wait i).getD zeroSec := by rw [HR.out, hss]; rfl
    have HE := Lib.hid e1
    have hsome : (glook S.wait i).isSome = true := by rw [hss]; rfl
    have HSM := Lib.hid hsome
    have S1 := Lib.hid (SecAt.new w ((glook S.wait i).getD zeroSec) HZ.out)
    clear hss e1 hsome
    go_enter Tryz.func14, Tryz.ntmps14
    go_wp2_with (first | (go_at_call 32; refine (lhas_any H.out i).mono ?_; rw [HI.out]; rintro e w' ⟨rfl, rfl⟩) | (refine wpList_look_ok rfl _ _ rfl a S.wait i rfl rfl H.out.wait hi3 ?_; rw [HSM.out]) | (refine wpList_var_sec rfl rfl rfl _ _ rfl ((glook S.wait i).getD zeroSec) rfl rfl HZ.out ?_) | (refine wpList_slice_sec rfl _ _ rfl _ 0 (by omega) rfl (.inl ⟨rfl, rfl⟩) ?_))
    go_ret2
    rw [HE.out]
    exact ⟨_, rfl, ⟨_, _, _, rfl, S1.out.row 0 512 (by omega), Nat.le_refl _⟩, HZ.out, KA.out⟩
  | none =>
    have hsome : (glook S.wait i).isSome = false := by rw [hss]; rfl
    have HSM := Lib.hid hsome
    cases hst : glook S.lost i with
    | some s0 =>
      have e1 : S.read i = (glook S.lost i).getD zeroSec := by rw [HR.out, hss, hst]; rfl
      have HE := Lib.hid e1
      have hsome2 : (glook S.lost i).isSome = true := by rw [hst]; rfl
      have HSN := Lib.hid hsome2
      have S1 := Lib.hid (SecAt.new1 w (.cells (secC ((glook S.wait i).getD zeroSec)) 53) ((glook S.lost i).getD zeroSec) HZ2.out)
      clear hss e1 hsome hst hsome2
      go_enter Tryz.func14, Tryz.ntmps14
      go_wp2_with (first | (go_at_call 32; refine (lhas_any H.out i).mono ?_; rw [HI.out]; rintro e w' ⟨rfl, rfl⟩) | (refine wpList_look_ok rfl _ _ rfl a S.wait i rfl rfl H.out.wait hi3 ?_; rw [HSM.out]) | (refine wpList_var_sec rfl rfl rfl _ _ rfl ((glook S.wait i).getD zeroSec) rfl rfl HZ.out ?_) | (refine wpList_look_ok rfl _ _ rfl c S.lost i rfl rfl HA.out.lost hi3 ?_; rw [HSN.out]) | (refine wpList_var_sec rfl rfl rfl _ _ rfl ((glook S.lost i).getD zeroSec) rfl rfl HZ2.out ?_) | (refine wpList_slice_sec rfl _ _ rfl _ 0 (by omega) rfl (.inl ⟨rfl, rfl⟩) ?_))
      go_ret2
      rw [HE.out]
      exact ⟨_, rfl, ⟨_, _, _, rfl, S1.out.row 0 512 (by omega), by omega⟩, HZ2.out, KB.out⟩
    | none =>
      have e1 : S.D.new.getD i default = S.read i := by rw [HR.out, hss, hst]
      have HE := Lib.hid e1
      have hsome2 : (glook S.lost i).isSome = false := by rw [hst]; rfl
      have HSN := Lib.hid hsome2
      have HZ3 := Lib.hid (new_size H.out.disk.ok hi2.2 e1)
      obtain ⟨⟨vl, vn, vc, hd, _⟩, _, _⟩ := HB.out.disk
      have HD := Lib.hid hd
      clear hss e1 hsome hst hsome2 hd
      go_enter Tryz.func14, Tryz.ntmps14
      go_wp2_with (first | (go_at_call 32; refine (lhas_any H.out i).mono ?_; rw [HI.out]; rintro e w' ⟨rfl, rfl⟩) | (refine wpList_look_ok rfl _ _ rfl a S.wait i rfl rfl H.out.wait hi3 ?_; rw [HSM.out]) | (refine wpList_var_sec rfl rfl rfl _ _ rfl ((glook S.wait i).getD zeroSec) rfl rfl HZ.out ?_) | (refine wpList_look_ok rfl _ _ rfl c S.lost i rfl rfl HA.out.lost hi3 ?_; rw [HSN.out]) | (refine wpList_var_sec rfl rfl rfl _ _ rfl ((glook S.lost i).getD zeroSec) rfl rfl HZ2.out ?_) | (go_at_call 36; refine (read_sec HD.out i hi2.2 (S.read i) HE.out).mono ?_; rintro e w3 ⟨cap, rfl, hr, k3, z3⟩; simp only [World.size_alloc] at hr; have HR3 := Lib.hid hr; have K3 := Lib.hid k3; clear hr k3 z3))
      go_ret2
      refine ⟨_, rfl, ⟨_, _, _, rfl, HR3.out, by omega⟩, HZ3.out, KB.out.trans K3.out (fun _ h => h.elim)⟩

theorem lmark_nil {w : World} : Calls Tryz.prog 28 #[.pointer none] w fun e w' => e = .returned (.tuple #[]) ∧ w = w' := by
  go_enter Tryz.func28, Tryz.ntmps28
  go_wp2
  refine bodyPost_ret (results_none rfl _ _ _) rfl ?_
  exact ⟨rfl, rfl⟩

theorem lback_nil {w : World} : Calls Tryz.prog 29 #[.pointer none] w fun e w' => e = .returned (.tuple #[]) ∧ w = w' := by
  go_enter Tryz.func29, Tryz.ntmps29
  go_wp2
  refine bodyPost_ret (results_none rfl _ _ _) rfl ?_
  exact ⟨rfl, rfl⟩

theorem lsync_nil {w : World} : Calls Tryz.prog 12 #[.pointer none] w fun e w' => e = .returned (apiErr 1) ∧ w = w' := by
  go_enter Tryz.func12, Tryz.ntmps12
  go_wp2
  go_ret
  exact ⟨rfl, rfl⟩

end Go.Proofs.YtibmillfankjfaaGreatDoor
