/- FileNone answers true: no file, no store; bytes that are none. -/
import Derived.Test.YtcfllloilfahnaaDoorBegun5
import Derived.Test.YtcfllloilfahnaaDoorErr
namespace Go.Proofs.YtcfllloilfahnaaDoor.Ino
open Go.RowKit Go.Maps Go.Proofs.YtcfllloilfahnaaDoor
set_option maxRecDepth 100000

theorem isF_same (a : Int) (h : (a == 0) = false) {w : World} : Calls Tryd.prog 9 #[apiErr a, .int .i64 a] w fun e w' => e = .returned (.bool true) ∧ w = w' := by
  simp only [apiErr]
  go_enter Tryd.func9, Tryd.ntmps9
  go_wp2_with (go_at_call 20; refine (errIs_same a _).mono ?_; rintro e w' ⟨rfl, rfl⟩)
  go_ret
  exact ⟨rfl, rfl⟩

theorem works_nil {w : World} : Calls Tryd.prog 15 #[.pointer none] w fun e w' => e = .returned (.bool false) ∧ w = w' := by
  go_enter Tryd.func15, Tryd.ntmps15
  go_wp2
  go_ret
  exact ⟨rfl, rfl⟩

theorem readf_nil {w : World} (a n : Int) : Calls Tryd.prog 5 #[.pointer none, .int .i64 a, .int .i64 n] w fun e w' => e = .returned (.tuple #[.slice none 0 0, apiE 1]) ∧ w = w' := by
  go_enter Tryd.func5, Tryd.ntmps5
  go_wp2_with (go_at_call 15; refine works_nil.mono ?_; rintro e w1 ⟨rfl, rfl⟩)
  go_ret2
  exact ⟨rfl, rfl⟩

theorem writef_nil {w : World} (a : Int) (v : Value) : Calls Tryd.prog 10 #[.pointer none, .int .i64 a, v] w fun e w' => e = .returned (apiE 1) ∧ w = w' := by
  go_enter Tryd.func10, Tryd.ntmps10
  go_wp2_with (go_at_call 15; refine works_nil.mono ?_; rintro e w1 ⟨rfl, rfl⟩)
  go_ret
  exact ⟨rfl, rfl⟩

theorem truncf_nil {w : World} (a : Int) : Calls Tryd.prog 11 #[.pointer none, .int .i64 a] w fun e w' => e = .returned (apiE 1) ∧ w = w' := by
  go_enter Tryd.func11, Tryd.ntmps11
  go_wp2_with (go_at_call 15; refine works_nil.mono ?_; rintro e w1 ⟨rfl, rfl⟩)
  go_ret
  exact ⟨rfl, rfl⟩

theorem sizef_nil {w : World} : Calls Tryd.prog 12 #[.pointer none] w fun e w' => e = .returned (.int .i64 0) ∧ w = w' := by
  go_enter Tryd.func12, Tryd.ntmps12
  go_wp2
  go_ret
  exact ⟨rfl, rfl⟩

theorem blocksf_nil {w : World} : Calls Tryd.prog 13 #[.pointer none] w fun e w' => e = .returned (.int .i64 0) ∧ w = w' := by
  go_enter Tryd.func13, Tryd.ntmps13
  go_wp2
  go_ret
  exact ⟨rfl, rfl⟩

/-- A file without a store. -/
theorem new_nil {w : World} : Calls Tryd.prog 7 #[.nilIface] w fun e w' => ∃ g, e = .returned (.pointer (some ⟨g, 0, none⟩)) ∧ w'.cell? ⟨g, 0, none⟩ = some .nilIface ∧ Keep (fun _ => False) w w' := by
  have hz := zFile
  obtain ⟨Z, hZ⟩ : ∃ Z, Z = Tryd.zeroCells50 := ⟨_, rfl⟩
  rw [← hZ] at hz
  have hk : Keep (fun _ => False) w (w.alloc (.cells (Z.setIfInBounds 0 .nilIface) 50)) := (Keep.refl _ w).alloc _
  have hc : (w.alloc (.cells (Z.setIfInBounds 0 .nilIface) 50)).cell? ⟨w.heap.size, 0, none⟩ = some .nilIface := by
    rw [cell_of_row _ _ _ _ _ _ (heap_alloc_new w _), hz]; simp
  rw [hZ] at hk hc
  have HC := Lib.hid hc; have HK := Lib.hid hk
  clear hc hk hz hZ
  go_enter Tryd.func7, Tryd.ntmps7
  go_wp2
  go_ret
  exact ⟨_, rfl, HC.out, HK.out⟩

theorem works_nosto {w : World} {g : Nat} (h : w.cell? ⟨g, 0, none⟩ = some .nilIface) : Calls Tryd.prog 15 #[.pointer (some ⟨g, 0, none⟩)] w fun e w' => e = .returned (.bool false) ∧ w = w' := by
  go_enter Tryd.func15, Tryd.ntmps15
  go_wp2
  go_ret
  exact ⟨rfl, rfl⟩

theorem writef_nosto {w : World} {g : Nat} (h : w.cell? ⟨g, 0, none⟩ = some .nilIface) (a : Int) (v : Value) : Calls Tryd.prog 10 #[.pointer (some ⟨g, 0, none⟩), .int .i64 a, v] w fun e w' => e = .returned (apiE 1) ∧ w = w' := by
  have HW := Lib.hid (works_nosto h)
  clear h
  go_enter Tryd.func10, Tryd.ntmps10
  go_wp2_with (go_at_call 15; refine HW.out.mono ?_; rintro e w1 ⟨rfl, rfl⟩)
  go_ret
  exact ⟨rfl, rfl⟩

/-- Bytes of another length are no file's. -/
theorem unpack_len {w : World} {p : Nat} (ad : Option Addr) (n cap : Nat) (hn : n ≠ 64) : Calls Tryd.prog 17 #[.pointer (some ⟨p, 0, none⟩), .slice ad n cap] w fun e w' => e = .returned (.bool false) ∧ w = w' := by
  have hd : ((n : Int) != 64) = true := by simp only [bne_iff_ne, ne_eq]; omega
  go_enter Tryd.func17, Tryd.ntmps17
  go_wp2
  go_ret
  exact ⟨rfl, rfl⟩

theorem load_len {w : World} {F : Nat → Prop} {s b : Nat} {D : DataW Unit} {S : Sto} (h : IsSto w F s b D S) (ad : Option Addr) (n cap : Nat) (hn : n ≠ 64) : Calls Tryd.prog 6 #[.iface 30 (.pointer (some ⟨s, 0, none⟩)), .slice ad n cap] w fun e w' => e = .returned (.tuple #[.pointer none, apiE 4]) ∧ Keep (fun _ => False) w w' := by
  have H := Lib.hid h
  clear h
  go_enter Tryd.func6, Tryd.ntmps6
  go_wp2_with (first | (go_at_call 7; refine (new_any H.out).mono ?_; rintro e w1 ⟨rfl, _, k1⟩; have K1 := Lib.hid k1; clear k1) | (go_at_call 17; refine (unpack_len ad n cap hn).mono ?_; rintro e w2 ⟨rfl, rfl⟩))
  go_ret2
  exact ⟨rfl, K1.out⟩

set_option maxHeartbeats 1000000 in
theorem fileNone_any {w : World} : Calls Tryd.prog 3 #[] w fun e w' => e = .returned (.bool true) ∧ Keep (fun _ => False) w w' := by
  have hmm := @run_makeMap Tryd.prog
  have HS := Lib.hid (fresh_sto w 0 0 rfl (by omega))
  have K0 : Hid (Keep (fun _ => False) w ((w.alloc (.map #[] 0)).alloc (.cells #[.map (some w.heap.size), .int .i64 0, .int .i64 0, .bool false] 33))) := Lib.hid (((Keep.refl _ w).alloc _).alloc _)
  obtain ⟨i0, hi0, hz0, hz1, hz2⟩ := info_parts Tryd.infoB
  go_enter Tryd.func3, Tryd.ntmps3
  go_wp2_with (first | (go_at_call 5; refine (readf_nil _ _).mono ?_; rintro e w' ⟨rfl, rfl⟩) | (at_make; go_loud (refine wpList_make_row_g rfl (.const (.int .i64 63)) (.const (.int .i64 63)) rfl Tryd.underlying23 hi0 hz0 hz1 hz2 63 rfl rfl rfl rfl (by omega) (by unfold maxLen; omega) ?mk)))
  case mk =>
    generalize (w.alloc (.map #[] 0)).alloc (.cells #[.map (some w.heap.size), .int .i64 0, .int .i64 0, .bool false] 33) = w1 at *
    intro w2 h2 k2 _
    have HS2 := Lib.hid (HS.out.keep0 k2)
    have K2 := Lib.hid (K0.out.trans k2 (fun _ h => h.elim))
    clear h2 k2
    go_wp2_with (first | (go_at_call 6; refine (load_len HS2.out _ 63 _ (by omega)).mono ?_; rintro e w3 ⟨rfl, k3⟩; have K3 := Lib.hid (K2.out.trans k3 (fun _ h => h.elim)); clear k3) | (go_at_call 7; refine new_nil.mono ?_; rintro e w4 ⟨g, rfl, c4, k4⟩; have K4 := Lib.hid (K3.out.trans k4 (fun _ h => h.elim)); have C4 := Lib.hid c4; clear k4 c4) | (go_at_call 8; refine begun5_any.mono ?_; rintro e w5 ⟨rfl, k5⟩; have K5 := Lib.hid (K4.out.trans k5 (fun _ h => h.elim)); have C5 := Lib.hid ((k5.cell (World.block_lt_of_cell? _ _ C4.out) (fun h => h) _).trans C4.out); clear k5))
    go_wp2_with (first | (go_at_call 9; refine (isF_same _ (by rfl)).mono ?_; rintro e w' ⟨rfl, rfl⟩) | (go_at_call 10; first | (with_reducible refine (writef_nil _ _).mono ?_; rintro e w' ⟨rfl, rfl⟩) | (refine (writef_nosto ((((Keep.refl (fun _ => False) w5).alloc _).cell (World.block_lt_of_cell? _ _ C5.out) (fun h => h) _).trans C5.out) _ _).mono ?_; rintro e w' ⟨rfl, rfl⟩)) | (go_at_call 11; refine (truncf_nil _).mono ?_; rintro e w' ⟨rfl, rfl⟩) | (go_at_call 12; refine sizef_nil.mono ?_; rintro e w' ⟨rfl, rfl⟩) | (go_at_call 13; refine blocksf_nil.mono ?_; rintro e w' ⟨rfl, rfl⟩))
    go_ret
    exact ⟨rfl, K5.out.alloc _⟩

end Go.Proofs.YtcfllloilfahnaaDoor.Ino
