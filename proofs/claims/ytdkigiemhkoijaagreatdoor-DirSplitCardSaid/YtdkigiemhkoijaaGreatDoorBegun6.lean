/- dirfs: the statements' own beginning. -/
import Derived.Test.YtdkigiemhkoijaaGreatDoorList1
namespace Go.Proofs.YtdkigiemhkoijaaGreatDoor.Dir
open Go.RowKit Go.Maps Go.Proofs.YtdkigiemhkoijaaGreatDoor Go.Proofs.YtdkigiemhkoijaaGreatDoor.Ino
set_option maxRecDepth 100000

set_option maxHeartbeats 1000000 in
theorem begun6_any {w : World} : Calls Tryz.prog 4 #[] w fun e w' => e = .returned (.bool true) ∧ Keep (fun _ => False) w w' := by
  have hmm := @run_makeMap Tryz.prog
  have hm1 : mayB [97, 45, 98, 46, 99, 95, 57] = true := by decide
  have hm2 : mayB [46, 46] = false := by decide
  have HS := Lib.hid (fresh_sto w 9 9 rfl (by omega))
  have K0 : Hid (Keep (fun _ => False) w ((w.alloc (.map #[] 0)).alloc (.cells #[.map (some w.heap.size), .int .i64 9, .int .i64 0, .bool false] 39))) := Lib.hid (((Keep.refl _ w).alloc _).alloc _)
  have S0 : Hid (((w.alloc (.map #[] 0)).alloc (.cells #[.map (some w.heap.size), .int .i64 9, .int .i64 0, .bool false] 39)).heap.size = w.heap.size + 2) := Lib.hid (by simp)
  go_enter Tryz.func4, Tryz.ntmps4
  go_wp2_with fail
  refine (fl_new HS.out rfl).mono ?_
  generalize (w.alloc (.map #[] 0)).alloc (.cells #[.map (some w.heap.size), .int .i64 9, .int .i64 0, .bool false] 39) = w1 at *
  rintro e w2 ⟨rfl, h2, k2⟩
  have H2 := Lib.hid h2; have K2 := Lib.hid (K0.out.trans k2 (fun _ h => h.elim))
  have HAD : Hid (Calls Tryz.prog 12 #[.pointer (some ⟨w1.heap.size, 0, none⟩), .string ⟨#[97]⟩, .int .i64 3] w2 (AdF w1.heap.size (w.heap.size + 1) 9 (fun x => x = w.heap.size + 1 ∨ x = w.heap.size) ([97], 3) w2)) := Lib.hid (add_first h2 (by omega) ⟨#[97]⟩ (by decide) 3 (by omega) (by omega))
  have HP : Hid (w.heap.size ≤ w1.heap.size) := Lib.hid K0.out.size
  have HFP : Hid (∀ x, (x = w.heap.size + 1 ∨ x = w.heap.size) ∨ x = w1.heap.size → w.heap.size ≤ x) := Lib.hid (fun x hx => by have := K0.out.size; rcases hx with (e | e) | e <;> omega)
  clear h2 k2
  generalize w1.heap.size = p at *
  go_wp2_with (go_at_call 12; (with_reducible refine HAD.out.mono ?_); rintro e w3 h3; have H3 := Lib.hid h3; obtain rfl := h3.ret; clear h3)
  obtain ⟨F3, S3, T3, hd3, _, _⟩ := H3.out.ex
  have HD3 := Lib.hid hd3
  have K3 : Hid (Keep (fun _ => False) w w3) := Lib.hid (K2.out.trans H3.out.keep (fun x hx => .inr (HFP.out x hx)))
  have HFI : Hid (Calls Tryz.prog 13 #[.pointer (some ⟨p, 0, none⟩), .string ⟨#[97]⟩] w3 fun e w' => e = .returned (.tuple #[.int .i64 3, .nilIface]) ∧ Keep (fun _ => False) w3 w') := Lib.hid (find_some hd3 ⟨#[97]⟩ (by decide) (k := 0) (by decide) (by simp))
  clear hd3
  go_wp2_with (go_at_call 13; (with_reducible refine HFI.out.mono ?_); rintro e w4 ⟨rfl, k4⟩; have K4 := Lib.hid (K3.out.trans k4 (fun _ h => h.elim)); have HLI := Lib.hid (list_one (HD3.out.keep0 k4) (by simp)); clear k4)
  go_wp2_with (first | (go_at_call 14; (with_reducible refine HLI.out.mono ?_); rintro e w5 ⟨va, vc, rfl, hr, k5⟩; obtain ⟨g, o, c, hv, _, _⟩ := hr.full (by omega); obtain ⟨rfl, -, rfl⟩ := (Value.slice.injEq ..).mp hv; have c0 := hr.cellAt 0 (by omega); have c1 := hr.cellAt 1 (by omega); simp [ecells] at c0 c1; have K5 := Lib.hid (K4.out.trans k5 (fun _ h => h.elim)); clear k5 hr) | (go_at_call 9; (first | ((with_reducible refine (may_any _).mono ?_); rintro e w' ⟨rfl, rfl⟩))))
  go_ret
  exact ⟨rfl, K5.out⟩

end Go.Proofs.YtdkigiemhkoijaaGreatDoor.Dir
