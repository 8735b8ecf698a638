/- The small world is a world: begun. -/
import Derived.Test.YtheaghgockafmaaGreatEbH
import Derived.Test.YtheaghgockafmaaGreatEbI
import Derived.Test.YtheaghgockafmaaGreatEbC
namespace Go.Proofs.YtheaghgockafmaaGreat.Wd
open Go.RowKit Go.Maps Go.Proofs.YtheaghgockafmaaGreat Go.Proofs.YtheaghgockafmaaGreat.Lin Go.Sort
set_option maxRecDepth 100000

theorem base_rooms : RoomsOk baseD := ⟨⟨by decide, by decide⟩, by decide⟩
theorem base_things : ThingsOk baseD := ⟨⟨by decide, by decide⟩, ⟨by decide, by decide⟩, by decide, by decide⟩
theorem base_rest : RestOk baseD := ⟨⟨by decide, by decide⟩, ⟨by decide, by decide⟩, ⟨by decide, by decide⟩, by decide, by decide, by decide⟩
theorem base_there : ThereOk baseD := by
  refine ⟨by decide, by decide, by decide, by decide, fun s hs => ?_⟩
  obtain rfl := List.mem_singleton.1 hs
  exact ⟨⟨1, _, rfl, rfl, rfl⟩, by decide⟩
theorem base_check : checkF baseD = 0 := by
  unfold checkF
  rw [if_neg (by
    rintro (h | h | h | h)
    · exact absurd h (by simp [baseD])
    · exact h base_rooms
    · exact h base_things
    · exact h base_rest), if_neg (fun h => h base_there)]
theorem base_sz : SzD baseD := ⟨by decide, by decide, by decide, by decide, by decide, by decide, by decide, by decide, by decide, by decide, by decide⟩

/-- New, with Total paid. -/
theorem entNew_all {P : Nat → Prop} {w : World} {d : Nat} {D : DbM} (h : DbAt P w d 0 D) (hz : SzD D) (hc : checkF D = 0) :
    Calls Tryz.prog 22 #[.pointer (some ⟨d, 0, none⟩)] w fun e w' => ∃ q, e = .returned (.pointer (some ⟨q, 0, none⟩)) ∧ NwR w q (newF D) w' := by
  have hk := checkF_ok hc
  refine entNew_any h hz hc hk.mobs hk.shops (fun w1 q hN => ?_)
  obtain ⟨N, hw⟩ := hN.wat
  have := total_any hw rfl rfl rfl (by show (tillsL (D.shops.take D.shops.length)).length ≤ 1000; rw [tillsL_len, List.length_take]; have := hk.shops; omega) (fun t ht => by
    obtain ⟨s, hs, rfl⟩ := List.mem_map.1 (show t ∈ (D.shops.take D.shops.length).map _ from ht)
    have := hk.till s (List.mem_of_mem_take hs)
    show 0 ≤ s.till ∧ s.till ≤ 1099511627776
    omega)
  rwa [show tillSum (newT D D.shops.length).tills = sumT D.shops by
    show tillSum (tillsL (D.shops.take D.shops.length)) = _
    rw [List.take_of_length_le (Nat.le_refl _)]; exact tillSum_shops _] at this

set_option maxHeartbeats 8000000 in
theorem begun16_any {w : World} : Calls Tryz.prog 6 #[] w fun e w' => e = .returned (.bool true) ∧ Keep (fun _ => False) w w' := by
  have x0 : baseD.rooms[0]? = some ⟨1, ⟨#[121, 97, 114, 100]⟩, 0, 0, 2, 3, 4, 5, 6, 0⟩ := rfl
  have HL : Hid (∀ w9 : World, Calls Tryz.prog 15 #[.int .i64 250] w9 fun e w' => e = .returned (.int .i64 3) ∧ w' = w9) := Lib.hid (fun w9 => level_any (by omega))
  have HM : Hid (∀ w9 : World, Calls Tryz.prog 17 #[.int .i64 250] w9 fun e w' => e = .returned (.int .i64 30) ∧ w' = w9) := Lib.hid (fun w9 => maxHp_any (by omega))
  go_enter Tryz.func6, Tryz.ntmps6
  go_upto_region 2 with (first
    | (go_at_call 27; (with_reducible refine base_any.mono ?_); rintro e w1 ⟨d, rfl, hd⟩; have HD1 := Lib.hid hd; clear hd)
    | (go_at_call 22; obtain ⟨P1, hdb, hkd, -⟩ := HD1.out.ex; (with_reducible refine (entNew_all hdb base_sz base_check).mono ?_); rintro e w2 ⟨q, rfl, hn⟩; have HN := Lib.hid hn; have K2 := Lib.hid (hkd.trans hn.k (fun _ e => e.elim)); clear hdb hkd hn))
  obtain ⟨N1, hw1⟩ := HN.out.wat
  obtain ⟨a3, c3, cr, q3, -⟩ := hw1.chars
  obtain ⟨a5, c5, q5, -⟩ := hw1.mobs
  have q1 := HN.out.own.2.1
  have q2 := HN.out.own.2.2
  rw [show (newF baseD).next = 3 from rfl] at q1
  rw [show (newF baseD).minted = 50 from rfl] at q2
  rw [show (newF baseD).mobs.length = 2 from rfl] at q5
  rw [show (newF baseD).chars.length = 0 from rfl] at q3
  have HW := Lib.hid hw1
  have H3 : Hid (∀ w9, Keep (fun _ => False) w2 w9 → w9.cell? ⟨q, 3, none⟩ = some (.slice a3 0 c3)) := Lib.hid (fun w9 k => (k.cell (cell_lt q3) (fun e => e) _).trans q3)
  have K0 : Hid (Keep (fun _ => False) w2 w2) := Lib.hid (Keep.refl _ _)
  clear hw1 q3
  go_wp2_with (first
    | (go_at_call 24; obtain ⟨P3, hdb, hkd, -⟩ := HD3.out.ex; (with_reducible refine (mayNew_any hdb base_sz base_check (HW.out.keep K3.out (fun _ _ e => e))).mono ?_); rintro e w4 ⟨rfl, k4⟩; have K4 := Lib.hid (K3.out.trans k4 (fun _ e => e.elim)); clear hdb hkd k4 HD3)
    | (go_at_call 25; obtain ⟨P3, hdb, hkd, -⟩ := HD5.out.ex; (with_reducible refine (start16_any hdb x0 (checkF_ok base_check).rrise (by decide)).mono ?_); rintro e w6 ⟨rfl, k6⟩; have K6 := Lib.hid (K5.out.trans k6 (fun _ e => e.elim)); clear hdb hkd k6)
    | (go_at_call 15; (with_reducible refine (HL.out _).mono ?_); rintro e w7 ⟨rfl, rfl⟩)
    | (go_at_call 17; (with_reducible refine (HM.out _).mono ?_); rintro e w8 ⟨rfl, rfl⟩)
    | (go_at_call 28; (with_reducible refine (charNil_any (H3.out _ K6.out) _).mono ?_); rintro e w9 ⟨rfl, k9⟩; have K9 := Lib.hid (K6.out.trans k9 (fun _ e => e.elim)); clear k9)
    | (go_at_call 27; (first
        | (have K5' := K4.out; (with_reducible refine base_any.mono ?_); rintro e w5 ⟨d5, rfl, hd⟩; have HD5 := Lib.hid hd; have K5 := Lib.hid (K5'.trans hd.k (fun _ e => e.elim)); clear hd)
        | ((with_reducible refine base_any.mono ?_); rintro e w3 ⟨d3, rfl, hd⟩; have HD3 := Lib.hid hd; have K3 := Lib.hid (K0.out.trans hd.k (fun _ e => e.elim)); clear hd))))
  go_ret
  exact ⟨rfl, K2.out.trans K9.out (fun _ e => e.elim)⟩
end Go.Proofs.YtheaghgockafmaaGreat.Wd
