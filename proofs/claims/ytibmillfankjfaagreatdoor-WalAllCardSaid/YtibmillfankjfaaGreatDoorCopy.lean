/- maps.Copy at groups of sectors: that it ends, and what it leaves alone. -/
import Derived.Test.YtibmillfankjfaaGreatDoorGrp
import Derived.Maps.RangeWalk
import Derived.Laws.IdiomRangeMap
namespace Go.Proofs.YtibmillfankjfaaGreatDoor
open Go.RowKit Go.Maps
set_option maxRecDepth 100000

theorem Keep.toGrown {g : Nat} {w w' : World} (h : Keep (fun b => b = g) w w') : w.grownBy w' (some g) :=
  ⟨h.os, h.tape, h.output, h.size, fun k hk hne => h.block k hk (fun e => hne (by rw [e]))⟩

set_option maxHeartbeats 2000000 in
theorem copy_any {w : World} {bd bs nd ns : Nat} {Dd Ds : DataW Unit} (hd : w.ownsMap Tryz.prog 3 secR bd nd Dd) (hs : w.ownsMap Tryz.prog 3 secR bs ns Ds) (hne : bd ≠ bs) (hroom : nd + Maps.size Ds ≤ maxLen) :
    Calls Tryz.prog 34 #[.map (some bd), .map (some bs)] w fun e w' => e = .returned (.tuple #[]) ∧ Keep (fun x => x = bd) w w' := by
  have hbd := hd.lt
  have hbs := hs.lt
  have HD := Lib.hid hd; have HS := Lib.hid hs
  clear hd hs
  go_enter Tryz.func34, Tryz.ntmps34
  go_wp2_with (at_range; refine wpList_range_own _ rfl _ 57 rfl 3 53 Tryz.lawK Tryz.underlying57 secR bs ns _ rfl HS.out ?_; intro w0 hrg0 hg0 hs0)
  go_frame
  go_loopw [8] (fun _ wr => ∃ (left : Lit → Bool) (cnt : Nat) (Dout : DataW Unit), wr.ranges Tryz.prog 3 secR bs w.heap.size ns Ds left cnt ∧ cnt ≤ Maps.size Ds ∧
      wr.ownsMap Tryz.prog 3 secR bd (nd + (Maps.size Ds - cnt)) Dout ∧ Keep (fun x => x = bd) w wr)
    (fun _ wr => wr.rangeLeft bs w.heap.size)
  case atStart =>
    exact ⟨_, _, Dd, hrg0, Nat.le_refl _, (HD.out.kept hg0 (by simp)).mono (by omega), (Keep.refl _ w).grown hg0 (by simp)⟩
  case round =>
    obtain ⟨left, cnt, Dout, hrg, hcs, hout, hgw⟩ := hrel
    go_wp2_with (at_next; refine wpList_next_ranges _ rfl _ rfl 3 Tryz.lawK secR id id (fun key _ _ => ⟨key, rfl⟩) (fun v _ _ => ⟨v, rfl⟩) bs w.heap.size ns _ _ _ rfl hrg ?_ ?_)
    · intro hc0 hl0
      go_wp2
      go_end0
      exact ⟨rfl, hgw⟩
    · intro x c kl yd yp w1 cnt1 hkey hlx hv hat hrg1 hlt hg1 hs1 hen
      have hout1 := hout.kept hg1 (fun e => by have := Option.some.inj e; omega)
      obtain ⟨s, hs512, hc, hy⟩ := secR_inv hv
      change c = secV s at hc
      subst hc
      have hrl := hrg.left_eq
      have HX := Lib.hid hrg1.lt
      have HRG := Lib.hid hrg1; have HO := Lib.hid hout1; have HV := Lib.hid hv; have HKEY := Lib.hid hkey
      have HKW := Lib.hid (hgw.grown hg1 (fun k e => .inr (by have := Option.some.inj e; omega)))
      have HLT := Lib.hid hlt; have HCS := Lib.hid hcs; have HRL := Lib.hid hrl
      clear hrg1 hout1 hv hkey hat hrg hout hgw hg1 hlt hcs hrl hlx hs1
      go_wp2_with (first | (refine wpList_alloc_sec rfl rfl ?_) | (refine wpList_store_sec rfl _ _ rfl w1.heap.size zeroSec s rfl rfl (SecAt.new w1 zeroSec zeroSec_size) hs512 ?_; intro w2 h2 k2 z2; have H2 := Lib.hid h2; have G2 := Lib.hid k2.toGrown; have HA := Lib.hid (World.grownBy_alloc w1 (.cells (secC zeroSec) 53) none); clear h2 k2 z2) | (refine wpList_load_sec rfl _ rfl w1.heap.size s rfl H2.out ?_) | (at_mapUpdate; refine wpList_mapUpdate_own _ rfl _ _ _ 57 rfl 3 53 Tryz.lawK Tryz.underlying57 secR bd _ _ rfl ((HO.out.kept HA.out (by simp)).kept G2.out (fun e => by have := Option.some.inj e; have := HO.out.lt; omega)) (by have := HCS.out; have := HLT.out; omega) _ _ _ rfl rfl HKEY.out _ _ HV.out ?_; intro w3 hout3 hg3; have HO3 := Lib.hid hout3; have HG3 := Lib.hid hg3; clear hout3 hg3; go_frame))
      have R1 := HRG.out.kept HA.out (by simp) (by simp)
      have R2 := R1.kept G2.out (fun e => by have := Option.some.inj e; have := HRG.out.owns.lt; omega) (fun e => by have := Option.some.inj e; have := HX.out; omega)
      have R3 := Lib.hid (R2.kept HG3.out (fun e => hne (Option.some.inj e).symm) (fun e => by have := Option.some.inj e; omega))
      clear R1 R2
      go_roundw
      case rel =>
        exact ⟨_, cnt1, _, R3.out, by have := HCS.out; have := HLT.out; omega, HO3.out.mono (by have := HCS.out; have := HLT.out; omega), ((HKW.out.grown HA.out (by simp)).grown G2.out (fun k e => .inr (by have := Option.some.inj e; have := HX.out; omega))).grown HG3.out (fun k e => .inl (Option.some.inj e).symm)⟩
      case measure => rw [R3.out.left_eq, HRL.out]; exact HLT.out

end Go.Proofs.YtibmillfankjfaaGreatDoor
