/- WalAll answers true. -/
import Derived.Test.YtibmillfankjfaaGreatDoorAllF
import Derived.Test.YtibmillfankjfaaGreatDoorArgsO
namespace Go.Proofs.YtibmillfankjfaaGreatDoor
open Go.RowKit
set_option maxRecDepth 100000

theorem one_any {w wr : World} {p r B i : Nat} (h : ARel w p r B i wr) (hi : i < 30) (kd ii : Int) (hf1 : -9223372036854775808 ≤ ii) (hf2 : ii ≤ 9223372036854775807) {u : Value} {bl : List UInt8} (hu : Seen w 1 u bl.length (bcells bl)) (hub : ∀ b, u.ownBlock = some b → 0 < bl.length → b < w.heap.size) :
    Calls Tryz.prog 8 #[.pointer (some ⟨p, 0, none⟩), .pointer (some ⟨B, 0, none⟩), .pointer (some ⟨r, 0, none⟩), .agg #[.int .i64 kd, .int .i64 ii, u]] wr fun e w' => e = .returned (.bool true) ∧ ARel w p r B (i + 1) w' := by
  obtain ⟨au, capu, lu, rfl, _⟩ : ∃ au capu lu, u = .slice au lu capu ∧ lu = bl.length := by
    obtain ⟨_, a, cap, h, _⟩ := hu
    exact ⟨a, cap, _, h, rfl⟩
  by_cases h0 : kd = 0
  · subst h0; exact one_put h hi ii hf1 hf2 hu hub
  by_cases h1 : kd = 1
  · subst h1; exact one_sync h hi ii au lu capu
  by_cases h2 : kd = 2
  · subst h2; exact one_mark h hi ii au lu capu
  by_cases h3 : kd = 3
  · subst h3; exact one_back h hi ii au lu capu
  exact one_open h hi kd ii h0 h1 h2 h3 au lu capu

theorem homes_zeroA {D : Dk} (h : D = openD (Dk.fresh (List.replicate 128 zeroSec))) : HomeIs D (List.replicate 128 zeroSec) := by
  have ho := open_fresh (zeros_ok 128 (by omega)) (by rw [List.length_replicate]; omega)
  rw [List.length_replicate] at ho
  intro i a b
  rw [h, ho.2.1 i a b, rh_head (replicate_head 128 (by omega))]

theorem AP.start {D : Dk} (h : D = openD (Dk.fresh (List.replicate 128 zeroSec))) (hok : D.Ok) : AP D (List.replicate 128 zeroSec) [] [] [] [] 0 := by
  have ho := open_fresh (zeros_ok 128 (by omega)) (by rw [List.length_replicate]; omega)
  rw [List.length_replicate] at ho
  rw [← h] at ho
  exact ⟨ho.1, hok, fun i a b => homes_zeroA h i a b, RefIs.nil, RefIs.nil, List.length_replicate, by simp, by simp, by simp, by simp, fun x hx => by simp at hx, fun x hx => by simp at hx, by rw [h, open_lim]; rfl⟩

/-- The memory ahead of the loop. -/
theorem am_start {w w3 w5 : World} {p q r : Nat} {D : Dk} {n : Nat} {vh : Value} {us : List Value} (h : Lg w w3 p q ⟨D, [], [], []⟩ n) (hst : StAt (w3.alloc (.cells #[.pointer (some ⟨q, 0, none⟩)] 26)) r 128 w5)
    (hh : w5.heap[r]? = some (.cells #[vh, .slice none 0 0, .slice none 0 0] 64 (0, 0))) (hA : HomesAt (fun x => (w3.alloc (.cells #[.pointer (some ⟨q, 0, none⟩)] 26)).heap.size ≤ x ∧ x < w5.heap.size ∧ x ≠ r) w5 vh us (List.replicate 128 zeroSec)) :
    AM w (fun M wr => Two M w wr p q ⟨D, [], [], []⟩ n) r w3.heap.size q (fun x => w3.heap.size + 1 ≤ x ∧ x < w5.heap.size ∧ x ≠ r) vh (.slice none 0 0) (.slice none 0 0) us [] [] (List.replicate 128 zeroSec) [] [] w5 := by
  have s3 := h.keep.size
  have hn := hst.new
  simp only [World.size_alloc] at hn hA
  have hk := hst.keep
  have hs := hk.size
  simp only [World.size_alloc] at hs
  have hv : w5.heap[w3.heap.size]? = some (.cells #[.pointer (some ⟨q, 0, none⟩)] 26 (0, 0)) := (hk.block w3.heap.size (by simp) (fun h => h)).trans (heap_alloc_new w3 _)
  refine ⟨⟨hh, hA, waitNone _ _, fun h => h.2.2 rfl⟩, waitNone _ _, fun x hx => by omega, by omega, hv, ⟨s3, by omega, fun h => by omega⟩, ?_⟩
  refine Two.start h (((Keep.refl (fun _ => False) w3).alloc _).trans hk (fun _ h => h.elim)) (fun x hx => ?_)
  rcases hx with hx | hx | hx <;> omega

set_option maxHeartbeats 4000000 in
theorem wa_any {w : World} (hT : Tab w) {vo : Value} {os : List (Int × Int × List UInt8)} (hO : OpsW w vo os) :
    Calls Tryz.prog 3 #[vo] w fun e w' => e = .returned (.bool true) ∧ Keep (fun _ => False) w w' := by
  have HT := Lib.hid hT; have HO := Lib.hid hO
  obtain ⟨ao, L, capo, hL, rfl, hco, hco2⟩ : ∃ a L cap, os.length = L ∧ vo = .slice a L cap ∧ L ≤ cap ∧ cap ≤ maxLen := by
    obtain ⟨a, cap, h1, h2, h3⟩ := hO.shape
    exact ⟨a, os.length, cap, rfl, h1, h2, h3⟩
  unfold maxLen at hco2
  have HL := Lib.hid hL
  have ho := open_fresh (zeros_ok 128 (by omega)) (by rw [List.length_replicate]; omega)
  rw [List.length_replicate] at ho
  have HOF := Lib.hid ho
  clear hT hO ho hL
  go_enter Tryz.func3, Tryz.ntmps3
  go_wp2_with (go_at_call 4; refine (begun3_any HT.out).mono ?_; rintro e w1 ⟨rfl, k1⟩; have K1 := Lib.hid k1; clear k1)
  refine (new_g K1.out HT.out 128 (by omega) (by omega)).mono ?_
  rintro e w2 ⟨p, rfl, h2'⟩
  have H2 := Lib.hid h2'; clear h2'
  go_wp2_with fail
  refine (open_g H2.out (by omega) (by simp [Dk.fresh]) (by simp [Dk.fresh]) HOF.out.2.2).mono ?_
  rintro e w3 ⟨q, rfl, h3'⟩
  obtain ⟨D1, hD1⟩ : ∃ D1, D1 = openD (Dk.fresh (List.replicate 128 zeroSec)) := ⟨_, rfl⟩
  rw [← hD1] at h3'
  have H3 := Lib.hid h3'
  have HP1 := Lib.hid (AP.start hD1 h3'.dok)
  clear h3' H2 hD1 HOF
  go_wp2_with fail
  refine (state_any).mono ?_
  rintro e w5 ⟨r, rfl, hst⟩
  obtain ⟨vh, us, hh, hA⟩ := hst.ex
  have H0 : Hid (ARel w p r w3.heap.size 0 w5) := Lib.hid ⟨⟨_, _, _, _, _, _, _, _, _, _, _, _, _, _, am_start H3.out hst hh hA, HP1.out⟩⟩
  clear hst hh hA HP1 H3
  generalize w3.heap.size = B at *
  go_wp2
  go_loopw [8] (fun iv wr => ∃ i : Nat, i ≤ L ∧ i ≤ 25 ∧ iv = .int .i64 (i : Int) ∧ ARel w p r B i wr) (fun iv _ => 25 - (intOf iv).toNat)
  case atStart => exact ⟨0, by omega, by omega, rfl, H0.out⟩
  case round =>
    obtain ⟨i, hiL, hi25, rfl, hF⟩ := hrel
    have HF := Lib.hid hF
    clear hF H0
    by_cases t1 : i < L
    · by_cases t2 : i < 25
      · obtain ⟨go, oo, capx, hvo, hgo, hop⟩ := HO.out.each i (by rw [HL.out]; exact t1)
        simp only [Value.slice.injEq] at hvo
        obtain ⟨rfl, -, -⟩ := hvo
        have hk : Keep (fun _ => False) w wr := by
          obtain ⟨q, N, vh, vw, vs, us, ks, ks2, H, W, W2, g, m, D, hm, _⟩ := HF.out.ex
          exact hm.side.keep
        have c0 := hop.kind
        have c1 := hop.num
        obtain ⟨u, c2, hus, hub⟩ := hop.bytes
        have ft2 := hop.fit2
        rw [← hk.cell hgo (fun h => h)] at c0 c1 c2
        have HUS := Lib.hid hus
        have HUB : Hid (∀ b, u.ownBlock = some b → 0 < (os[i]'(by rw [HL.out]; exact t1)).2.2.length → b < w.heap.size) := Lib.hid hub
        generalize (os[i]'(by rw [HL.out]; exact t1)).1 = kd at *
        generalize (os[i]'(by rw [HL.out]; exact t1)).2.1 = ii at *
        generalize (os[i]'(by rw [HL.out]; exact t1)).2.2 = bl at *
        clear hop hus hub hk hgo
        unfold inInt3 at ft2
        go_wp2_with fail
        refine (one_any HF.out (by omega) kd ii ft2.1 ft2.2 HUS.out HUB.out).mono ?_
        rintro e w6 ⟨rfl, h6⟩
        have H6 := Lib.hid h6
        obtain ⟨q, N, vh, vw, vs, us, ks, ks2, H, W, W2, g, m, D, hm, hp⟩ := h6.ex
        have HM := Lib.hid hm; have HP := Lib.hid hp
        have b0 : w6.cell? ⟨B, 0, none⟩ = some (.pointer (some ⟨q, 0, none⟩)) := (cell_of_row _ _ _ _ _ _ hm.var).trans rfl
        clear h6 hm hp
        go_wp2_with fail
        refine (same_any HM.out HP.out (by omega)).mono ?_
        rintro e w7 ⟨rfl, k7⟩
        have H7 : Hid (ARel w p r B (i + 1) w7) := Lib.hid ⟨⟨_, _, _, _, _, _, _, _, _, _, _, _, _, _, HM.out.go (side_two w p q _ _) k7, HP.out⟩⟩
        clear k7
        go_wp2
        go_roundw
        case rel => exact ⟨i + 1, by omega, by omega, by go_num, H7.out⟩
        case measure => simp [intOf]; omega
      · have hk : Keep (fun _ => False) w wr := by
          obtain ⟨q, N, vh, vw, vs, us, ks, ks2, H, W, W2, g, m, D, hm, _⟩ := HF.out.ex
          exact hm.side.keep
        have HK := Lib.hid hk
        clear hk
        go_wp2
        go_ret
        exact ⟨rfl, HK.out⟩
    · have hk : Keep (fun _ => False) w wr := by
        obtain ⟨q, N, vh, vw, vs, us, ks, ks2, H, W, W2, g, m, D, hm, _⟩ := HF.out.ex
        exact hm.side.keep
      have HK := Lib.hid hk
      clear hk
      go_wp2
      go_ret
      exact ⟨rfl, HK.out⟩

end Go.Proofs.YtibmillfankjfaaGreatDoor
