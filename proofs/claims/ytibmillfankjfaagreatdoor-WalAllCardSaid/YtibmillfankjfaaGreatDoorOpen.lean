/- Open: what a crash left in the log comes home. -/
import Derived.Test.YtibmillfankjfaaGreatDoorLog
namespace Go.Proofs.YtibmillfankjfaaGreatDoor
open Go.RowKit
set_option maxRecDepth 100000

theorem open_nil {w : World} : Calls Tryz.prog 6 #[.pointer none] w fun e w' => e = .returned (.tuple #[.pointer none, apiErr 3]) ∧ w = w' := by
  go_enter Tryz.func6, Tryz.ntmps6
  go_wp2_with (go_at_call 18; refine len_nil.mono ?_; rintro e w' ⟨rfl, rfl⟩)
  go_ret2
  exact ⟨rfl, rfl⟩

theorem open_small {w : World} {F : Nat → Prop} {p : Nat} {D : Dk} {n : Nat} (h : DiskAt w F p D n) (hl : D.las.length < 128) :
    Calls Tryz.prog 6 #[.pointer (some ⟨p, 0, none⟩)] w fun e w' => e = .returned (.tuple #[.pointer none, apiErr 3]) ∧ w = w' := by
  have HD := Lib.hid h
  clear h
  have hl' : ((D.las.length : Nat) : Int) < 128 := by omega
  go_enter Tryz.func6, Tryz.ntmps6
  go_wp2_with (go_at_call 18; refine (len_at HD.out).mono ?_; rintro e w' ⟨rfl, rfl⟩)
  go_ret2
  exact ⟨rfl, rfl⟩

/-- What Open gives. -/
def OpenAt (w : World) (F : Nat → Prop) (p : Nat) (D : Dk) (n : Nat) (e : Ending) (w' : World) : Prop :=
  (deadB (openD D) = true ∧ e = .returned (.tuple #[.pointer none, apiErr 3]) ∧ DiskAt w' (grow F w w') p (openD D) (n + 50) ∧ Keep F w w') ∨
  (deadB (openD D) = false ∧ ∃ G q a b c, e = .returned (.tuple #[.pointer (some ⟨q, 0, none⟩), .nilIface]) ∧ IsLog w' G p q a b c ⟨openD D, [], [], []⟩ (n + 50) ∧ Keep F w w' ∧ (∀ x, logOf G q a b c x → grow F w w' x) ∧ (∀ x, x = q ∨ x = a ∨ x = b ∨ x = c → w.heap.size ≤ x))

theorem open_done {w w3 : World} {F : Nat → Prop} {p : Nat} {D : Dk} {n m : Nat} (hd : DiskAt w3 (grow F w w3) p (openD D) m) (hm : m ≤ n + 50) (hk : Keep F w w3) (hlen : 128 ≤ D.las.length) (hlen2 : D.las.length ≤ 4096) (hdead : deadB (openD D) = false) (e : Ending) (w' : World)
    (he : e = .returned (.tuple #[.pointer (some ⟨w3.heap.size + 3, 0, none⟩), .nilIface]))
    (hw : w' = (((w3.alloc (.map #[] 0)).alloc (.map #[] 0)).alloc (.map #[] 0)).alloc (.cells #[.pointer (some ⟨p, 0, none⟩), .map (some w3.heap.size), .map (some (w3.heap.size + 1)), .map (some (w3.heap.size + 2))] 60)) : OpenAt w F p D n e w' := by
  have k3 : Keep (fun _ => False) w3 w' := by subst hw; exact ((((Keep.refl (fun _ => False) w3).alloc _).alloc _).alloc _).alloc _
  have hs : w'.heap.size = w3.heap.size + 4 := by subst hw; simp
  have hws := hk.size
  refine .inr ⟨hdead, grow F w w3, w3.heap.size + 3, w3.heap.size, w3.heap.size + 1, w3.heap.size + 2, he, ⟨?_, ?_, ?_, ?_, ?_, by omega, by omega, by omega, ?_, ?_, ?_, ?_, ⟨by rw [openD_len]; exact hlen, by rw [openD_len]; exact hlen2, by simp [GIn], by simp [GIn], by simp, by simp, by simp⟩⟩, hk.trans k3 (fun _ h => h.elim), ?_, by omega⟩
  · have h0 := heap_alloc_new (((w3.alloc (.map #[] 0)).alloc (.map #[] 0)).alloc (.map #[] 0)) (.cells #[.pointer (some ⟨p, 0, none⟩), .map (some w3.heap.size), .map (some (w3.heap.size + 1)), .map (some (w3.heap.size + 2))] 60)
    simp only [World.size_alloc] at h0
    rw [hw]; exact h0
  · exact (hd.keep0 k3).mono hm
  · rw [hw]; exact (((IsGrp.made w3).alloc _).alloc _).alloc _
  · have h0 := IsGrp.made (w3.alloc (.map #[] 0))
    simp only [World.size_alloc] at h0
    rw [hw]; exact (h0.alloc _).alloc _
  · have h0 := IsGrp.made ((w3.alloc (.map #[] 0)).alloc (.map #[] 0))
    simp only [World.size_alloc] at h0
    rw [hw]; exact h0.alloc _
  · intro hx; have := hd.lt _ hx; omega
  · intro hx; have := hd.lt _ hx; omega
  · intro hx; have := hd.lt _ hx; omega
  · intro hx; have := hd.lt _ hx; omega
  · rintro x (hx | rfl | rfl | rfl | rfl)
    · rcases hx with hx | hx
      · exact .inl hx
      · exact .inr (by omega)
    · exact .inr (by omega)
    · exact .inr (by omega)
    · exact .inr (by omega)
    · exact .inr (by omega)

theorem DiskAt.chain {w w1 w2 : World} {F : Nat → Prop} {p : Nat} {D : Dk} {n : Nat} (h : DiskAt w2 (grow (grow F w w1) w1 w2) p D n) (h1 : w.heap.size ≤ w1.heap.size) (h2 : w1.heap.size ≤ w2.heap.size) : DiskAt w2 (grow F w w2) p D n := by
  rwa [grow_grow h1 h2] at h

theorem DiskAt.later {w w1 w2 : World} {F : Nat → Prop} {p : Nat} {D : Dk} {n : Nat} (h : DiskAt w1 (grow F w w1) p D n) (k : Keep (fun _ => False) w1 w2) : DiskAt w2 (grow F w w2) p D n :=
  (h.keep0 k).widen (fun b hb => by rcases hb with hb | hb; exact .inl hb; have := k.size; exact .inr (by omega)) (fun b hb => by
    rcases hb with hb | hb
    · have := h.lt b (.inl hb); have := k.size; omega
    · exact hb.2)

theorem settle_from {w w2 w3 : World} {F : Nat → Prop} {p : Nat} {D : Dk} {n : Nat} {mb : Option Nat} {g : Grp} (hT : Tab w) (hc : ¬ F 1) (hlt : ∀ b, F b → b < w.heap.size) (hd : DiskAt w2 (grow F w w2) p D n) (hk : Keep F w w2) (k3 : Keep (fun _ => False) w2 w3)
    (hg : GrpO w3 mb g) (ho : ∀ b, mb = some b → w2.heap.size ≤ b) (hn : n < 500000000000) (hgn : g.length ≤ 100) (hlen : 128 ≤ D.las.length) (hin : GIn D g) :
    Calls Tryz.prog 21 #[.pointer (some ⟨p, 0, none⟩), .map mb] w3 fun e w' => e = .returned (.tuple #[]) ∧ DiskAt w' (grow F w w') p (settleD D g) (n + g.length + 1) ∧ Keep F w w' := by
  have hs := hk.size
  have hs3 := k3.size
  refine (settle_any ((hT.keep hk hc).keep k3 (fun h => h)) (hd.keep0 k3) hn hg hgn hlen (fun k h => (gin_key hin k h).2) (fun b hb => ?_) ?_).mono ?_
  · have := ho b hb
    rintro (h | h)
    · have := hlt b h; omega
    · omega
  · rintro (h | h)
    · exact hc h
    · have := hT.lt; omega
  · rintro e w' ⟨rfl, h1, h2⟩
    have hs4 := h2.size
    have hk' : Keep F w w' := by
      refine (hk.trans k3 (fun _ h => h.elim)).trans h2 (fun x hx => ?_)
      rcases hx with hx | hx
      · exact .inl hx
      · exact .inr hx.1
    refine ⟨rfl, h1.widen (fun b hb => ?_) (fun b hb => ?_), hk'⟩
    · rcases hb with (hb | hb) | hb
      · exact .inl hb
      · exact .inr (by omega)
      · exact .inr (by omega)
    · rcases hb with hb | hb
      · have := hlt b hb; omega
      · exact hb.2

set_option maxHeartbeats 4000000 in
theorem open_any {w : World} {F : Nat → Prop} {p : Nat} {D : Dk} {n : Nat} (hT : Tab w) (hc : ¬ F 1) (h : DiskAt w F p D n) (hn : n < 400000000000) (hlen : 128 ≤ D.las.length) (hlen2 : D.las.length ≤ 4096) :
    Calls Tryz.prog 6 #[.pointer (some ⟨p, 0, none⟩)] w fun e w' => OpenAt w F p D n e w' := by
  have HT := Lib.hid hT; have HC := Lib.hid hc; have HD := Lib.hid h
  have hl : ¬ ((D.las.length : Nat) : Int) < 128 := by omega
  have HOD : Hid (openD D = if sec0 D.df = zeroSec then D.df else settleD D.df ((loggedD D.df).getD [])) := Lib.hid rfl
  have H0 : Hid (D.df.new.getD 0 default = sec0 D.df) := Lib.hid rfl
  clear hT hc h
  have hmm := @run_makeMap Tryz.prog
  cases hdd : deadB (openD D) <;> cases hz : decide (sec0 D.df = zeroSec)
  all_goals
    have HDD := Lib.hid hdd
    have HZ := Lib.hid hz
    clear hdd
    go_enter Tryz.func6, Tryz.ntmps6
    go_wp2_with (first | (go_at_call 18; refine (len_at HD.out).mono ?_; rintro e w' ⟨rfl, rfl⟩) | (go_at_call 19; refine (fl_any HD.out).mono ?_; rintro e w1 ⟨rfl, h1, k1⟩; have H1 := Lib.hid h1; have K1 := Lib.hid k1; clear h1 k1) | (go_at_call 20; refine (rd_is H1.out 0 (by rw [Dk.df_len]; omega) (sec0 D.df) H0.out _ rfl).mono ?_; rintro e w2 ⟨rfl, k2⟩; have H2 := Lib.hid (H1.out.later k2); have K2 := Lib.hid (K1.out.trans k2 (fun _ h => h.elim)); clear k2) | (refine wpList_build_zero rfl rfl ?_) | (refine wpList_neq_sec rfl _ _ rfl (sec0 D.df) zeroSec (new_size H1.out.ok (by rw [Dk.df_len]; omega) H0.out) zeroSec_size rfl rfl ?_; rw [HZ.out]))
  · have HOK := Lib.hid (loggedD_ok H2.out.ok (by rw [Dk.df_len]; exact hlen))
    have HE : Hid (settleD D.df ((loggedD D.df).getD []) = openD D) := Lib.hid (by rw [HOD.out, if_neg (of_decide_eq_false HZ.out)])
    go_wp2_with (first | (go_at_call 22; refine (logged_any (HT.out.keep K2.out HC.out) H2.out (by rw [Dk.df_len]; exact hlen)).mono ?_; rintro e w3 ⟨mb, rfl, hg, k3, ho⟩; have HG := Lib.hid hg; have K3 := Lib.hid k3; have HO := Lib.hid ho; clear hg k3 ho) | (go_at_call 21; refine (settle_from HT.out HC.out HD.out.lt H2.out K2.out K3.out HG.out HO.out (by omega) (by have := HOK.out.2.1; omega) (by rw [Dk.df_len]; exact hlen) HOK.out.2.2).mono ?_; rw [HE.out]; rintro e w4 ⟨rfl, h4, k4⟩; have H4 := Lib.hid h4; have K4 := Lib.hid k4; clear h4 k4) | (go_at_call 23; refine (dead_at H4.out).mono ?_; rw [HDD.out]; rintro e w5 ⟨rfl, rfl⟩))
    go_ret2
    exact open_done H4.out (by have := HOK.out.2.1; omega) K4.out hlen hlen2 HDD.out _ _ (by simp) rfl
  · have HE : Hid (D.df = openD D) := Lib.hid (by rw [HOD.out, if_pos (of_decide_eq_true HZ.out)])
    go_wp2_with (go_at_call 23; refine (dead_at H2.out).mono ?_; rw [HE.out, HDD.out]; rintro e w5 ⟨rfl, rfl⟩)
    go_ret2
    exact open_done (HE.out ▸ H2.out) (by omega) K2.out hlen hlen2 HDD.out _ _ (by simp) rfl
  · have HOK := Lib.hid (loggedD_ok H2.out.ok (by rw [Dk.df_len]; exact hlen))
    have HE : Hid (settleD D.df ((loggedD D.df).getD []) = openD D) := Lib.hid (by rw [HOD.out, if_neg (of_decide_eq_false HZ.out)])
    go_wp2_with (first | (go_at_call 22; refine (logged_any (HT.out.keep K2.out HC.out) H2.out (by rw [Dk.df_len]; exact hlen)).mono ?_; rintro e w3 ⟨mb, rfl, hg, k3, ho⟩; have HG := Lib.hid hg; have K3 := Lib.hid k3; have HO := Lib.hid ho; clear hg k3 ho) | (go_at_call 21; refine (settle_from HT.out HC.out HD.out.lt H2.out K2.out K3.out HG.out HO.out (by omega) (by have := HOK.out.2.1; omega) (by rw [Dk.df_len]; exact hlen) HOK.out.2.2).mono ?_; rw [HE.out]; rintro e w4 ⟨rfl, h4, k4⟩; have H4 := Lib.hid h4; have K4 := Lib.hid k4; clear h4 k4) | (go_at_call 23; refine (dead_at H4.out).mono ?_; rw [HDD.out]; rintro e w5 ⟨rfl, rfl⟩))
    go_ret2
    exact .inl ⟨HDD.out, rfl, H4.out.mono (by have := HOK.out.2.1; omega), K4.out⟩
  · have HE : Hid (D.df = openD D) := Lib.hid (by rw [HOD.out, if_pos (of_decide_eq_true HZ.out)])
    go_wp2_with (go_at_call 23; refine (dead_at H2.out).mono ?_; rw [HE.out, HDD.out]; rintro e w5 ⟨rfl, rfl⟩)
    go_ret2
    exact .inl ⟨HDD.out, rfl, (HE.out ▸ H2.out.mono (by omega)), K2.out⟩

end Go.Proofs.YtibmillfankjfaaGreatDoor
