/- Plainly: behind a crash at any write of a Sync or an opening the home sectors are those before it or behind it. -/
import Derived.Test.YtibmillfankjfaaGreatDoorPure
import Derived.Test.YtibmillfankjfaaGreatDoorSync
namespace Go.Proofs.YtibmillfankjfaaGreatDoor
open Go.RowKit
set_option maxRecDepth 100000

/-! ### writes, one behind the other -/
def wrs (D : Dk) (f : Nat → Nat × ByteArray) : Nat → Dk
  | 0 => D
  | k + 1 => (wrs D f k).dw (f k).1 (f k).2

def logW (g : Grp) (k : Nat) : Nat × ByteArray := (1 + k, gsec g (gkey g k))
def homeW (g : Grp) (k : Nat) : Nat × ByteArray := (gkey g k, gsec g (gkey g k))

theorem kd_wrs (D : Dk) (g : Grp) : ∀ k, kd D g k = wrs D (logW g) k
  | 0 => rfl
  | k + 1 => by rw [kd, wrs, kd_wrs D g k]; rfl

theorem sd_wrs (D : Dk) (g : Grp) : ∀ k, sd D g k = wrs D (homeW g) k
  | 0 => rfl
  | k + 1 => by rw [sd, wrs, sd_wrs D g k]; rfl

theorem dw_dead {D : Dk} (h : deadB D = true) (i : Nat) (s : ByteArray) : D.dw i s = D := by unfold Dk.dw; rw [if_pos h]
theorem df_dead {D : Dk} (h : deadB D = true) : D.df = D := by unfold Dk.df; rw [if_pos h]
theorem dw_live {D : Dk} (h : deadB D = false) (i : Nat) (s : ByteArray) : D.dw i s = D.write i s := by unfold Dk.dw; rw [if_neg (by rw [h]; exact Bool.false_ne_true)]
theorem df_live {D : Dk} (h : deadB D = false) : D.df = D.flush := by unfold Dk.df; rw [if_neg (by rw [h]; exact Bool.false_ne_true)]

theorem wrs_dead {D : Dk} (h : deadB D = true) (f : Nat → Nat × ByteArray) : ∀ k, wrs D f k = D
  | 0 => rfl
  | k + 1 => by rw [wrs, wrs_dead h f k, dw_dead h]

theorem settle_dead {D : Dk} (h : deadB D = true) (g : Grp) : settleD D g = D := by
  rw [settleD, sd_wrs, wrs_dead h, df_dead h, dw_dead h, df_dead h]

theorem wrs_state {D : Dk} (hc : D.cache = []) (f : Nat → Nat × ByteArray) : ∀ k, (wrs D f k).las = D.las ∧ ∃ j, j ≤ k ∧ (wrs D f k).cache = (List.range j).map f ∧ (deadB (wrs D f k) = false → j = k)
  | 0 => ⟨rfl, 0, Nat.le_refl _, by rw [wrs, hc]; rfl, fun _ => rfl⟩
  | k + 1 => by
    obtain ⟨h1, j, hj, h2, h3⟩ := wrs_state hc f k
    rw [wrs]
    cases hd : deadB (wrs D f k)
    · have e := h3 hd
      subst e
      rw [dw_live hd]
      refine ⟨h1, j + 1, Nat.le_refl _, ?_, fun _ => rfl⟩
      simp only [Dk.write, h2, List.range_succ, List.map_append, List.map_cons, List.map_nil]
    · rw [dw_dead hd]
      exact ⟨h1, j, by omega, h2, fun e => (by rw [hd] at e; cases e)⟩

theorem putAll_out (i : Nat) : ∀ (c : List (Nat × ByteArray)) (L : List ByteArray), (∀ x ∈ c, x.1 ≠ i) → (putAll L c).getD i default = L.getD i default
  | [], _, _ => rfl
  | x :: c, L, h => by
    show (putAll (L.set x.1 x.2) c).getD i default = _
    rw [putAll_out i c _ (fun y hy => h y (List.mem_cons_of_mem _ hy))]
    have := h x (List.mem_cons_self ..)
    simp [List.getD_eq_getElem?_getD, this]

theorem putAll_in (i : Nat) : ∀ (c : List (Nat × ByteArray)) (L : List ByteArray), i < L.length → (∃ x ∈ c, x.1 = i) → ∃ x ∈ c, x.1 = i ∧ (putAll L c).getD i default = x.2
  | [], _, _, ⟨x, hx, _⟩ => by simp at hx
  | x :: c, L, hi, h => by
    show ∃ y ∈ x :: c, y.1 = i ∧ (putAll (L.set x.1 x.2) c).getD i default = y.2
    by_cases hc : ∃ y ∈ c, y.1 = i
    · obtain ⟨y, hy, e1, e2⟩ := putAll_in i c (L.set x.1 x.2) (by simpa using hi) hc
      exact ⟨y, List.mem_cons_of_mem _ hy, e1, e2⟩
    · obtain ⟨y, hy, e⟩ := h
      rcases List.mem_cons.1 hy with rfl | hy
      · refine ⟨y, List.mem_cons_self .., e, ?_⟩
        rw [putAll_out i c _ (fun z hz hh => hc ⟨z, hz, hh⟩)]
        subst e
        simp [List.getD_eq_getElem?_getD, hi]
      · exact (hc ⟨y, hy, e⟩).elim

/-! ### what opening makes of what lasts -/
def grpOf (L : List ByteArray) : Grp := (loggedD (Dk.fresh L)).getD []

/-- The home sector i, as opening finds it. -/
def rh (L : List ByteArray) (i : Nat) : ByteArray := if L.getD 0 default = zeroSec then L.getD i default else (glook (grpOf L) i).getD (L.getD i default)

theorem grpOf_same {L M : List ByteArray} (hl : M.length = L.length) (h : ∀ i, i < 48 → M.getD i default = L.getD i default) : grpOf M = grpOf L := by
  unfold grpOf
  rw [logged_same (D := Dk.fresh L) (E := Dk.fresh M) hl h]

/-- Written over by a group. -/
def over (g : Grp) (L : List ByteArray) (i : Nat) : ByteArray := (glook g i).getD (L.getD i default)

theorem homeW_mem {g : Grp} {n : Nat} {x : Nat × ByteArray} (h : x ∈ (List.range n).map (homeW g)) : ∃ k, k < n ∧ x = homeW g k := by
  simp only [List.mem_map, List.mem_range] at h
  obtain ⟨k, hk, rfl⟩ := h
  exact ⟨k, hk, rfl⟩

theorem glook_key {g : Grp} (hg : GOk g) {i : Nat} {s : ByteArray} (h : glook g i = some s) : ∃ k, k < g.length ∧ gkey g k = i := by
  have hm := (glook_mem hg).1 h
  obtain ⟨k, hk, e⟩ := List.getElem_of_mem hm
  exact ⟨k, hk, by rw [gkey_at g k hk, e]⟩

theorem glook_none {g : Grp} (hg : GOk g) {i : Nat} (h : glook g i = none) (k : Nat) (hk : k < g.length) : gkey g k ≠ i := by
  intro e
  have hm : (i, g[k].2) ∈ g := by
    rw [← e, gkey_at g k hk]; exact List.getElem_mem hk
  rw [(glook_mem hg).2 hm] at h
  cases h

/-- Some of a group's home writes over L. -/
theorem over_some {g : Grp} (hg : GOk g) {n : Nat} (hn : n ≤ g.length) (L : List ByteArray) (c : List (Nat × ByteArray)) (hc : ∀ x ∈ c, x ∈ (List.range n).map (homeW g)) (i : Nat) : over g (putAll L c) i = over g L i := by
  unfold over
  cases h : glook g i with
  | some s => rfl
  | none =>
    rw [putAll_out i c L (fun x hx => ?_)]
    obtain ⟨k, hk, rfl⟩ := homeW_mem (hc x hx)
    exact glook_none hg h k (by omega)

theorem over_all {g : Grp} (hg : GOk g) (L : List ByteArray) (i : Nat) (hi : i < L.length) : (putAll L ((List.range g.length).map (homeW g))).getD i default = over g L i := by
  unfold over
  cases h : glook g i with
  | some s =>
    obtain ⟨k, hk, e⟩ := glook_key hg h
    obtain ⟨x, hx, e1, e2⟩ := putAll_in i _ L hi ⟨homeW g k, List.mem_map.2 ⟨k, List.mem_range.2 hk, rfl⟩, e⟩
    rw [e2]
    obtain ⟨k', _, rfl⟩ := homeW_mem hx
    show gsec g (gkey g k') = s
    rw [show gkey g k' = i from e1, gsec, h]
    rfl
  | none =>
    rw [putAll_out i _ L (fun x hx => ?_)]
    · rfl
    obtain ⟨k, hk, rfl⟩ := homeW_mem hx
    exact glook_none hg h k hk

theorem set0_home (L : List ByteArray) (s : ByteArray) (i : Nat) (hi : 48 ≤ i) : (L.set 0 s).getD i default = L.getD i default := by
  simp [List.getD_eq_getElem?_getD, show ¬ 0 = i by omega]

theorem set0_head (L : List ByteArray) (s : ByteArray) (h : 0 < L.length) : (L.set 0 s).getD 0 default = s := by
  simp [List.getD_eq_getElem?_getD, h]

theorem pick_one (x : Nat × ByteArray) (bs : List Bool) : pick [x] bs = [] ∨ pick [x] bs = [x] := by
  cases bs with
  | nil => exact .inl rfl
  | cons b bs =>
    cases b
    · exact .inl rfl
    · exact .inr rfl

/-- What a disk leaves behind a crash, and that it is clean if it lives. -/
structure Leaves (F : Dk) (n : Nat) (A : (Nat → ByteArray) → Prop) (f : Nat → ByteArray) : Prop where
  crash : ∀ picks, A (rh (putAll F.las (pick F.cache picks)))
  cache : deadB F = false → F.cache = []
  head : deadB F = false → F.las.getD 0 default = zeroSec
  home : deadB F = false → ∀ i, 48 ≤ i → i < n → F.las.getD i default = f i

theorem rh_head {L : List ByteArray} (h : L.getD 0 default = zeroSec) (i : Nat) : rh L i = L.getD i default := by unfold rh; rw [if_pos h]
theorem rh_log {L : List ByteArray} (h : ¬ L.getD 0 default = zeroSec) (i : Nat) : rh L i = over (grpOf L) L i := by unfold rh; rw [if_neg h]; rfl

theorem settle_leaves {D : Dk} {g : Grp} (hc : D.cache = []) (hg : GOk g) (hin : GIn D g) (hlen : 128 ≤ D.las.length) (h0 : ¬ D.las.getD 0 default = zeroSec) (hL : grpOf D.las = g) :
    Leaves (settleD D g) D.las.length (fun f => ∀ i, 48 ≤ i → i < D.las.length → f i = over g D.las i) (over g D.las) := by
  have hst := wrs_state hc (homeW g) g.length
  rw [← sd_wrs] at hst
  obtain ⟨hlas, j, hj, hcache, hfull⟩ := hst
  have hlow : ∀ (c : List (Nat × ByteArray)), (∀ x ∈ c, x ∈ (List.range j).map (homeW g)) → ∀ i, i < 48 → (putAll D.las c).getD i default = D.las.getD i default := by
    intro c hcm i hi
    refine putAll_out i c _ (fun x hx => ?_)
    obtain ⟨k, hk, rfl⟩ := homeW_mem (hcm x hx)
    have := (gin_key hin k (by omega)).1
    show gkey g k ≠ i
    omega
  -- with some of the home writes there
  have hsome : ∀ (c : List (Nat × ByteArray)), (∀ x ∈ c, x ∈ (List.range j).map (homeW g)) → ∀ i, rh (putAll D.las c) i = over g D.las i := by
    intro c hcm i
    have e0 : ¬ (putAll D.las c).getD 0 default = zeroSec := by rw [hlow c hcm 0 (by omega)]; exact h0
    rw [rh_log e0, grpOf_same (putAll_length _ _) (hlow c hcm), hL]
    exact over_some hg hj _ _ hcm i
  cases hd : deadB (sd D g g.length)
  · have e := hfull hd
    subst e
    have hd2 : deadB (sd D g g.length).flush = false := hd
    have hl3 : (sd D g g.length).flush.las = putAll D.las ((List.range g.length).map (homeW g)) := by simp only [Dk.flush]; rw [hlas, hcache]
    have e1 : settleD D g = ((sd D g g.length).flush.write 0 zeroSec).df := by rw [settleD, df_live hd, dw_live hd2]
    have hlen3 : (putAll D.las ((List.range g.length).map (homeW g))).length = D.las.length := putAll_length _ _
    have hA : ∀ i, 48 ≤ i → i < D.las.length → rh ((putAll D.las ((List.range g.length).map (homeW g))).set 0 zeroSec) i = over g D.las i := by
      intro i h1 h2
      rw [rh_head (set0_head _ _ (by rw [hlen3]; omega)), set0_home _ _ _ h1]
      exact over_all hg _ i h2
    cases hd3 : deadB ((sd D g g.length).flush.write 0 zeroSec)
    · rw [e1, df_live hd3]
      have hl4 : ((sd D g g.length).flush.write 0 zeroSec).flush.las = (putAll D.las ((List.range g.length).map (homeW g))).set 0 zeroSec := by
        show putAll (sd D g g.length).flush.las ((sd D g g.length).flush.cache ++ [(0, zeroSec)]) = _
        rw [hl3]; rfl
      refine ⟨fun picks i h1 h2 => ?_, fun _ => rfl, fun _ => ?_, fun _ i h1 h2 => ?_⟩
      · rw [hl4]
        have : pick ((sd D g g.length).flush.write 0 zeroSec).flush.cache picks = [] := by simp [Dk.flush, pick]
        rw [this]
        exact hA i h1 h2
      · rw [hl4]; exact set0_head _ _ (by rw [hlen3]; omega)
      · rw [hl4, set0_home _ _ _ h1]; exact over_all hg _ i h2
    · rw [e1, df_dead hd3]
      refine ⟨fun picks i h1 h2 => ?_, fun e => (by rw [hd3] at e; cases e), fun e => (by rw [hd3] at e; cases e), fun e => (by rw [hd3] at e; cases e)⟩
      have e5 : ((sd D g g.length).flush.write 0 zeroSec).las = putAll D.las ((List.range g.length).map (homeW g)) := hl3
      have e6 : ((sd D g g.length).flush.write 0 zeroSec).cache = [(0, zeroSec)] := rfl
      rw [e5, e6]
      rcases pick_one (0, zeroSec) picks with e7 | e7
      · rw [e7]
        exact hsome _ (fun x hx => hx) i
      · rw [e7]
        exact hA i h1 h2
  · have e1 : settleD D g = sd D g g.length := by rw [settleD, df_dead hd, dw_dead hd, df_dead hd]
    rw [e1]
    refine ⟨fun picks i _ _ => ?_, fun e => (by rw [hd] at e; cases e), fun e => (by rw [hd] at e; cases e), fun e => (by rw [hd] at e; cases e)⟩
    rw [hlas, hcache]
    exact hsome _ (fun x hx => pick_mem _ _ _ hx) i

/-! ### what is new lies over what lasts -/
def Dk.Coh (D : Dk) : Prop := D.new = putAll D.las D.cache

theorem Dk.Coh.dw {D : Dk} (h : D.Coh) (i : Nat) (s : ByteArray) : (D.dw i s).Coh := by
  unfold Dk.dw
  split
  · exact h
  · show D.new.set i s = putAll D.las (D.cache ++ [(i, s)])
    rw [putAll_snoc, h]

theorem Dk.Coh.df {D : Dk} (h : D.Coh) : D.df.Coh := by
  unfold Dk.df
  split
  · exact h
  · exact h

theorem Dk.Coh.limit {D : Dk} (h : D.Coh) (k : Int) : (D.limit k).Coh := h
theorem Dk.Coh.fresh (L : List ByteArray) : (Dk.fresh L).Coh := rfl

theorem Dk.Coh.wrs {D : Dk} (h : D.Coh) (f : Nat → Nat × ByteArray) : ∀ k, (wrs D f k).Coh
  | 0 => h
  | k + 1 => (Dk.Coh.wrs h f k).dw _ _

theorem Dk.Coh.settle {D : Dk} (h : D.Coh) (g : Grp) : (settleD D g).Coh := by
  rw [settleD, sd_wrs]; exact (((h.wrs _ _).df).dw _ _).df

theorem Dk.Coh.keepG {D : Dk} (h : D.Coh) (g : Grp) : (keepD D g).Coh := by
  rw [keepD, kd_wrs]; exact (((h.wrs _ _).df).dw _ _).df

theorem Dk.Coh.sync {D : Dk} (h : D.Coh) (g : Grp) : (syncD D g).Coh := by
  unfold syncD; split
  · exact h
  · exact (h.keepG g).settle g

theorem Dk.Coh.opened {D : Dk} (h : D.Coh) : (openD D).Coh := by
  unfold openD; split
  · exact h.df
  · exact h.df.settle _

theorem Dk.Coh.clean {D : Dk} (h : D.Coh) (hc : D.cache = []) : D.new = D.las := by
  rw [h, hc]; rfl

/-! ### opening -/
theorem open_leaves {D : Dk} (hok : D.Ok) (hco : D.Coh) (hc : D.cache = []) (hlen : 128 ≤ D.las.length) :
    Leaves (openD D) D.las.length (fun f => ∀ i, 48 ≤ i → i < D.las.length → f i = rh D.las i) (rh D.las) := by
  have hnew := hco.clean hc
  cases hd : deadB D
  · have e1 : D.df = D.flush := df_live hd
    have hl : D.df.las = D.las := by rw [e1]; show putAll D.las D.cache = _; rw [hc]; rfl
    have hcc : D.df.cache = [] := by rw [e1]; rfl
    have hn : D.df.new = D.las := by rw [e1]; exact hnew
    have h0e : sec0 D.df = D.las.getD 0 default := by unfold sec0; rw [hn]
    unfold openD
    split
    · rename_i h0
      rw [h0e] at h0
      refine ⟨fun picks i _ _ => ?_, fun _ => hcc, fun _ => by rw [hl]; exact h0, fun _ i _ _ => by rw [hl, rh_head h0]⟩
      rw [hcc, hl]
      rfl
    · rename_i h0
      rw [h0e] at h0
      have hg : (loggedD D.df).getD [] = grpOf D.las := by
        unfold grpOf
        rw [logged_same (D := Dk.fresh D.las) (E := D.df) (by rw [hl]; rfl) (fun i _ => by rw [hn]; rfl)]
      have hokf : D.df.Ok := by
        rw [e1]
        exact ⟨by rw [← e1, hn, hl], by rw [← e1, hl]; exact hok.pos, by simp [Dk.flush], by rw [← e1, hl]; exact hok.slas, by rw [← e1, hn, ← hnew]; exact hok.snew⟩
      obtain ⟨g1, g2, g3⟩ := loggedD_ok hokf (by rw [hl]; exact hlen)
      have := settle_leaves (D := D.df) (g := (loggedD D.df).getD []) hcc g1 g3 (by rw [hl]; exact hlen) (by rw [hl]; exact h0) (by rw [hl]; exact hg.symm)
      rw [hl] at this
      have hr : ∀ i, over ((loggedD D.df).getD []) D.las i = rh D.las i := fun i => by rw [hg, rh_log h0]
      exact ⟨fun picks i h1 h2 => by rw [this.crash picks i h1 h2, hr], this.cache, this.head, fun e i h1 h2 => by rw [this.home e i h1 h2, hr]⟩
  · have e1 : openD D = D := by
      unfold openD
      rw [df_dead hd]
      split
      · rfl
      · exact settle_dead hd _
    rw [e1]
    refine ⟨fun picks i _ _ => ?_, fun e => (by rw [hd] at e; cases e), fun e => (by rw [hd] at e; cases e), fun e => (by rw [hd] at e; cases e)⟩
    rw [hc]
    rfl

/-! ### a Sync -/
theorem logW_mem {g : Grp} {n : Nat} {x : Nat × ByteArray} (h : x ∈ (List.range n).map (logW g)) : ∃ k, k < n ∧ x = logW g k := by
  simp only [List.mem_map, List.mem_range] at h
  obtain ⟨k, hk, rfl⟩ := h
  exact ⟨k, hk, rfl⟩

/-- Either before or behind. -/
def Either (n : Nat) (a b : Nat → ByteArray) (f : Nat → ByteArray) : Prop := (∀ i, 48 ≤ i → i < n → f i = a i) ∨ (∀ i, 48 ≤ i → i < n → f i = b i)

theorem sync_leaves {D : Dk} {g : Grp} (hc : D.cache = []) (hg : GOk g) (hin : GIn D g) (hn : g.length ≤ 40) (hlen : 128 ≤ D.las.length) (h0 : D.las.getD 0 default = zeroSec) :
    Leaves (syncD D g) D.las.length (Either D.las.length (fun i => D.las.getD i default) (over g D.las)) (over g D.las) := by
  unfold syncD
  split
  · rename_i hz
    obtain rfl : g = [] := List.eq_nil_of_length_eq_zero hz
    refine ⟨fun picks => .inl (fun i _ _ => ?_), fun _ => hc, fun _ => h0, fun _ i _ _ => rfl⟩
    rw [hc]
    exact rh_head h0 i
  rename_i hz
  have hst := wrs_state hc (logW g) g.length
  rw [← kd_wrs] at hst
  obtain ⟨hlas, j, hj, hcache, hfull⟩ := hst
  have hout : ∀ (c : List (Nat × ByteArray)), (∀ x ∈ c, x ∈ (List.range j).map (logW g)) → ∀ i, i = 0 ∨ 48 ≤ i → (putAll D.las c).getD i default = D.las.getD i default := by
    intro c hcm i hi
    refine putAll_out i c _ (fun x hx => ?_)
    obtain ⟨k, hk, rfl⟩ := logW_mem (hcm x hx)
    show 1 + k ≠ i
    omega
  have hbefore : ∀ (c : List (Nat × ByteArray)), (∀ x ∈ c, x ∈ (List.range j).map (logW g)) → ∀ i, 48 ≤ i → rh (putAll D.las c) i = D.las.getD i default := by
    intro c hcm i hi
    rw [rh_head (by rw [hout c hcm 0 (.inl rfl)]; exact h0), hout c hcm i (.inr hi)]
  cases hd : deadB (kd D g g.length)
  · have e := hfull hd
    subst e
    obtain ⟨L1, hL1⟩ : ∃ L1, L1 = putAll D.las ((List.range g.length).map (logW g)) := ⟨_, rfl⟩
    have hlen1 : L1.length = D.las.length := by rw [hL1]; exact putAll_length _ _
    have hd2 : deadB (kd D g g.length).flush = false := hd
    have hl3 : (kd D g g.length).flush.las = L1 := by simp only [Dk.flush]; rw [hlas, hcache, hL1]
    have e1 : keepD D g = ((kd D g g.length).flush.write 0 (headOf g)).df := by rw [keepD, df_live hd, dw_live hd2]
    -- the log tells of the group
    have hlogsec : ∀ k, k < g.length → L1.getD (1 + k) default = gsec g (gkey g k) := by
      intro k hk
      obtain ⟨x, hx, e2, e3⟩ := putAll_in (1 + k) ((List.range g.length).map (logW g)) D.las (by omega) ⟨logW g k, List.mem_map.2 ⟨k, List.mem_range.2 hk, rfl⟩, rfl⟩
      rw [hL1, e3]
      obtain ⟨k', _, rfl⟩ := logW_mem hx
      have : 1 + k' = 1 + k := e2
      obtain rfl : k' = k := by omega
      rfl
    have hhome : ∀ i, 48 ≤ i → L1.getD i default = D.las.getD i default := fun i hi => by rw [hL1]; exact hout _ (fun x hx => hx) i (.inr hi)
    have hgrp : grpOf (L1.set 0 (headOf g)) = g := by
      unfold grpOf
      have hin2 : GIn (Dk.fresh (L1.set 0 (headOf g))) g := hin.of_len (by show (L1.set 0 (headOf g)).length = _; rw [List.length_set, hlen1])
      rw [logged_tells hg hn hin2 ⟨set0_head _ _ (by omega), fun k hk => ?_⟩]
      · rfl
      · show (L1.set 0 (headOf g)).getD (1 + k) default = _
        rw [← hlogsec k hk]
        simp [List.getD_eq_getElem?_getD, show ¬ 0 = 1 + k by omega]
    have hh0 : ¬ (L1.set 0 (headOf g)).getD 0 default = zeroSec := by
      rw [set0_head _ _ (by omega)]; exact headOf_ne (by omega) (by omega)
    have hov : ∀ i, 48 ≤ i → over g (L1.set 0 (headOf g)) i = over g D.las i := fun i hi => by unfold over; rw [set0_home _ _ _ hi, hhome i hi]
    cases hd3 : deadB ((kd D g g.length).flush.write 0 (headOf g))
    · have hl4 : ((kd D g g.length).flush.write 0 (headOf g)).flush.las = L1.set 0 (headOf g) := by
        show putAll (kd D g g.length).flush.las ((kd D g g.length).flush.cache ++ [(0, headOf g)]) = _
        rw [hl3]; rfl
      have hk4 : keepD D g = ((kd D g g.length).flush.write 0 (headOf g)).flush := by rw [e1, df_live hd3]
      have hlk : (keepD D g).las = L1.set 0 (headOf g) := by rw [hk4, hl4]
      have hlkn : (keepD D g).las.length = D.las.length := keepD_len D g
      have := settle_leaves (D := keepD D g) (g := g) (by rw [hk4]; rfl) hg (hin.of_len hlkn) (by rw [hlkn]; exact hlen) (by rw [hlk]; exact hh0) (by rw [hlk]; exact hgrp)
      rw [hlkn, hlk] at this
      exact ⟨fun picks => .inr (fun i h1 h2 => by rw [this.crash picks i h1 h2, hov i h1]), this.cache, this.head, fun e i h1 h2 => by rw [this.home e i h1 h2, hov i h1]⟩
    · have hk4 : keepD D g = (kd D g g.length).flush.write 0 (headOf g) := by rw [e1, df_dead hd3]
      rw [hk4, settle_dead hd3]
      refine ⟨fun picks => ?_, fun e => (by rw [hd3] at e; cases e), fun e => (by rw [hd3] at e; cases e), fun e => (by rw [hd3] at e; cases e)⟩
      have e5 : ((kd D g g.length).flush.write 0 (headOf g)).las = L1 := hl3
      have e6 : ((kd D g g.length).flush.write 0 (headOf g)).cache = [(0, headOf g)] := rfl
      rw [e5, e6]
      rcases pick_one (0, headOf g) picks with e7 | e7
      · rw [e7]
        refine .inl (fun i h1 _ => ?_)
        show rh L1 i = _
        rw [hL1]
        exact hbefore _ (fun x hx => hx) i h1
      · rw [e7]
        refine .inr (fun i h1 _ => ?_)
        show rh (L1.set 0 (headOf g)) i = _
        rw [rh_log hh0, hgrp, hov i h1]
  · have e1 : keepD D g = kd D g g.length := by rw [keepD, df_dead hd, dw_dead hd, df_dead hd]
    rw [e1, settle_dead hd]
    refine ⟨fun picks => .inl (fun i h1 _ => ?_), fun e => (by rw [hd] at e; cases e), fun e => (by rw [hd] at e; cases e), fun e => (by rw [hd] at e; cases e)⟩
    rw [hlas, hcache]
    exact hbefore _ (fun x hx => pick_mem _ _ _ hx) i h1

end Go.Proofs.YtibmillfankjfaaGreatDoor
